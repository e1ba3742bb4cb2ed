/- The contract of the flash device's Crash. No statement of the seat is proved here. -/
import Derived.Test.YtfdabkcbefhdaaaFFlush
namespace Go.Proofs.Ytfdabkcbefhdaaa
set_option maxRecDepth 20000
open Go.RowKit

def crashF (zs : List Int) : Nat → Int × List UInt8 → Option (List UInt8 × Bool) := fun k p => if pickOf zs k = 1 then some (p.2, false) else if pickOf zs k = 2 then some (zeros, true) else none
def Dev.crash (d : Dev) (zs : List Int) : Dev := { d.apply (crashF zs) d.waits.length with waits := [], off := false, armed := false, left := 0 }
theorem apply_next {d : Dev} {f : Nat → Int × List UInt8 → Option (List UInt8 × Bool)} {k : Nat} {p : Int × List UInt8} (h : d.waits[k]? = some p) : d.apply f (k + 1) = match f k p with | some q => (d.apply f k).keep p.1 q | none => d.apply f k := by
  show (match d.waits[k]? with | some p => _ | none => _) = _
  rw [h]; rfl
theorem DevAt.drew {B : Nat} {w : World} {db : Nat} {d : Dev} {N : Nat} (h : DevAt B w db d N) : DevAt B w.drew db d N := ⟨h.ok, h.ge, h.box⟩
theorem build68t (w : World) : (Instr.build 68 #[(1, .bool true)]).run Try.prog w = .ok (secV (zeros, true)) w := by kernel_rfl

set_option maxHeartbeats 800000 in
theorem crash_any {B : Nat} {w : World} {db : Nat} {d : Dev} {N : Nat} (h : DevAt B w db d N) (hN : N + d.waits.length < maxLen) (hlen : d.waits.length < 1000000) {v : Value} {zs : List Int} (hz : Ints FK B w v zs) :
    Calls Try.prog 14 #[.pointer (some ⟨db, 0, none⟩), v] w fun e w' => e = .returned (.tuple #[]) ∧ DevAt B w' db (d.crash zs) (N + d.waits.length) ∧ Fr FK B w w' := by
  obtain ⟨mv, sv, -, -, c2, -, -, -, -, -, hrow⟩ := h.cells
  obtain ⟨sa, cap, rfl⟩ := ownsRow_slice hrow
  go_enter Try.func14, Try.ntmps14
  go_wp2
  go_loopw [13] (fun iv wr => ∃ k : Nat, k ≤ d.waits.length ∧ iv = .int .i64 k ∧ DevAt B wr db (d.apply (crashF zs) k) (N + k) ∧ wr.ownsRow B 65 257 (.slice sa d.waits.length cap) d.waits.length (d.waits.flatMap wrCells) ∧ Fr KK B w wr)
    (fun iv _ => d.waits.length - (intOf iv).toNat)
  case atStart => exact ⟨0, Nat.zero_le _, rfl, h, hrow, Fr.refl _ _ _⟩
  case round =>
    obtain ⟨k, hk, rfl, hdk, hrk, hfk⟩ := hrel
    by_cases hlt : k < d.waits.length
    · obtain ⟨p, hp⟩ : ∃ p, d.waits[k]? = some p := ⟨_, List.getElem?_eq_getElem hlt⟩
      obtain ⟨g, cap', cur, hsv, hg, hcur⟩ := row_at hrk h.ok.len hp
      simp only [Value.slice.injEq] at hsv
      obtain ⟨rfl, -, rfl⟩ := hsv
      have HP := Lib.hid hp
      have HG := Lib.hid hg
      have HCUR := Lib.hid hcur
      clear hp hg hcur c2 hrow
      have hpl : p.2.length = 256 := h.ok.len p (List.mem_of_getElem? HP.out)
      have hps := h.ok.at_ p (List.mem_of_getElem? HP.out)
      have hsz := h.ok.size
      have HZ : Hid ((Try.prog.info? 65).map (·.size) = some (wrCells p).length) := by rw [wrCells_size p hpl]; exact sz65
      have HZ5 : Hid ((Try.prog.info? 65).map (·.size) = some (wrCells p).toArray.size) := by rw [List.size_toArray, wrCells_size p hpl]; exact sz65
      have HZ2 : Hid ((wrCells (0, zeros)).toArray.size = (wrCells p).toArray.size) := by show _ = _; simp only [List.size_toArray]; rw [wrCells_size p hpl, wrCells_size _ zeros_length]
      have HZ3 := Lib.hid (all_oneCell_toArray (wrCells_one p))
      have HZ4 : Hid ((Try.prog.info? 63).map (·.size) = some (cellsB p.2).length) := by rw [cellsB_length, hpl]; exact sz63
      go_wp2_with (first
        | (with_reducible refine wpList_load_part rfl 65 (.tmp 16) rfl g (k * 257) 65 (0, 0) cur (wrCells p) rfl HG.out HCUR.out _ Try.underlying65 rfl HZ.out ?_)
        | (with_reducible refine wpList_alloc_row rfl 65 rfl (wrCells (0, zeros)).toArray (zero65 _) ?_; intro w2 hg2 hb2 hs2)
        | (with_reducible refine wpList_store_row rfl 65 (.tmp 5) (.tmp 17) rfl wr.heap.size 65 (wrCells (0, zeros)).toArray (wrCells p).toArray rfl rfl hg2 HZ5.out HZ2.out HZ3.out ?_; intro w3 hg3 hgr3 hs3; have c0 := cell_row hg3 0 (v := .int .i64 p.1) rfl; have HG3 := Lib.hid hg3; clear hg3 hg2))
      have hb3 := Below.grown hb2 hgr3 (Nat.le_of_lt hs2) (fun k e => by cases e; exact Nat.le_refl _)
      have hz3 := (hz.fr hfk.kk).fr (Fr.of_below (K := FK) (B := B) hb3)
      refine (pick_any hz3 k (by omega)).mono ?_
      rintro e w3' ⟨rfl, rfl⟩
      have hnx := apply_next (f := crashF zs) HP.out
      have hpr := pick_range zs k
      have hdw := hdk.below hb3
      have hrw := row_keep (K := KK) (B' := B) hrk (Fr.of_below hb3) (fun _ => rfl)
      have hfw := hfk.trans (Fr.of_below (K := KK) (B := B) hb3)
      clear hgr3 hb2 hb3 hs3 hs2 hdk hrk hfk hz3
      rcases (show pickOf zs k = 0 ∨ pickOf zs k = 1 ∨ pickOf zs k = 2 by omega) with hq | hq | hq
      · have hnx' : d.apply (crashF zs) (k + 1) = d.apply (crashF zs) k := by rw [hnx]; simp [crashF, hq]
        rw [hq]
        rw [← hnx'] at hdw
        have HDW := Lib.hid hdw
        clear hnx hnx' hdw hpr
        go_wp2
        go_roundw
        case rel => exact ⟨k + 1, by omega, by go_num, HDW.out.mono (by omega), hrw, hfw⟩
        case measure => simp [intOf]; omega
      · have hnx' : d.apply (crashF zs) (k + 1) = (d.apply (crashF zs) k).keep p.1 (p.2, false) := by rw [hnx]; simp [crashF, hq]
        have HN := Lib.hid hnx'
        rw [hq]
        clear hnx hnx' hpr hq
        go_wp2_with (first
          | (with_reducible refine wpList_load_part rfl 63 (.tmp 26) rfl wr.heap.size 1 65 (0, 0) (wrCells p).toArray (cellsB p.2) rfl HG3.out (wr_bytes p) _ Try.underlying63 rfl HZ4.out ?_)
          | (with_reducible refine wpList_build1 rfl 68 0 (.tmp 27) rfl (.agg (cellsB p.2).toArray) (secV (p.2, false)) rfl (build68 p.2 hpl _) ?_))
        refine (keep_any hdw p.1 (by omega) (p.2, false) hpl (by omega)).mono ?_
        rintro e w4 ⟨rfl, h4, f4⟩
        rw [← HN.out] at h4
        have hr4 := row_keep hrw f4 (fun _ => rfl)
        have hf4 := hfw.trans f4
        clear c0 hdw hrw hfw f4
        go_wp2
        go_roundw
        case rel => exact ⟨k + 1, by omega, by go_num, h4, hr4, hf4⟩
        case measure => simp [intOf]; omega
      · have hnx' : d.apply (crashF zs) (k + 1) = (d.apply (crashF zs) k).keep p.1 (zeros, true) := by rw [hnx]; simp [crashF, hq]
        have HN := Lib.hid hnx'
        rw [hq]
        clear hnx hnx' hpr hq
        go_wp2_with (with_reducible refine wpList_build1 rfl 68 1 (.const (.bool true)) rfl (.bool true) (secV (zeros, true)) rfl (build68t _) ?_)
        refine (keep_any hdw p.1 (by omega) (zeros, true) zeros_length (by omega)).mono ?_
        rintro e w4 ⟨rfl, h4, f4⟩
        rw [← HN.out] at h4
        have hr4 := row_keep hrw f4 (fun _ => rfl)
        have hf4 := hfw.trans f4
        clear c0 hdw hrw hfw f4
        go_wp2
        go_roundw
        case rel => exact ⟨k + 1, by omega, by go_num, h4, hr4, hf4⟩
        case measure => simp [intOf]; omega
    · obtain rfl : k = d.waits.length := by omega
      obtain ⟨mv', sv', c0', c1', c2', c3', c4', c5', fz, hl', -⟩ := hdk.cells
      obtain ⟨mr, rfl⟩ : ∃ r, mv' = .map r := by
        rcases hl' with ⟨e, _⟩ | ⟨mb, D, e, _⟩
        · exact ⟨_, e⟩
        · exact ⟨_, e⟩
      have f0' := fz 0
      have f1' := fz 1
      have f2' := fz 2
      have f3' := fz 3
      have f4' := fz 4
      have f5' := fz 5
      have HL := Lib.hid hl'
      have HDK := Lib.hid hdk
      have HFK := Lib.hid hfk.kk
      clear fz hl' hrk hfk hrow c2 hdk h hz
      go_wp2
      go_still_tail 11, mixed
      change wpList _ _ _ _ _ wr.drew
      go_wp2
      go_returns
      have hok := HDK.out.ok
      have ha := HDK.out.again (d' := d.crash zs) (mv := .map mr) (mv' := .map mr) HL.out rfl ⟨hok.1, by simp [Dev.crash], by simp [Dev.crash], by simp [Dev.crash], hok.5⟩ rfl
      refine ⟨rfl, ha.drew, Fr.drew (HFK.out.trans ?_)⟩
      obtain ⟨ok, ge, mv0, sv, h1, h2, h3⟩ := HDK.out
      exact six_fr h1 ge rfl _ _ _ _ _ _
end Go.Proofs.Ytfdabkcbefhdaaa
