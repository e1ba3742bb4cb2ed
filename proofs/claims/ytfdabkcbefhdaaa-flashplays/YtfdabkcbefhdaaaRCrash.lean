/- The contract of the document's Crash. No statement of the seat is proved here. -/
import Derived.Test.YtfdabkcbefhdaaaRFlush
import Derived.Test.YtfdabkcbefhdaaaRTear
namespace Go.Proofs.Ytfdabkcbefhdaaa
set_option maxRecDepth 20000
open Go.RowKit

theorem RDevAt.fresh3 {B : Nat} {w : World} {rb : Nat} {d : Dev} (h : RDevAt B w rb d) : RDevAt B (((w.setCell ⟨rb, 2, none⟩ (.slice none 0 0)).setCell ⟨rb, 3, none⟩ (.bool false)).setCell ⟨rb, 4, none⟩ (.int .i64 (-1))) rb { d with waits := [], off := false, armed := false, left := 0 } ∧
    Fr RK B w (((w.setCell ⟨rb, 2, none⟩ (.slice none 0 0)).setCell ⟨rb, 3, none⟩ (.bool false)).setCell ⟨rb, 4, none⟩ (.int .i64 (-1))) := by
  obtain ⟨h1, f1⟩ := h.unwait
  have hk := h.ok
  obtain ⟨h2, f2⟩ := h1.store (d' := { d with waits := [], off := false }) 3 (.bool false) ⟨hk.1, hk.2, by simp, by simp, hk.5⟩ (fun _ _ _ => by simp [armR]) rfl rfl rfl
  obtain ⟨h3, f3⟩ := h2.store (d' := { d with waits := [], off := false, armed := false, left := 0 }) 4 (.int .i64 (-1)) ⟨hk.1, by simp, by simp, by simp, hk.5⟩ (fun _ _ _ => by simp [armR]) rfl rfl rfl
  exact ⟨h3, f1.trans (f2.trans f3)⟩
theorem RDevAt.apart0 {B : Nat} {w : World} {rb : Nat} {d : Dev} (h : RDevAt B w rb d) {g n c : Nat} (hc : w.cell? ⟨rb, 0, none⟩ = some (.slice (some ⟨g, 0, none⟩) n c)) {x : Nat} {cs : Array Value} (hx : w.heap[x]? = some (.cells cs 75 (0, 0))) : g ≠ x := by
  obtain ⟨ok, ge, lv, tv, wv, L, T, h1, h2, h3, h4, h5⟩ := h
  rw [cell_of_row _ _ _ _ _ _ h1] at hc
  obtain rfl : lv = .slice (some ⟨g, 0, none⟩) n c := by simpa using hc
  rintro rfl
  rcases h3.2 with ⟨hv, _⟩ | ⟨g', cap', cur, hv, _, hg, _⟩
  · cases hv
  · cases hv
    rw [hx] at hg
    injection hg with e
    injection e with _ e _
    exact absurd e (by decide)
theorem RDevAt.apart1 {B : Nat} {w : World} {rb : Nat} {d : Dev} (h : RDevAt B w rb d) {g n c : Nat} (hc : w.cell? ⟨rb, 1, none⟩ = some (.slice (some ⟨g, 0, none⟩) n c)) {x : Nat} {cs : Array Value} (hx : w.heap[x]? = some (.cells cs 75 (0, 0))) : g ≠ x := by
  obtain ⟨ok, ge, lv, tv, wv, L, T, h1, h2, h3, h4, h5⟩ := h
  rw [cell_of_row _ _ _ _ _ _ h1] at hc
  obtain rfl : tv = .slice (some ⟨g, 0, none⟩) n c := by simpa using hc
  rintro rfl
  rcases h4.2 with ⟨hv, _⟩ | ⟨g', cap', cur, hv, _, hg, _⟩
  · cases hv
  · cases hv
    rw [hx] at hg
    injection hg with e
    injection e with _ e _
    exact absurd e (by decide)
set_option maxHeartbeats 12800000 in
theorem rcrash_any {B : Nat} {w : World} {rb : Nat} {d : Dev} (h : RDevAt B w rb d) (hlen : d.waits.length < 1000000) {v : Value} {zs : List Int} (hz : Ints RK B w v zs) :
    Calls Try.prog 34 #[.pointer (some ⟨rb, 0, none⟩), v] w fun e w' => e = .returned (.tuple #[]) ∧ RDevAt B w' rb (d.crash zs) ∧ Fr RK B w w' := by
  obtain ⟨M, hM⟩ : ∃ M, d.waits.length = M := ⟨_, rfl⟩
  obtain ⟨S, hS⟩ : ∃ S, d.size = S := ⟨_, rfl⟩
  have HM := Lib.hid hM
  have HZ := Lib.hid hS
  have HH := Lib.hid h
  rw [hM] at hlen
  clear hM hS
  go_enter Try.func34, Try.ntmps34
  go_wp2
  go_loopw [4] (fun iv wr => ∃ k : Nat, k ≤ M ∧ iv = .int .i64 k ∧ RDevAt B wr rb (d.apply (crashF zs) k) ∧ Fr RK B w wr) (fun iv _ => M - (intOf iv).toNat)
  case atStart => exact ⟨0, Nat.zero_le _, rfl, h, Fr.refl _ _ _⟩
  case round =>
    obtain ⟨k, hk, rfl, hr, hf⟩ := hrel
    have sm := apply_same d (crashF zs) k
    obtain ⟨la, lc, ta, tc, wa, wc, L, T, c0, c1, c2, -, -, -, oW⟩ := hr.all
    rw [sm.1, HM.out] at c2
    by_cases hlt : k < M
    · obtain ⟨p, hp⟩ : ∃ p, d.waits[k]? = some p := ⟨_, List.getElem?_eq_getElem (by have := HM.out; omega)⟩
      obtain ⟨wg, rfl, ca, cb⟩ := wait_at oW (k := k) (p := p) (by rw [sm.1]; exact hp)
      have hpm := List.mem_of_getElem? hp
      have hat := HH.out.ok.at_ p hpm
      have hpl := HH.out.ok.len p hpm
      obtain ⟨i, hi⟩ : ∃ i : Nat, p.1 = (i : Int) := ⟨p.1.toNat, by omega⟩
      have hiS : i < S := by have := HZ.out; omega
      obtain ⟨bs, hbs⟩ : ∃ bs : ByteArray, ⟨p.2.toArray⟩ = bs := ⟨_, rfl⟩
      have nx := apply_next (f := crashF zs) hp
      have hpr := pick_range zs k
      rw [hi] at nx ca
      rw [hbs] at cb
      obtain ⟨wb, hwb⟩ : ∃ wb, wr.alloc (.cells #[.int .i64 i, .string bs] 75) = wb := ⟨_, rfl⟩
      have hbl : Below wr.heap.size wr wb := by rw [← hwb]; exact (Below.refl _ _).alloc (Nat.le_refl _) _
      have b0 : wb.cell? ⟨wr.heap.size, 0, none⟩ = some (.int .i64 i) := by rw [← hwb]; rw [cell_of_row _ _ _ _ _ _ (heap_alloc_new wr _)]; rfl
      have b1 : wb.cell? ⟨wr.heap.size, 1, none⟩ = some (.string bs) := by rw [← hwb]; rw [cell_of_row _ _ _ _ _ _ (heap_alloc_new wr _)]; rfl
      have hwx : wb.heap[wr.heap.size]? = some (.cells #[.int .i64 i, .string bs] 75 (0, 0)) := by rw [← hwb]; exact heap_alloc_new wr _
      have HWX := Lib.hid hwx
      have hz3 := (hz.fr hf).fr (Fr.of_below (K := RK) (B := B) hbl)
      have hr3 := hr.below hbl
      have hf3 := hf.trans (Fr.of_below (K := RK) (B := B) hbl)
      have HR3 := Lib.hid hr3
      have HF3 := Lib.hid hf3
      have HP := Lib.hid hpl
      have HI := Lib.hid hiS
      have HSM := Lib.hid sm.2.1
      have HNX := Lib.hid nx
      have HWB := Lib.hid hwb
      have HBS := Lib.hid hbs
      clear c0 c1 oW hp hpm hat hpl hi sm hr hf hr3 hf3 nx hz h hbl hwb hbs hwx
      go_wp2_with fail
      rw [HWB.out]
      refine (Pick_any hz3 k (by omega)).mono ?_
      rintro e w3' ⟨rfl, rfl⟩
      clear hz3 ca cb c2
      have FZ := Lib.hid HR3.out.cells
      rcases (show pickOf zs k = 0 ∨ pickOf zs k = 1 ∨ pickOf zs k = 2 by omega) with hq | hq | hq
      · have hd : d.apply (crashF zs) (k + 1) = d.apply (crashF zs) k := by rw [HNX.out]; simp [crashF, hq]
        have FIN := Lib.hid (And.intro HR3.out HF3.out)
        rw [← hd] at FIN
        rw [hq]
        clear hq hd hpr
        go_wp2
        go_roundw
        case rel => exact ⟨k + 1, by omega, by go_num, FIN.out.1, FIN.out.2⟩
        case measure => simp [intOf]; omega
      · have hd : d.apply (crashF zs) (k + 1) = (d.apply (crashF zs) k).keep i (p.2, false) := by rw [HNX.out]; simp [crashF, hq]
        obtain ⟨lg, lc2, tg, tc2, u1, u2, k0, k1, e1, e2, e3, e4, hne, hr', hf'⟩ := HR3.out.kept (i := i) (by rw [HSM.out, HZ.out]; exact HI.out) HP.out
        have n0 := HR3.out.apart0 k0 HWX.out
        have n1 := HR3.out.apart1 k1 HWX.out
        rw [HSM.out, HZ.out] at k0 k1
        rw [← hd] at hr'
        have FIN := Lib.hid (And.intro hr' (HF3.out.trans hf'))
        have hiS := HI.out
        rw [HBS.out] at FIN
        rw [hq]
        clear hq hd hpr hr' hf'
        go_wp2
        go_region
        all_goals
          go_wp2
          go_roundw
          case rel => exact ⟨k + 1, by omega, by go_num, ⟨FIN.out.1.ok, FIN.out.1.ge, FIN.out.1.box⟩, FIN.out.2.drew⟩
          case measure => simp [intOf]; omega
      · have hd : d.apply (crashF zs) (k + 1) = (d.apply (crashF zs) k).keep i (zeros, true) := by rw [HNX.out]; simp [crashF, hq]
        obtain ⟨tg, tc2, u2, k1, e3, e4, hr', hf'⟩ := HR3.out.tear (i := i) (by rw [HSM.out, HZ.out]; exact HI.out)
        have n1 := HR3.out.apart1 k1 HWX.out
        rw [HSM.out, HZ.out] at k1
        rw [← hd] at hr'
        have FIN := Lib.hid (And.intro hr' (HF3.out.trans hf'))
        have hiS := HI.out
        rw [hq]
        clear hq hd hpr hr' hf'
        go_wp2
        go_region
        all_goals
          go_wp2
          go_roundw
          case rel => exact ⟨k + 1, by omega, by go_num, ⟨FIN.out.1.ok, FIN.out.1.ge, FIN.out.1.box⟩, FIN.out.2.drew⟩
          case measure => simp [intOf]; omega
    · have hkM : k = M := by omega
      subst hkM
      have un := hr.fresh3
      obtain ⟨c3, c4, fz⟩ := hr.cells
      have f2 := fz 2
      have f3 := fz 3
      have f4 := fz 4
      have ef : d.crash zs = { d.apply (crashF zs) k with waits := [], off := false, armed := false, left := 0 } := by unfold Dev.crash; rw [HM.out]
      rw [← ef] at un
      have FIN := Lib.hid (And.intro un.1 (hf.trans un.2))
      clear fz un ef hr hf oW sm c0 c1
      go_wp2
      go_returns
      exact ⟨rfl, FIN.out.1, FIN.out.2⟩
end Go.Proofs.Ytfdabkcbefhdaaa
