/- The contracts of the flash device's Flush and Crash. No statement of the seat is proved here. -/
import Derived.Test.YtfdabkcbefhdaaaFWrite
namespace Go.Proofs.Ytfdabkcbefhdaaa
set_option maxRecDepth 20000
open Go.RowKit

/-- What lasts behind the first k of the writes that wait, each as f says (kept with its bytes, torn, or not at all). -/
def Dev.apply (d : Dev) (f : Nat → Int × List UInt8 → Option (List UInt8 × Bool)) : Nat → Dev
  | 0 => d
  | k + 1 => match d.waits[k]? with
    | some p => match f k p with
      | some q => (d.apply f k).keep p.1 q
      | none => d.apply f k
    | none => d.apply f k
theorem apply_same (d : Dev) (f : Nat → Int × List UInt8 → Option (List UInt8 × Bool)) : ∀ k, (d.apply f k).waits = d.waits ∧ (d.apply f k).size = d.size ∧ (d.apply f k).off = d.off ∧ (d.apply f k).armed = d.armed ∧ (d.apply f k).left = d.left
  | 0 => ⟨rfl, rfl, rfl, rfl, rfl⟩
  | k + 1 => by
    unfold Dev.apply
    split
    · split
      · exact apply_same d f k
      · exact apply_same d f k
    · exact apply_same d f k
def flushF : Nat → Int × List UInt8 → Option (List UInt8 × Bool) := fun _ p => some (p.2, false)
def Dev.flushed (d : Dev) : Dev := { d.apply flushF d.waits.length with waits := [] }
def Dev.flush (d : Dev) : Int × Dev := if d.spend.1 = false then (4, d.spend.2) else (0, d.spend.2.flushed)

/-- The cells of one write among those of all. -/
theorem flat_at : ∀ (l : List (Int × List UInt8)) (k : Nat) (p : Int × List UInt8), (∀ q ∈ l, q.2.length = 256) → l[k]? = some p → ∀ j v, (wrCells p)[j]? = some v → (l.flatMap wrCells)[k * 257 + j]? = some v
  | [], k, p, _, h => by simp at h
  | q :: l, 0, p, hl, h => by
    intro j v hv
    simp at h; subst h
    have hj : j < (wrCells q).length := (List.getElem?_eq_some_iff.1 hv).1
    rw [List.flatMap_cons, Nat.zero_mul, Nat.zero_add, List.getElem?_append_left hj]; exact hv
  | q :: l, k + 1, p, hl, h => by
    intro j v hv
    have hq : (wrCells q).length = 257 := wrCells_size q (hl q (by simp))
    rw [List.flatMap_cons, List.getElem?_append_right (by rw [hq]; omega), hq]
    have e : (k + 1) * 257 + j - 257 = k * 257 + j := by omega
    rw [e]
    exact flat_at l k p (fun r hr => hl r (by simp [hr])) (by simpa using h) j v hv
theorem row_at {w : World} {B : Nat} {sv : Value} {l : List (Int × List UInt8)} (ho : w.ownsRow B 65 257 sv l.length (l.flatMap wrCells)) (hl : ∀ q ∈ l, q.2.length = 256) {k : Nat} {p : Int × List UInt8} (hk : l[k]? = some p) :
    ∃ g cap cur, sv = .slice (some ⟨g, 0, none⟩) l.length cap ∧ w.heap[g]? = some (.cells cur 65 (0, 0)) ∧ ∀ j v, (wrCells p)[j]? = some v → cur[k * 257 + j]? = some v := by
  have hlt : k < l.length := (List.getElem?_eq_some_iff.1 hk).1
  rcases ho.2 with ⟨_, h0⟩ | ⟨g, cap, cur, hv, _, hg, _, _, _, htake⟩
  · omega
  · refine ⟨g, cap, cur, hv, hg, fun j v hj => ?_⟩
    have := flat_at l k p hl hk j v hj
    rw [← htake, List.getElem?_take] at this
    split at this
    · simpa using this
    · cases this
/-- The parts of a write's cells. -/
theorem wr_bytes (p : Int × List UInt8) : ∀ j v, (cellsB p.2)[j]? = some v → (wrCells p).toArray[1 + j]? = some v := by
  intro j v hv
  simp only [List.getElem?_toArray, wrCells]
  rw [Nat.add_comm, List.getElem?_cons_succ]; exact hv
theorem build68 (bs : List UInt8) (h : bs.length = 256) (w : World) : (Instr.build 68 #[(0, .agg (cellsB bs).toArray)]).run Try.prog w = .ok (secV (bs, false)) w := by
  have hz : (zeroValue 68).run Try.prog w = .ok (.agg (secCells (zeros, false)).toArray) w := by kernel_rfl
  have hf := fill_one (place := fun i => (#[((0 : Nat), (256 : Nat)), (256, 1)] : Array (Nat × Nat))[i]?) (i := 0) (off := 0) (L := secCells (zeros, false)) (cs := cellsB bs) (by simp [cellsB_length, h]) (by simp [secCells, cellsB_length, h, zeros_length]) (v := .agg (cellsB bs).toArray) rfl
  have hsp : splice (secCells (zeros, false)) 0 (cellsB bs) = secCells (bs, false) := by
    simp only [splice, secCells, List.take_zero, List.nil_append, Nat.zero_add, cellsB_length, h]
    rw [List.drop_append, List.drop_eq_nil_of_le (by simp [cellsB_length, zeros_length])]
    simp [cellsB_length, zeros_length]
  rw [hsp] at hf
  unfold Instr.build
  simp only [Sem.run_bind, hz, Result.andThen_ok, run_underlying Try.underlying68]
  refine (congrArg (fun r => Result.andThen r _) (show _ = Result.ok #[(0, 256), (256, 1)] w from by kernel_rfl)).trans ?_
  simp only [Result.andThen_ok, Value.cells]
  rw [hf]
  rfl

theorem apply_flush {d : Dev} {k : Nat} {p : Int × List UInt8} (h : d.waits[k]? = some p) : d.apply flushF (k + 1) = (d.apply flushF k).keep p.1 (p.2, false) := by
  show (match d.waits[k]? with | some p => _ | none => _) = _
  rw [h]; rfl
theorem DevAt.mono {B : Nat} {w : World} {db : Nat} {d : Dev} {N N' : Nat} (h : DevAt B w db d N) (hN : N ≤ N') : DevAt B w db d N' := by
  obtain ⟨ok, ge, mv, sv, h1, h2, h3⟩ := h
  refine ⟨ok, ge, mv, sv, h1, ?_, h3⟩
  rcases h2 with h2 | ⟨mb, D, hv, hB, ho, hm, hat⟩
  · exact Or.inl h2
  · exact Or.inr ⟨mb, D, hv, hB, ho.mono hN, hm, hat⟩
/-- Nothing waits any more. -/
theorem DevAt.unwait {B : Nat} {w : World} {db : Nat} {d : Dev} {N : Nat} (h : DevAt B w db d N) : DevAt B (w.setCell ⟨db, 2, none⟩ (.slice none 0 0)) db { d with waits := [] } N ∧ Fr FK B w (w.setCell ⟨db, 2, none⟩ (.slice none 0 0)) := by
  obtain ⟨ok, ge, mv, sv, h1, h2, h3⟩ := h
  have hs := heap_setCell_same w db 2 _ _ (.slice none 0 0) h1
  simp only [List.setIfInBounds_toArray, List.set_cons_succ, List.set_cons_zero] at hs
  refine ⟨⟨⟨ok.1, ok.2, by simp, by simp, ok.5⟩, ge, mv, _, hs, ?_, World.ownsRow_nil _ _ _ _⟩, (Fr.refl _ _ _).setCell h1 ge rfl _⟩
  refine h2.of_map (fun k es c hk => ?_)
  rw [Below.heap_setCell _ _ _ _ (by rintro rfl; rw [h1] at hk; cases hk)]; exact hk
theorem row_keep {K : Obj → Bool} {B B' : Nat} {w w' : World} {e : TypeId} {size : Nat} {v : Value} {n : Nat} {xs : List Value} (ho : w.ownsRow B e size v n xs) (hf : Fr K B' w w') (hK : ∀ cs, K (.cells cs e (0, 0)) = false) : w'.ownsRow B e size v n xs :=
  ownsRow_of_row ho (fun _ _ hh => hf.keep _ _ hh (Or.inr (hK _)))

set_option maxHeartbeats 400000 in
theorem flush_any {B : Nat} {w : World} {db : Nat} {d : Dev} {N : Nat} (h : DevAt B w db d N) (hN : N + d.waits.length < maxLen) (hlen : d.waits.length < 1000000) :
    Calls Try.prog 17 #[.pointer (some ⟨db, 0, none⟩)] w fun e w' => e = .returned (.int .i64 d.flush.1) ∧ DevAt B w' db d.flush.2 (N + d.waits.length) ∧ Fr FK B w w' := by
  have hsp := spend_any h
  by_cases hs : d.spend.1 = true
  · have HW : Hid (d.flush = (0, d.spend.2.flushed)) := by unfold Dev.flush; rw [if_neg (by simp [hs])]; exact rfl
    rw [hs] at hsp
    have HS := Lib.hid hsp
    have hsw := (spend_waits d).1
    rw [← hsw] at hN hlen ⊢
    clear hsp hs hsw
    generalize d.spend.2 = d1 at *
    go_enter Try.func17, Try.ntmps17
    go_wp2_with fail
    refine HS.out.mono ?_
    rintro e w1 ⟨rfl, h1, f1⟩
    obtain ⟨mv, sv, -, -, c2, -, -, -, -, -, hrow⟩ := h1.cells
    obtain ⟨sa, cap, rfl⟩ := ownsRow_slice hrow
    go_wp2
    go_loopw [15] (fun iv wr => ∃ k : Nat, k ≤ d1.waits.length ∧ iv = .int .i64 k ∧ DevAt B wr db (d1.apply flushF k) (N + k) ∧ wr.ownsRow B 65 257 (.slice sa d1.waits.length cap) d1.waits.length (d1.waits.flatMap wrCells) ∧ Fr KK B w1 wr)
      (fun iv _ => d1.waits.length - (intOf iv).toNat)
    case atStart => exact ⟨0, Nat.zero_le _, rfl, h1, hrow, Fr.refl _ _ _⟩
    case round =>
      obtain ⟨k, hk, rfl, hdk, hrk, hfk⟩ := hrel
      by_cases hlt : k < d1.waits.length
      · obtain ⟨p, hp⟩ : ∃ p, d1.waits[k]? = some p := ⟨_, List.getElem?_eq_getElem hlt⟩
        obtain ⟨g, cap', cur, hsv, hg, hcur⟩ := row_at hrk h1.ok.len hp
        simp only [Value.slice.injEq] at hsv
        obtain ⟨rfl, -, rfl⟩ := hsv
        have HP := Lib.hid hp
        have HG := Lib.hid hg
        have HCUR := Lib.hid hcur
        clear hp hg hcur c2 hrow
        have hpl : p.2.length = 256 := h1.ok.len p (List.mem_of_getElem? HP.out)
        have hps := h1.ok.at_ p (List.mem_of_getElem? HP.out)
        have hsz := h1.ok.size
        have HZ : Hid ((Try.prog.info? 65).map (·.size) = some (wrCells p).length) := by rw [wrCells_size p hpl]; exact sz65
        have HZ2 : Hid ((wrCells (0, zeros)).toArray.size = (wrCells p).toArray.size) := by show _ = _; simp only [List.size_toArray]; rw [wrCells_size p hpl, wrCells_size _ zeros_length]
        have HZ5 : Hid ((Try.prog.info? 65).map (·.size) = some (wrCells p).toArray.size) := by rw [List.size_toArray, wrCells_size p hpl]; exact sz65
        have HZ3 := Lib.hid (all_oneCell_toArray (wrCells_one p))
        have HZ4 : Hid ((Try.prog.info? 63).map (·.size) = some (cellsB p.2).length) := by rw [cellsB_length, hpl]; exact sz63
        go_wp2_with (first
          | (with_reducible refine wpList_load_part rfl 65 (.tmp 17) rfl g (k * 257) 65 (0, 0) cur (wrCells p) rfl HG.out HCUR.out _ Try.underlying65 rfl HZ.out ?_)
          | (with_reducible refine wpList_alloc_row rfl 65 rfl (wrCells (0, zeros)).toArray (zero65 _) ?_; intro w2 hg2 hb2 hs2)
          | (with_reducible refine wpList_store_row rfl 65 (.tmp 4) (.tmp 18) rfl wr.heap.size 65 (wrCells (0, zeros)).toArray (wrCells p).toArray rfl rfl hg2 HZ5.out HZ2.out HZ3.out ?_; intro w3 hg3 hgr3 hs3; have c0 := cell_row hg3 0 (v := .int .i64 p.1) rfl; have HG3 := Lib.hid hg3; clear hg3 hg2)
          | (with_reducible refine wpList_load_part rfl 63 (.tmp 22) rfl wr.heap.size 1 65 (0, 0) (wrCells p).toArray (cellsB p.2) rfl HG3.out (wr_bytes p) _ Try.underlying63 rfl HZ4.out ?_)
          | (with_reducible refine wpList_build1 rfl 68 0 (.tmp 23) rfl (.agg (cellsB p.2).toArray) (secV (p.2, false)) rfl (build68 p.2 hpl _) ?_))
        have hb3 := Below.grown hb2 hgr3 (Nat.le_of_lt hs2) (fun k e => by cases e; exact Nat.le_refl _)
        refine (keep_any (hdk.below hb3) p.1 (by omega) (p.2, false) hpl (by omega)).mono ?_
        rintro e w4 ⟨rfl, h4, f4⟩
        rw [← apply_flush HP.out] at h4
        have hr4 := row_keep (row_keep (K := KK) (B' := B) hrk (Fr.of_below hb3) (fun _ => rfl)) f4 (fun _ => rfl)
        have hf4 := (hfk.trans (Fr.of_below hb3)).trans f4
        clear hgr3 hb2 hb3 c0
        go_wp2
        go_roundw
        case rel => exact ⟨k + 1, by omega, by go_num, h4, hr4, hf4⟩
        case measure => simp [intOf]; omega
      · obtain rfl : k = d1.waits.length := by omega
        obtain ⟨mv', sv', -, -, c2', -, -, -, fz, -, -⟩ := hdk.cells
        have f2' := fz 2
        have HU := Lib.hid hdk.unwait
        have HF := Lib.hid (f1.trans hfk.kk)
        clear fz hdk hrk hfk hrow c2 f1 h1
        go_wp2
        go_ret
        rw [HW.out]
        exact ⟨rfl, HU.out.1, HF.out.trans HU.out.2⟩
  · have hs' : d.spend.1 = false := by simpa using hs
    have HW : Hid (d.flush = (4, d.spend.2)) := by unfold Dev.flush; rw [if_pos hs']; exact rfl
    rw [hs'] at hsp
    have HS := Lib.hid hsp
    clear hsp hs hs'
    go_enter Try.func17, Try.ntmps17
    go_wp2_with fail
    refine HS.out.mono ?_
    rintro e w1 ⟨rfl, h1, f1⟩
    go_wp2
    go_ret
    rw [HW.out]
    exact ⟨rfl, h1.mono (Nat.le_add_right _ _), f1⟩
end Go.Proofs.Ytfdabkcbefhdaaa
