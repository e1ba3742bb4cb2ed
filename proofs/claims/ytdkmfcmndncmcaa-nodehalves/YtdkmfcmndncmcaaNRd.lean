/- The reader of a page: take, number, text. No statement of the seat is proved here. -/
import Derived.Test.YtdkmfcmndncmcaaNRet
namespace Go.Proofs.Ytdkmfcmndncmcaa
set_option maxRecDepth 20000
open Go.RowKit

/-- Only the block b is turned, of those that were there. -/
structure OnlyR (b : Nat) (w w' : World) : Prop where
  os : w'.os = w.os
  tape : w'.tape = w.tape
  output : w'.output = w.output
  size : w.heap.size ≤ w'.heap.size
  keep : ∀ k, k < w.heap.size → k ≠ b → w'.heap[k]? = w.heap[k]?
theorem OnlyR.refl (b : Nat) (w : World) : OnlyR b w w := ⟨rfl, rfl, rfl, Nat.le_refl _, fun _ _ _ => rfl⟩
theorem OnlyR.trans {b : Nat} {a c w : World} (h : OnlyR b a w) (k : OnlyR b w c) : OnlyR b a c :=
  ⟨k.os.trans h.os, k.tape.trans h.tape, k.output.trans h.output, Nat.le_trans h.size k.size, fun i hi hb => (k.keep i (Nat.lt_of_lt_of_le hi h.size) hb).trans (h.keep i hi hb)⟩
theorem OnlyR.of_below {b : Nat} {w w' : World} (h : Below w.heap.size w w') : OnlyR b w w' := ⟨h.os, h.tape, h.output, h.size, fun k hk _ => h.block k hk⟩
theorem OnlyR.setCell {b : Nat} {a w : World} (h : OnlyR b a w) (i : Nat) (v : Value) : OnlyR b a (w.setCell ⟨b, i, none⟩ v) :=
  h.trans ⟨rfl, rfl, rfl, by simp [World.setCell], fun k _ hb => Below.heap_setCell _ _ _ _ hb⟩
theorem OnlyR.drew {b : Nat} {a w : World} (h : OnlyR b a w) : OnlyR b a w.drew := ⟨h.os, h.tape, h.output, h.size, h.keep⟩
theorem OnlyR.below {b B : Nat} {w w' : World} (h : OnlyR b w w') (hB : B ≤ b) (hs : B ≤ w.heap.size) : Below B w w' :=
  ⟨h.os, h.tape, h.output, h.size, fun k hk => h.keep k (by omega) (by omega)⟩
/-- The reader's cells. -/
def RdAt (w : World) (rb : Nat) (s : ByteArray) (sh : Bool) : Prop := w.heap[rb]? = some (.cells #[.string s, .bool sh] 74 (0, 0))
theorem RdAt.c0 {w : World} {rb : Nat} {s : ByteArray} {sh : Bool} (h : RdAt w rb s sh) : w.cell? ⟨rb, 0, none⟩ = some (.string s) := by rw [cell_of_row _ _ _ _ _ _ h]; rfl
theorem RdAt.c1 {w : World} {rb : Nat} {s : ByteArray} {sh : Bool} (h : RdAt w rb s sh) : w.cell? ⟨rb, 1, none⟩ = some (.bool sh) := by rw [cell_of_row _ _ _ _ _ _ h]; rfl
theorem RdAt.f {w : World} {rb : Nat} {s : ByteArray} {sh : Bool} (h : RdAt w rb s sh) (j : Nat) : w.frozen? ⟨rb, j, none⟩ = false := by
  have h' : w.heap[rb]? = some (.cells #[.string s, .bool sh] 74 (0, 0)) := h
  simp [World.frozen?, h']
theorem RdAt.lt {w : World} {rb : Nat} {s : ByteArray} {sh : Bool} (h : RdAt w rb s sh) : rb < w.heap.size := (Array.getElem?_eq_some_iff.1 h).1
theorem RdAt.set0 {w : World} {rb : Nat} {s : ByteArray} {sh : Bool} (h : RdAt w rb s sh) (t : ByteArray) : RdAt (w.setCell ⟨rb, 0, none⟩ (.string t)) rb t sh := by
  have := h
  unfold RdAt at this ⊢
  exact heap_setCell_same w rb 0 _ _ _ this
theorem RdAt.set1 {w : World} {rb : Nat} {s : ByteArray} {sh : Bool} (h : RdAt w rb s sh) (t : Bool) : RdAt (w.setCell ⟨rb, 1, none⟩ (.bool t)) rb s t := by
  have := h
  unfold RdAt at this ⊢
  exact heap_setCell_same w rb 1 _ _ _ this
theorem RdAt.keep {w w' : World} {rb : Nat} {s : ByteArray} {sh : Bool} (h : RdAt w rb s sh) (k : w'.heap[rb]? = w.heap[rb]?) : RdAt w' rb s sh := k.trans h
theorem RdAt.drew {w : World} {rb : Nat} {s : ByteArray} {sh : Bool} (h : RdAt w rb s sh) : RdAt w.drew rb s sh := h

/-! ### what is taken, and what is left -/
structure Rd where
  s : ByteArray
  sh : Bool
def takeR (c : Nat) (R : Rd) : ByteArray × Rd := if c ≤ R.s.size then (R.s.extract 0 c, ⟨R.s.extract c R.s.size, R.sh⟩) else (⟨#[]⟩, ⟨R.s, true⟩)
def numR (R : Rd) : Nat × Rd := ((R.s.data.toList.headD 0).toNat, (takeR 1 R).2)
def txtR (R : Rd) : ByteArray × Rd := takeR (numR R).1 (numR R).2
theorem takeR_lo {c : Nat} {R : Rd} (h : c ≤ R.s.size) : takeR c R = (R.s.extract 0 c, ⟨R.s.extract c R.s.size, R.sh⟩) := if_pos h
theorem takeR_hi {c : Nat} {R : Rd} (h : ¬ c ≤ R.s.size) : takeR c R = (⟨#[]⟩, ⟨R.s, true⟩) := if_neg h
abbrev RdIs (w : World) (rb : Nat) (R : Rd) : Prop := RdAt w rb R.s R.sh

set_option maxHeartbeats 800000 in
theorem take_any {w : World} {rb : Nat} {R : Rd} (h : RdIs w rb R) {c : Nat} (_ : c ≤ 255) (hs : R.s.size ≤ 1000000) : Calls Try.prog 77 #[.pointer (some ⟨rb, 0, none⟩), .int .i64 (c : Nat)] w fun e w' => e = .returned (.string (takeR c R).1) ∧ RdIs w' rb (takeR c R).2 ∧ OnlyR rb w w' := by
  obtain ⟨s, sh⟩ := R
  have c0 := h.c0
  have c1 := h.c1
  have f0 := h.f 0
  have f1 := h.f 1
  by_cases hh : c ≤ s.size
  · rw [takeR_lo hh]
    have h0 := Lib.hid (h.set0 (s.extract c s.size))
    have o0 := Lib.hid ((OnlyR.refl rb w).setCell 0 (.string (s.extract c s.size)))
    clear h
    go_enter Try.func77, Try.ntmps77
    go_wp2
    go_ret
    exact ⟨rfl, h0.out, o0.out⟩
  · rw [takeR_hi hh]
    have h0 := Lib.hid (h.set1 true)
    have o0 := Lib.hid ((OnlyR.refl rb w).setCell 1 (.bool true))
    clear h
    go_enter Try.func77, Try.ntmps77
    go_wp2
    go_ret
    exact ⟨rfl, h0.out, o0.out⟩

theorem ext1 {s : ByteArray} (h : 1 ≤ s.size) : s.extract 0 1 = ⟨#[s.data.toList.headD 0]⟩ := by
  rw [Lib.extract_eq]
  obtain ⟨⟨l⟩⟩ := s
  cases l with
  | nil => simp [ByteArray.size] at h
  | cons a r => rfl
set_option maxHeartbeats 800000 in
theorem number_any {w : World} {rb : Nat} {R : Rd} (h : RdIs w rb R) (hs : R.s.size ≤ 1000000) : Calls Try.prog 63 #[.pointer (some ⟨rb, 0, none⟩)] w fun e w' => e = .returned (.int .i64 ((numR R).1 : Nat)) ∧ RdIs w' rb (numR R).2 ∧ OnlyR rb w w' := by
  have tk := take_any (c := 1) h (by decide) hs
  unfold numR
  by_cases hh : 1 ≤ R.s.size
  · have e1 : (takeR 1 R).1 = ⟨#[R.s.data.toList.headD 0]⟩ := by rw [takeR_lo hh, ext1 hh]
    rw [e1] at tk
    clear e1 hs
    have tk : Calls Try.prog 77 #[.pointer (some ⟨rb, 0, none⟩), .int .i64 1] w _ := tk
    generalize R.s.data.toList.headD 0 = x at *
    generalize (takeR 1 R).2 = R' at *
    clear hh h
    go_enter Try.func63, Try.ntmps63
    go_wp2_with fail
    refine tk.mono ?_
    rintro e w1 ⟨rfl, h1, o1⟩
    go_wp2
    go_ret
    have hx := x.toNat_lt
    have e : wrap64 ((x.toNat : Nat) : Int) = ((x.toNat : Nat) : Int) := by unfold wrap64; omega
    refine ⟨?_, h1, o1⟩
    show Ending.returned (.int .i64 (wrap64 ((x.toNat : Nat) : Int))) = _
    rw [e]
  · have e1 : (takeR 1 R).1 = ⟨#[]⟩ := by rw [takeR_hi hh]
    have e2 : R.s.data.toList.headD 0 = 0 := by
      obtain ⟨⟨⟨l⟩⟩, sh⟩ := R
      cases l with
      | nil => rfl
      | cons a r => simp [ByteArray.size] at hh
    rw [e1] at tk
    rw [e2]
    clear e1 e2 hs
    have tk : Calls Try.prog 77 #[.pointer (some ⟨rb, 0, none⟩), .int .i64 1] w _ := tk
    generalize (takeR 1 R).2 = R' at *
    clear hh h
    go_enter Try.func63, Try.ntmps63
    go_wp2_with fail
    refine tk.mono ?_
    rintro e w1 ⟨rfl, h1, o1⟩
    go_wp2
    go_ret
    exact ⟨rfl, h1, o1⟩
theorem takeR_len (c : Nat) (R : Rd) : (takeR c R).2.s.size ≤ R.s.size := by
  unfold takeR; split
  · simp
  · exact Nat.le_refl _
theorem numR_le (R : Rd) : (numR R).1 ≤ 255 := by
  have := (R.s.data.toList.headD 0).toNat_lt
  unfold numR; simp only; omega
theorem numR_len (R : Rd) : (numR R).2.s.size ≤ R.s.size := takeR_len 1 R
theorem txtR_len (R : Rd) : (txtR R).2.s.size ≤ R.s.size := Nat.le_trans (takeR_len _ _) (numR_len R)
set_option maxHeartbeats 800000 in
theorem text_any {w : World} {rb : Nat} {R : Rd} (h : RdIs w rb R) (hs : R.s.size ≤ 1000000) : Calls Try.prog 64 #[.pointer (some ⟨rb, 0, none⟩)] w fun e w' => e = .returned (.string (txtR R).1) ∧ RdIs w' rb (txtR R).2 ∧ OnlyR rb w w' := by
  have nm := number_any h hs
  have tk := fun (w1 : World) (h1 : RdIs w1 rb (numR R).2) => take_any (c := (numR R).1) h1 (numR_le R) (Nat.le_trans (numR_len R) hs)
  unfold txtR
  generalize takeR (numR R).1 (numR R).2 = Q at *
  generalize (numR R).1 = n at *
  generalize (numR R).2 = R1 at *
  clear h hs
  obtain ⟨t, R2⟩ := Q
  go_enter Try.func64, Try.ntmps64
  go_wp2_with fail
  refine nm.mono ?_
  rintro e w1 ⟨rfl, h1, o1⟩
  have tk1 := tk w1 h1
  go_wp2_with fail
  refine tk1.mono ?_
  rintro e w2 ⟨rfl, h2, o2⟩
  go_wp2
  go_ret
  exact ⟨rfl, h2, o1.trans o2⟩
end Go.Proofs.Ytdkmfcmndncmcaa
