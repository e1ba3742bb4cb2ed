/- Items in memory, and the contracts of pack.big and pack.formed. No statement of the seat is proved here. -/
import Derived.Test.YtmkomhdlcbimoaaPOpen
namespace Go.Proofs.Ytmkomhdlcbimoaa
set_option maxRecDepth 20000
open Go.RowKit

structure It where
  k : Int
  n : Int
  s : ByteArray
def It.ok (x : It) : Prop := (-9223372036854775808 ≤ x.k ∧ x.k ≤ 9223372036854775807) ∧ (-9223372036854775808 ≤ x.n ∧ x.n ≤ 9223372036854775807) ∧ x.s.size ≤ maxLen
def It.none : It := ⟨0, 0, ByteArray.empty⟩
def itAt (l : List It) (i : Nat) : It := l.getD i .none
/-- A slice of items that reads as l in w, its block below B. -/
def ItemsAt (B : Nat) (w : World) (v : Value) (l : List It) : Prop :=
  ∃ ao cap, v = .slice ao l.length cap ∧ l.length ≤ cap ∧ l.length ≤ 9223372036854775807 ∧ (∀ x ∈ l, x.ok) ∧
    (0 < l.length → ∃ b off, ao = some ⟨b, off, none⟩ ∧ b < B ∧ ∀ i, i < l.length → w.cell? ⟨b, off + i * 3, none⟩ = some (.int .i64 (itAt l i).k) ∧ w.cell? ⟨b, off + i * 3 + 1, none⟩ = some (.int .i64 (itAt l i).n) ∧ w.cell? ⟨b, off + i * 3 + 2, none⟩ = some (.string (itAt l i).s))
theorem ItemsAt.below {B : Nat} {w w' : World} {v : Value} {l : List It} (h : ItemsAt B w v l) (hb : Below B w w') : ItemsAt B w' v l := by
  obtain ⟨ao, cap, hv, h1, h2, h3, h4⟩ := h
  refine ⟨ao, cap, hv, h1, h2, h3, fun h0 => ?_⟩
  obtain ⟨b, off, e, hB, hc⟩ := h4 h0
  refine ⟨b, off, e, hB, fun i hi => ?_⟩
  obtain ⟨c1, c2, c3⟩ := hc i hi
  exact ⟨(hb.cell hB).trans c1, (hb.cell hB).trans c2, (hb.cell hB).trans c3⟩
theorem itAt_ok {l : List It} (h : ∀ x ∈ l, x.ok) {i : Nat} (hi : i < l.length) : (itAt l i).ok := by
  unfold itAt; rw [List.getD_eq_getElem?_getD, List.getElem?_eq_getElem hi]; exact h _ (List.getElem_mem hi)
theorem itAt_mem {l : List It} {i : Nat} (hi : i < l.length) : itAt l i ∈ l := by
  unfold itAt; rw [List.getD_eq_getElem?_getD, List.getElem?_eq_getElem hi]; exact List.getElem_mem hi
theorem mem_itAt {l : List It} {x : It} (h : x ∈ l) : ∃ i, i < l.length ∧ itAt l i = x := by
  obtain ⟨i, hi, rfl⟩ := List.mem_iff_getElem.1 h
  exact ⟨i, hi, by unfold itAt; rw [List.getD_eq_getElem?_getD, List.getElem?_eq_getElem hi]; rfl⟩

def longB (x : It) : Bool := (x.k == 2) && decide (50000 < x.s.size)
def bigB (l : List It) : Bool := decide (4000 < l.length) || l.any longB
theorem snoc_false {p : Nat → Bool} {k : Nat} (h : ∀ j, j < k → p j = false) (h2 : p k = false) : ∀ j, j < k + 1 → p j = false := fun j hj => by
  by_cases e : j = k
  · subst e; exact h2
  · exact h j (by omega)
set_option maxHeartbeats 800000 in
theorem big_any {w : World} {v : Value} {l : List It} (h : ItemsAt w.heap.size w v l) : Calls Try.prog 59 #[v] w fun e w' => e = .returned (.bool (bigB l)) ∧ Below w.heap.size w w' := by
  have hh := h
  obtain ⟨ao, cap, rfl, h1, h2, h3, h4⟩ := h
  by_cases c1 : 4000 < l.length
  · rw [show bigB l = true by unfold bigB; simp [c1]]
    go_enter Try.func59, Try.ntmps59
    go_wp2
    go_ret
    exact ⟨rfl, Below.refl _ _⟩
  · go_enter Try.func59, Try.ntmps59
    go_wp2
    go_loopw [10] (fun iv wr => ∃ k : Nat, k ≤ l.length ∧ iv = .int .i64 k ∧ Hid (∀ j, j < k → longB (itAt l j) = false) ∧ Below w.heap.size w wr) (fun iv _ => l.length - (intOf iv).toNat)
    case atStart => exact ⟨0, Nat.zero_le _, rfl, Lib.hid (fun j hj => by omega), Below.refl _ _⟩
    case round =>
      obtain ⟨k, hk, rfl, hf, hb⟩ := hrel
      by_cases hlt : k < l.length
      · obtain ⟨b, off, rfl, hB, hc⟩ := h4 (by omega)
        obtain ⟨d1, d2, d3⟩ := hc k hlt
        have d1' := (hb.cell (p := ⟨b, off + k * 3, none⟩) hB).trans d1
        have d2' := (hb.cell (p := ⟨b, off + k * 3 + 1, none⟩) hB).trans d2
        have d3' := (hb.cell (p := ⟨b, off + k * 3 + 2, none⟩) hB).trans d3
        generalize hx : itAt l k = x at d1' d2' d3'
        have HX := Lib.hid hx
        obtain ⟨xk, xn, xs⟩ := x
        clear d1 d2 d3 hc hx
        by_cases q1 : xk = 2
        · subst q1
          by_cases q2 : 50000 < xs.size
          · have ht : bigB l = true := by
              unfold bigB; rw [Bool.or_eq_true]; right
              rw [List.any_eq_true]
              exact ⟨_, itAt_mem hlt, by rw [HX.out]; simp [longB, q2]⟩
            have HT := Lib.hid ht
            clear ht
            go_wp2
            go_ret
            exact ⟨by rw [HT.out]; rfl, hb.alloc (by have := hb.size; omega) _⟩
          · have q2' : Hid (longB ⟨2, xn, xs⟩ = false) := Lib.hid (by simp [longB]; omega)
            go_wp2
            go_roundw
            case rel => exact ⟨k + 1, by omega, by go_num, Lib.hid (snoc_false hf.out (by rw [HX.out]; exact q2'.out)), hb.alloc (by have := hb.size; omega) _⟩
            case measure => simp [intOf]; omega
        · have q1' : (xk == 2) = false := by simpa using q1
          have q2' : Hid (longB ⟨xk, xn, xs⟩ = false) := Lib.hid (by simp [longB, q1])
          clear q1
          go_wp2
          go_roundw
          case rel => exact ⟨k + 1, by omega, by go_num, Lib.hid (snoc_false hf.out (by rw [HX.out]; exact q2'.out)), hb.alloc (by have := hb.size; omega) _⟩
          case measure => simp [intOf]; omega
      · have ht : bigB l = false := by
          unfold bigB; rw [Bool.or_eq_false_iff]
          refine ⟨by simpa using c1, ?_⟩
          rw [List.any_eq_false]
          intro x hx
          obtain ⟨i, hi, rfl⟩ := mem_itAt hx
          rw [hf.out i (by omega)]; simp
        have HT := Lib.hid ht
        clear ht
        go_wp2
        go_ret
        exact ⟨by rw [HT.out]; rfl, hb⟩

def formB (x : It) : Bool := ((x.k == 1) && (x.s.size == 0)) || ((x.k == 2) && (x.n == 0))
theorem size_list (s : ByteArray) : (s.toList = []) ↔ s.size = 0 := by
  have : s.toList = s.data.toList := ByteArray.toList_eq s
  rw [this]
  constructor
  · intro h; show s.data.size = 0; rw [← Array.length_toList, h]; rfl
  · intro h; exact List.eq_nil_of_length_eq_zero (by rw [Array.length_toList]; exact h)
set_option maxHeartbeats 800000 in
theorem formed_any (x : It) (w : World) : Calls Try.prog 60 #[.agg #[.int .i64 x.k, .int .i64 x.n, .string x.s]] w fun e w' => e = .returned (.bool (formB x)) ∧ Below w.heap.size w w' := by
  obtain ⟨xk, xn, xs⟩ := x
  by_cases q1 : xk = 1
  · subst q1
    have hf : formB ⟨1, xn, xs⟩ = (xs.size == 0) := by simp [formB]
    rw [hf]
    clear hf
    by_cases q2 : xs.size = 0
    · have q3 : xs.toList = [] := (size_list xs).2 q2
      rw [q2]
      go_enter Try.func60, Try.ntmps60
      go_wp2
      go_ret
      exact ⟨rfl, (Below.refl _ _).alloc (Nat.le_refl _) _⟩
    · have q3 : (xs.toList == []) = false := by
        have : xs.toList ≠ [] := fun e => q2 ((size_list xs).1 e)
        simpa using this
      rw [show (xs.size == 0) = false by simpa using q2]
      clear q2
      go_enter Try.func60, Try.ntmps60
      go_wp2
      go_ret
      exact ⟨rfl, (Below.refl _ _).alloc (Nat.le_refl _) _⟩
  · have q1' : (xk == 1) = false := by simpa using q1
    by_cases q2 : xk = 2
    · subst q2
      rw [show formB ⟨2, xn, xs⟩ = (xn == 0) by simp [formB]]
      clear q1
      go_enter Try.func60, Try.ntmps60
      go_wp2
      go_ret
      exact ⟨rfl, (Below.refl _ _).alloc (Nat.le_refl _) _⟩
    · have q2' : (xk == 2) = false := by simpa using q2
      rw [show formB ⟨xk, xn, xs⟩ = false by simp [formB, q1, q2]]
      clear q1 q2
      go_enter Try.func60, Try.ntmps60
      go_wp2
      go_ret
      exact ⟨rfl, (Below.refl _ _).alloc (Nat.le_refl _) _⟩
end Go.Proofs.Ytmkomhdlcbimoaa
