/- The document's states of blocks beside an allocator's two sets. No statement of the seat is proved here. -/
import Derived.Test.YtkmaikmbjebjeaaDoorADoc1
namespace Go.Proofs.YtkmaikmbjebjeaaDoor
set_option maxRecDepth 20000
open Go.RowKit

def stA (A : Al) : Nat → Int := fun i => if A.u i then 1 else if A.l i then 2 else 0
theorem stA_one (A : Al) : (fun i => stA A i == 1) = A.u := by
  funext i; unfold stA
  cases hu : A.u i <;> simp
  cases hl : A.l i <;> simp
theorem stA_two {A : Al} (ok : A.Ok) : (fun i => stA A i == 2) = A.l := by
  funext i; unfold stA
  cases hu : A.u i
  · cases hl : A.l i <;> simp
  · simp [ok.dis i hu]
theorem stA_nought (A : Al) : (fun i => stA A i == 0) = fun i => !(A.u i || A.l i) := by
  funext i; unfold stA
  cases hu : A.u i
  · cases hl : A.l i <;> simp
  · simp
theorem list_used {A : Al} (ok : A.Ok) : listN (fun i => stA A i == 1) A.n = listN A.u 4096 := by
  rw [stA_one]
  exact (listN_skip ok.n2 fun j h1 _ => by
    cases h : A.u j
    · rfl
    · have := ok.us j h; omega).symm
theorem list_leaving {A : Al} (ok : A.Ok) : listN (fun i => stA A i == 2) A.n = listN A.l 4096 := by
  rw [stA_two ok]
  exact (listN_skip ok.n2 fun j h1 _ => by
    cases h : A.l j
    · rfl
    · have := ok.ls j h; omega).symm
theorem free_st {A : Al} (ok : A.Ok) : (listN (fun i => stA A i == 0) A.n).length = A.free + A.k := by
  rw [listN_length, stA_nought]
  obtain ⟨h1, h2⟩ := ok.counts
  have hs := ok.sum
  have hor := cnt_or (f := A.u) (g := A.l) ok.dis A.n
  have hnot := cnt_not (fun j => A.u j || A.l j) A.n
  unfold Al.free
  omega
theorem listN_mem (f : Nat → Bool) (n : Nat) (z : Int) : z ∈ listN f n ↔ ∃ j : Nat, z = j ∧ j < n ∧ f j = true := by
  unfold listN
  rw [List.mem_map]
  constructor
  · rintro ⟨j, hj, rfl⟩
    rw [List.mem_filter, List.mem_range] at hj
    exact ⟨j, rfl, hj.1, hj.2⟩
  · rintro ⟨j, rfl, h1, h2⟩
    exact ⟨j, by rw [List.mem_filter, List.mem_range]; exact ⟨h1, h2⟩, rfl⟩
theorem listN_getD_lt {f : Nat → Bool} {n i : Nat} (h : i < (listN f n).length) : ∃ j : Nat, (listN f n).getD i 0 = j ∧ j < n ∧ f j = true := by
  apply (listN_mem f n _).1
  rw [List.getD_eq_getElem?_getD, List.getElem?_eq_getElem h]
  exact List.getElem_mem h
/-- the first of a list is the least -/
theorem list_first {f : Nat → Bool} {n b : Nat} (hb : b < n) (hf : f b = true) (hl : ∀ j, j < b → f j = false) : ∃ r, listN f n = (b : Int) :: r := by
  obtain ⟨d, rfl⟩ := Nat.exists_eq_add_of_lt hb
  have h0 : listN f b = [] := by
    rw [listN_skip (f := f) (Nat.zero_le b) (fun j _ h => hl j h)]; rfl
  have h1 : listN f (b + 1) = [(b : Int)] := by rw [listN_succ, hf, if_pos rfl, h0]; rfl
  clear hb
  rw [show b + d + 1 = b + 1 + d by omega]
  induction d with
  | zero => exact ⟨[], h1⟩
  | succ d ih =>
    obtain ⟨r, hr⟩ := ih
    rw [← Nat.add_assoc, listN_succ, hr]
    split
    · exact ⟨_, rfl⟩
    · exact ⟨_, rfl⟩
theorem least_first {A : Al} {b : Nat} (hb : b < A.n) (hl : LeastF A b) : ∃ r, listN (fun i => stA A i == 0) A.n = (b : Int) :: r := by
  rw [stA_nought]
  refine list_first hb ?_ fun j hj => ?_
  · simp [hl.1, hl.2.1]
  · rcases hl.2.2 j hj with h | h <;> simp [h]
theorem stA_take {A : Al} {b : Nat} (j : Nat) : stA (A.take b) j = upS (stA A) b 1 j := by
  unfold stA upS Al.take setB
  by_cases h : j = b <;> simp [h]
theorem stA_give {A : Al} {b : Nat} (j : Nat) : stA (A.give b) j = upS (stA A) b 2 j := by
  unfold stA upS Al.give setB
  by_cases h : j = b <;> simp [h]
/-- blocks whose states are made nought, one after another -/
def setK (st : Nat → Int) (zs : List Int) : Nat → Nat → Int
  | 0 => st
  | i + 1 => upS (setK st zs i) (zs.getD i 0).toNat 0
theorem setK_val (st : Nat → Int) (zs : List Int) : ∀ i j, setK st zs i j = if ∃ m, m < i ∧ (zs.getD m 0).toNat = j then 0 else st j
  | 0, j => by rw [if_neg (by rintro ⟨m, h, -⟩; omega)]; rfl
  | i + 1, j => by
    rw [setK, upS, setK_val st zs i j]
    by_cases h : j = (zs.getD i 0).toNat
    · rw [if_pos h, if_pos ⟨i, by omega, h.symm⟩]
    · rw [if_neg h]
      by_cases h2 : ∃ m, m < i ∧ (zs.getD m 0).toNat = j
      · rw [if_pos h2, if_pos (by obtain ⟨m, h3, h4⟩ := h2; exact ⟨m, by omega, h4⟩)]
      · rw [if_neg h2, if_neg (by
          rintro ⟨m, h3, h4⟩
          by_cases e : m = i
          · subst e; exact h h4.symm
          · exact h2 ⟨m, by omega, h4⟩)]
theorem setK_settle {A : Al} (ok : A.Ok) {j : Nat} (hj : j < A.n) : setK (stA A) (listN (fun i => stA A i == 2) A.n) (listN (fun i => stA A i == 2) A.n).length j = stA A.settle j := by
  rw [setK_val]
  have key : (∃ m, m < (listN (fun i => stA A i == 2) A.n).length ∧ ((listN (fun i => stA A i == 2) A.n).getD m 0).toNat = j) ↔ A.l j = true := by
    constructor
    · rintro ⟨m, h1, h2⟩
      obtain ⟨i, e, -, hi⟩ := listN_getD_lt h1
      rw [e] at h2
      have hl : (stA A i == 2) = A.l i := congrFun (stA_two ok) i
      have hi : (stA A i == 2) = true := hi
      rw [hi] at hl
      have : i = j := by omega
      subst this; exact hl.symm
    · intro h
      have hl : (stA A j == 2) = A.l j := congrFun (stA_two ok) j
      have hm : (j : Int) ∈ listN (fun i => stA A i == 2) A.n := (listN_mem _ _ _).2 ⟨j, rfl, hj, hl.trans h⟩
      obtain ⟨m, h1, h2⟩ := List.getElem_of_mem hm
      refine ⟨m, h1, ?_⟩
      rw [List.getD_eq_getElem?_getD, List.getElem?_eq_getElem h1, h2]; simp
  by_cases h : A.l j = true
  · rw [if_pos (key.2 h)]
    unfold stA Al.settle
    cases hu : A.u j
    · simp
    · have := ok.dis j hu; rw [h] at this; cases this
  · rw [if_neg (fun h2 => h (key.1 h2))]
    unfold stA Al.settle
    simp [h]
theorem RS.congr {B : Nat} {w : World} {rb n : Nat} {st st' : Nat → Int} {k : Nat} (h : RS B w rb n st k) (he : ∀ i, i < n → st i = st' i) : RS B w rb n st' k := by
  obtain ⟨ge, n2, sv, h1, h2⟩ := h
  refine ⟨ge, n2, sv, h1, ?_⟩
  have e : ((List.range n).map fun i => iV (st' i)) = ((List.range n).map fun i => iV (st i)) := by
    apply List.map_congr_left
    intro i hi
    rw [he i (List.mem_range.1 hi)]
  rw [e]; exact h2
/-! ### a new one -/
theorem stA_new (n : Nat) (zs : List Int) : stA (newA n zs 0) = fun _ => 0 := by
  funext i; simp [stA, newA, memK]
theorem stA_new_val (n : Nat) (zs : List Int) (k i : Nat) : stA (newA n zs k) i = if memK zs k i then 1 else 0 := by
  unfold stA newA; simp
theorem stA_new_succ (n : Nat) (zs : List Int) (k : Nat) : stA (newA n zs (k + 1)) = upS (stA (newA n zs k)) (zs.getD k 0).toNat 1 := by
  funext i
  rw [stA_new_val, upS, stA_new_val]
  show (if setB (memK zs k) (zs.getD k 0).toNat true i = true then (1 : Int) else 0) = _
  unfold setB
  by_cases h : i = (zs.getD k 0).toNat
  · rw [if_pos h, if_pos h]; simp
  · rw [if_neg h, if_neg h]
theorem cnt_fresh {n : Nat} (h2 : n ≤ 4096) {zs : List Int} {k : Nat} (hz : inR n (zs.getD k 0) = true) (hk : cnt (memK zs k) 4096 = k) (hm : memK zs k (zs.getD k 0).toNat = false) : cnt (memK zs (k + 1)) 4096 = k + 1 := by
  unfold inR at hz
  simp only [decide_eq_true_eq] at hz
  have := cnt_reset (f := memK zs k) (b := (zs.getD k 0).toNat) (n := 4096) (by omega) hm
  show cnt (setB (memK zs k) (zs.getD k 0).toNat true) 4096 = k + 1
  omega
theorem cnt_step {n : Nat} (h2 : n ≤ 4096) {zs : List Int} {k : Nat} (hz : inR n (zs.getD k 0) = true) : cnt (memK zs (k + 1)) 4096 ≤ cnt (memK zs k) 4096 + 1 := by
  unfold inR at hz
  simp only [decide_eq_true_eq] at hz
  show cnt (setB (memK zs k) (zs.getD k 0).toNat true) 4096 ≤ _
  cases hm : memK zs k (zs.getD k 0).toNat
  · have := cnt_reset (f := memK zs k) (b := (zs.getD k 0).toNat) (n := 4096) (by omega) hm
    omega
  · have : setB (memK zs k) (zs.getD k 0).toNat true = memK zs k := by
      funext j; unfold setB; split
      · rename_i e; rw [e, hm]
      · rfl
    rw [this]; omega
theorem cnt_twice {n : Nat} (h2 : n ≤ 4096) {zs : List Int} (hin : ∀ i, i < zs.length → inR n (zs.getD i 0) = true) {k : Nat} (hk : cnt (memK zs k) 4096 = k) (hlt : k < zs.length) (hm : memK zs k (zs.getD k 0).toNat = true) : cnt (memK zs zs.length) 4096 < zs.length := by
  have h1 : cnt (memK zs (k + 1)) 4096 = k := by
    have : setB (memK zs k) (zs.getD k 0).toNat true = memK zs k := by
      funext j; unfold setB; split
      · rename_i e; rw [e, hm]
      · rfl
    show cnt (setB (memK zs k) (zs.getD k 0).toNat true) 4096 = k
    rw [this]; exact hk
  have h3 : ∀ d, k + 1 + d ≤ zs.length → cnt (memK zs (k + 1 + d)) 4096 ≤ k + d := by
    intro d
    induction d with
    | zero => intro _; exact Nat.le_of_eq h1
    | succ d ih =>
      intro hd
      have := ih (by omega)
      have h4 := cnt_step h2 (zs := zs) (k := k + 1 + d) (hin _ (by omega))
      rw [← Nat.add_assoc]
      omega
  obtain ⟨d, hd⟩ := Nat.exists_eq_add_of_le (show k + 1 ≤ zs.length by omega)
  have := h3 d (by omega)
  rw [hd]; omega
end Go.Proofs.YtkmaikmbjebjeaaDoor
