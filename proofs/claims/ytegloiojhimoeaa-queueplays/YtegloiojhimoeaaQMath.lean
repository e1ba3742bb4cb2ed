/- A heap in a list, plainly: what 'up' and 'down' keep. No statement of the seat is proved here. -/
import Derived.Test.YtegloiojhimoeaaGArgs
namespace Go.Proofs.Ytegloiojhimoeaa
open Go.RowKit

/-- One that waits, and the block that it lies in. -/
structure Wt where
  blk : Nat
  id : Int
  pr : Nat
  turn : Nat
def Wt.zero : Wt := ⟨0, 0, 0, 0⟩
instance : Inhabited Wt := ⟨Wt.zero⟩
def Wt.ky (x : Wt) : Int := key x.pr * 9223372036854775808 + x.turn
def at' (L : List Wt) (i : Nat) : Wt := L.getD i Wt.zero
def kf (L : List Wt) (i : Nat) : Int := (at' L i).ky
theorem at_eq {L : List Wt} {i : Nat} (h : i < L.length) : at' L i = L[i] := by simp [at', List.getD_eq_getElem?_getD, h]
theorem at_some {L : List Wt} {i : Nat} (h : i < L.length) : L[i]? = some (at' L i) := by rw [at_eq h]; exact List.getElem?_eq_getElem h
theorem at_mem {L : List Wt} {i : Nat} (h : i < L.length) : at' L i ∈ L := by rw [at_eq h]; exact List.getElem_mem h
theorem mem_at {L : List Wt} {x : Wt} (h : x ∈ L) : ∃ i, i < L.length ∧ at' L i = x := by
  obtain ⟨i, hi, rfl⟩ := List.mem_iff_getElem.1 h
  exact ⟨i, hi, at_eq hi⟩

/-! ### swapping -/
def swapL (L : List Wt) (i j : Nat) : List Wt := (L.set i (at' L j)).set j (at' L i)
theorem swapL_length (L : List Wt) (i j : Nat) : (swapL L i j).length = L.length := by simp [swapL]
theorem swapL_at {L : List Wt} {i j : Nat} (hi : i < L.length) (hj : j < L.length) (k : Nat) : at' (swapL L i j) k = if k = j then at' L i else if k = i then at' L j else at' L k := by
  unfold swapL
  simp only [at', List.getD_eq_getElem?_getD, List.getElem?_set, List.length_set]
  by_cases h1 : j = k
  · subst h1; simp [hj]
  · by_cases h2 : i = k
    · subst h2; simp [h1, hi, Ne.symm h1]
    · simp [h1, h2, Ne.symm h1, Ne.symm h2]
theorem ext_at {A B : List Wt} (hl : A.length = B.length) (h : ∀ k, k < A.length → at' A k = at' B k) : A = B := by
  refine List.ext_getElem hl (fun k h1 h2 => ?_)
  have := h k h1
  rw [at_eq h1, at_eq h2] at this
  exact this
theorem swapL_perm {L : List Wt} {i j : Nat} (hi : i < L.length) (hj : j < L.length) : (swapL L i j).Perm L := by
  have e : swapL L i j = (L.toArray.swap i j (by simpa using hi) (by simpa using hj)).toList := by
    refine ext_at (by simp [swapL]) (fun k hk => ?_)
    rw [swapL_at hi hj]
    rw [swapL_length] at hk
    have hk2 : k < (L.toArray.swap i j (by simpa using hi) (by simpa using hj)).toList.length := by simpa using hk
    rw [at_eq hk2]
    simp only [Array.getElem_toList, Array.getElem_swap, List.getElem_toArray]
    by_cases h1 : k = i
    · subst h1
      by_cases h2 : k = j
      · subst h2; simp [at_eq hi]
      · simp [h2, at_eq hj]
    · by_cases h2 : k = j
      · subst h2; simp [h1, at_eq hi]
      · simp [h1, h2, at_eq hk]
  rw [e]
  have := Array.swap_perm (xs := L.toArray) (i := i) (j := j) (by simpa using hi) (by simpa using hj)
  exact (Array.perm_iff_toList_perm.1 this).trans (by simp)

/-! ### the heap -/
def HeapAll (f : Nat → Int) (n : Nat) : Prop := ∀ c, 0 < c → c < n → f ((c - 1) / 2) ≤ f c
def HeapUp (f : Nat → Int) (n j : Nat) : Prop := (∀ c, 0 < c → c < n → c ≠ j → f ((c - 1) / 2) ≤ f c) ∧ (∀ c, 0 < c → c < n → (c - 1) / 2 = j → 0 < j → f ((j - 1) / 2) ≤ f c)
def HeapEx (f : Nat → Int) (n i : Nat) : Prop := (∀ c, 0 < c → c < n → c ≠ i → (c - 1) / 2 ≠ i → f ((c - 1) / 2) ≤ f c) ∧ (∀ c, 0 < c → c < n → (c - 1) / 2 = i → 0 < i → f ((i - 1) / 2) ≤ f c)
theorem up_end0 {f : Nat → Int} {n : Nat} (h : HeapUp f n 0) : HeapAll f n := fun c h0 h1 => h.1 c h0 h1 (by omega)
theorem up_end {f : Nat → Int} {n j : Nat} (h : HeapUp f n j) (hj : f ((j - 1) / 2) ≤ f j) : HeapAll f n := fun c h0 h1 => by
  by_cases e : c = j
  · subst e; exact hj
  · exact h.1 c h0 h1 e
theorem up_step {f g : Nat → Int} {n j i : Nat} (h : HeapUp f n j) (h0 : 0 < j) (hi : i = (j - 1) / 2) (hn : j < n) (hlt : f j < f i) (hg : ∀ k, k < n → g k = if k = j then f i else if k = i then f j else f k) : HeapUp g n i := by
  subst hi
  constructor
  · intro c hc0 hc1 hci
    have hp : (c - 1) / 2 < n := by omega
    rw [hg c hc1, hg _ hp]
    have h1 := h.1 c hc0 hc1
    have h2 := h.2 c hc0 hc1
    by_cases e1 : c = j
    · subst e1
      rw [if_neg (by omega), if_pos rfl, if_pos rfl]; omega
    · rw [if_neg e1, if_neg hci]
      have h1' := h1 e1
      by_cases e2 : (c - 1) / 2 = j
      · rw [if_pos e2]; exact h2 e2 h0
      · rw [if_neg e2]
        by_cases e3 : (c - 1) / 2 = (j - 1) / 2
        · rw [if_pos e3]; rw [e3] at h1'; omega
        · rw [if_neg e3]; exact h1'
  · intro c hc0 hc1 hci hi0
    have hp : ((j - 1) / 2 - 1) / 2 < n := by omega
    rw [hg c hc1, hg _ hp]
    rw [if_neg (by omega : ((j - 1) / 2 - 1) / 2 ≠ j), if_neg (by omega : ((j - 1) / 2 - 1) / 2 ≠ (j - 1) / 2)]
    have h3 := h.1 ((j - 1) / 2) hi0 (by omega) (by omega)
    by_cases e1 : c = j
    · rw [if_pos e1]; exact h3
    · rw [if_neg e1, if_neg (by omega)]
      have := h.1 c hc0 hc1 e1
      rw [hci] at this; omega
theorem ex_of_up {f : Nat → Int} {n j : Nat} (h : HeapUp f n j) : HeapEx f n j := ⟨fun c a b d _ => h.1 c a b d, h.2⟩
/-- 'down' ends at i: no child of i is ahead of it. -/
theorem down_end {f : Nat → Int} {n i : Nat} (h : HeapEx f n i) (hc : ∀ c, 0 < c → c < n → (c - 1) / 2 = i → f i ≤ f c) : HeapUp f n i :=
  ⟨fun c h0 h1 h2 => by
    by_cases e : (c - 1) / 2 = i
    · rw [e]; exact hc c h0 h1 e
    · exact h.1 c h0 h1 h2 e, h.2⟩
theorem down_step {f g : Nat → Int} {n i j : Nat} (h : HeapEx f n i) (hj0 : 0 < j) (hp : (j - 1) / 2 = i) (hn : j < n) (hlt : f j < f i) (hsib : ∀ c, 0 < c → c < n → (c - 1) / 2 = i → f j ≤ f c) (hg : ∀ k, k < n → g k = if k = j then f i else if k = i then f j else f k) : HeapEx g n j ∧ g ((j - 1) / 2) ≤ g j := by
  subst hp
  refine ⟨⟨?_, ?_⟩, ?_⟩
  · intro c hc0 hc1 hcj hpj
    have hp : (c - 1) / 2 < n := by omega
    rw [hg c hc1, hg _ hp, if_neg hcj, if_neg hpj]
    by_cases e1 : c = (j - 1) / 2
    · rw [if_pos e1, if_neg (by omega)]
      have := h.2 j hj0 hn rfl (by omega)
      rw [e1]; exact this
    · rw [if_neg e1]
      by_cases e2 : (c - 1) / 2 = (j - 1) / 2
      · rw [if_pos e2]; exact hsib c hc0 hc1 e2
      · rw [if_neg e2]; exact h.1 c hc0 hc1 e1 e2
  · intro c hc0 hc1 hcj _
    have hp : (j - 1) / 2 < n := by omega
    rw [hg c hc1, hg _ hp, if_neg (by omega), if_pos rfl, if_neg (by omega), if_neg (by omega)]
    have := h.1 c hc0 hc1 (by omega) (by omega)
    rw [hcj] at this; exact this
  · rw [hg j hn, hg _ (by omega), if_neg (by omega), if_pos rfl, if_pos rfl]; omega
theorem heap_least {f : Nat → Int} {n : Nat} (h : HeapAll f n) : ∀ c, c < n → f 0 ≤ f c := by
  intro c
  induction c using Nat.strongRecOn with
  | ind c ih =>
    intro hc
    by_cases h0 : c = 0
    · subst h0; exact Int.le_refl _
    · have h1 := h c (by omega) hc
      have h2 := ih ((c - 1) / 2) (by omega) (by omega)
      omega

/-! ### the order of two -/
def ordI (a b : Wt) : Int := if cmpB a.pr b.pr ≠ 0 then cmpB a.pr b.pr else cmpI a.turn b.turn
theorem ordI_lt {a b : Wt} (ha : a.turn < 4611686018427387904) (hb : b.turn < 4611686018427387904) : ordI a b < 0 ↔ a.ky < b.ky := by
  unfold ordI Wt.ky cmpB
  rcases cmpI_cases (key a.pr) (key b.pr) with ⟨h, e⟩ | ⟨h, e⟩ | ⟨h, e⟩ <;> rw [e]
  · rw [if_pos (by decide)]; omega
  · rw [if_pos (by decide)]; omega
  · rw [if_neg (by decide), cmpI_lt, h]; omega
end Go.Proofs.Ytegloiojhimoeaa
