/- Places in lists that rise; putting, dropping, halving; taking a page apart: plain mathematics. No statement of the seat is proved here. -/
import Derived.Test.YtdkmfcmndncmcaaNMath
import Derived.Lib.Bytealg
namespace Go.Proofs.Ytdkmfcmndncmcaa
set_option maxRecDepth 20000
open Go.RowKit

/-! ### comparing -/
theorem cmpB_spec : ∀ (a b : List UInt8), (Lib.compareBytes a b < 0 ↔ a < b) ∧ (Lib.compareBytes a b = 0 ↔ a = b)
  | [], [] => by simp [Lib.compareBytes]
  | [], _ :: _ => by simp [Lib.compareBytes]
  | _ :: _, [] => by simp [Lib.compareBytes]
  | x :: a, y :: b => by
    have ih := cmpB_spec a b
    unfold Lib.compareBytes
    by_cases h1 : x < y
    · have hne : ¬ x = y := fun e => UInt8.lt_irrefl y (e ▸ h1)
      simp [h1, List.cons_lt_cons_iff, hne]
    · by_cases h2 : y < x
      · have hne : ¬ x = y := fun e => UInt8.lt_irrefl x (e.symm ▸ h2)
        simp [h1, h2, List.cons_lt_cons_iff, hne]
      · have he : x = y := UInt8.le_antisymm (UInt8.not_lt.1 h2) (UInt8.not_lt.1 h1)
        subst he
        simp only [h1, if_false, List.cons_lt_cons_iff, List.cons.injEq, true_and, false_or]
        exact ih
def cmpS (a b : ByteArray) : Int := Lib.compareBytes a.data.toList b.data.toList
theorem cmpS_lt (a b : ByteArray) : decide (cmpS a b < 0) = ltS a b := by
  have h := (cmpB_spec a.data.toList b.data.toList).1
  have e : ltS a b = decide (a.toList < b.toList) := Go.Proofs.bytesLess_eq _ _
  rw [e, ByteArray.toList_eq, ByteArray.toList_eq]
  exact decide_eq_decide.2 h
theorem cmpS_eq (a b : ByteArray) : (cmpS a b == 0) = eqS a b := by
  have h := (cmpB_spec a.data.toList b.data.toList).2
  unfold eqS
  rw [ByteArray.toList_eq, ByteArray.toList_eq]
  by_cases e : a.data.toList = b.data.toList
  · rw [beq_iff_eq.2 e]; exact beq_iff_eq.2 (h.2 e)
  · have e1 : (a.data.toList == b.data.toList) = false := by simpa using e
    rw [e1]
    have : ¬ cmpS a b = 0 := fun q => e (h.1 q)
    simpa using this

/-! ### places -/
/-- i is where x stands in K, or would. -/
structure PlaceAt (K : List ByteArray) (x : ByteArray) (i : Nat) : Prop where
  le : i ≤ K.length
  below : ∀ m, m < i → ltS (kAt K m) x = true
  above : ∀ m, i ≤ m → m < K.length → ltS (kAt K m) x = false
theorem PlaceAt.uniq {K : List ByteArray} {x : ByteArray} {i j : Nat} (h : PlaceAt K x i) (k : PlaceAt K x j) : i = j := by
  rcases Nat.lt_trichotomy i j with c | c | c
  · have h1 := h.above i (Nat.le_refl _) (by have := k.le; omega)
    have h2 := k.below i c
    rw [h1] at h2; cases h2
  · exact c
  · have h1 := k.above j (Nat.le_refl _) (by have := h.le; omega)
    have h2 := h.below j c
    rw [h1] at h2; cases h2
def thereB (K : List ByteArray) (x : ByteArray) (i : Nat) : Bool := decide (i < K.length) && eqS (kAt K i) x
theorem le_of_ris {K : List ByteArray} (h : risB K = true) {x : ByteArray} {m j : Nat} (hmj : m ≤ j) (hj : j < K.length) (hx : ltS (kAt K j) x = true) : ltS (kAt K m) x = true := by
  rcases Nat.lt_or_eq_of_le hmj with c | c
  · exact ltS_trans (risB_lt h c hj) hx
  · rw [c]; exact hx
theorem ge_of_ris {K : List ByteArray} (h : risB K = true) {x : ByteArray} {m j : Nat} (hmj : m ≤ j) (hj : j < K.length) (hx : ltS (kAt K m) x = false) : ltS (kAt K j) x = false := by
  cases e : ltS (kAt K j) x with
  | false => rfl
  | true => rw [le_of_ris h hmj hj e] at hx; cases hx
/-- what stands behind the place stands above, but for x itself -/
theorem PlaceAt.gt {K : List ByteArray} {x : ByteArray} {i : Nat} (h : PlaceAt K x i) (hr : risB K = true) {m : Nat} (hm : i < m) (hl : m < K.length) : ltS x (kAt K m) = true := by
  have h1 := h.above i (Nat.le_refl _) (by omega)
  have h2 := risB_lt hr hm hl
  cases e : ltS x (kAt K i) with
  | true => exact ltS_trans e h2
  | false => rw [← ltS_tri h1 e]; exact h2
theorem PlaceAt.at {K : List ByteArray} {x : ByteArray} {i : Nat} (h : PlaceAt K x i) (hl : i < K.length) : eqS (kAt K i) x = !(ltS x (kAt K i)) := by
  have h1 := h.above i (Nat.le_refl _) hl
  cases e : ltS x (kAt K i) with
  | true =>
    cases e2 : eqS (kAt K i) x with
    | false => rfl
    | true => rw [eqS_iff.1 e2, ltS_irrefl] at e; cases e
  | false => rw [eqS_iff.2 (ltS_tri h1 e)]; rfl
theorem filter_take {α : Type} (p : α → Bool) (l : List α) (i : Nat) (h1 : ∀ x ∈ l.take i, p x = true) (h2 : ∀ x ∈ l.drop i, p x = false) : l.filter p = l.take i := by
  conv => lhs; rw [← List.take_append_drop i l, List.filter_append]
  rw [List.filter_eq_self.2 h1, List.filter_eq_nil_iff.2 (fun a ha => by rw [h2 a ha]; simp), List.append_nil]
theorem filter_drop {α : Type} (p : α → Bool) (l : List α) (i : Nat) (h1 : ∀ x ∈ l.take i, p x = false) (h2 : ∀ x ∈ l.drop i, p x = true) : l.filter p = l.drop i := by
  conv => lhs; rw [← List.take_append_drop i l, List.filter_append]
  rw [List.filter_eq_nil_iff.2 (fun a ha => by rw [h1 a ha]; simp), List.filter_eq_self.2 h2, List.nil_append]
theorem mem_take_pr {l : List Pr} {i : Nat} {p : Pr} (h : p ∈ l.take i) : ∃ m, m < i ∧ m < l.length ∧ prAt l m = p := by
  obtain ⟨m, hm, rfl⟩ := List.mem_iff_getElem.1 h
  rw [List.length_take] at hm
  refine ⟨m, by omega, by omega, ?_⟩
  unfold prAt; rw [List.getD_eq_getElem?_getD, List.getElem?_eq_getElem (by omega), List.getElem_take]; rfl
theorem mem_drop_pr {l : List Pr} {i : Nat} {p : Pr} (h : p ∈ l.drop i) : ∃ m, i ≤ m ∧ m < l.length ∧ prAt l m = p := by
  obtain ⟨m, hm, rfl⟩ := List.mem_iff_getElem.1 h
  rw [List.length_drop] at hm
  refine ⟨i + m, by omega, by omega, ?_⟩
  unfold prAt; rw [List.getD_eq_getElem?_getD, List.getElem?_eq_getElem (by omega), List.getElem_drop]; rfl
def loL (l : List Pr) (x : ByteArray) : List Pr := l.filter fun p => ltS p.k x
def hiL (l : List Pr) (x : ByteArray) : List Pr := l.filter fun p => ltS x p.k
def putL (l : List Pr) (p : Pr) : List Pr := loL l p.k ++ p :: hiL l p.k
def delL (l : List Pr) (x : ByteArray) : List Pr := loL l x ++ hiL l x
section
variable {l : List Pr} {x : ByteArray} {i : Nat}
theorem lo_take (h : PlaceAt (ksOf l) x i) : l.take i = loL l x := by
  have hle := h.le
  rw [ksOf_length] at hle
  refine (filter_take _ l i (fun p hp => ?_) (fun p hp => ?_)).symm
  · obtain ⟨m, h1, h2, rfl⟩ := mem_take_pr hp
    rw [← ksOf_at l h2]; exact h.below m h1
  · obtain ⟨m, h1, h2, rfl⟩ := mem_drop_pr hp
    rw [← ksOf_at l h2]; exact h.above m h1 (by rw [ksOf_length]; exact h2)
theorem hi_drop (hr : risB (ksOf l) = true) (h : PlaceAt (ksOf l) x i) : l.drop (if thereB (ksOf l) x i then i + 1 else i) = hiL l x := by
  have hle := h.le
  rw [ksOf_length] at hle
  refine (filter_drop _ l _ (fun p hp => ?_) (fun p hp => ?_)).symm
  · obtain ⟨m, h1, h2, rfl⟩ := mem_take_pr hp
    rw [← ksOf_at l h2]
    have hm2 : m < (ksOf l).length := by rw [ksOf_length]; exact h2
    by_cases c : m < i
    · exact ltS_asymm (h.below m c)
    · cases e : thereB (ksOf l) x i with
      | false => rw [e] at h1; simp at h1; omega
      | true =>
        rw [e, if_pos rfl] at h1
        obtain rfl : m = i := by omega
        unfold thereB at e
        simp only [Bool.and_eq_true] at e
        rw [eqS_iff.1 e.2]; exact ltS_irrefl _
  · obtain ⟨m, h1, h2, rfl⟩ := mem_drop_pr hp
    rw [← ksOf_at l h2]
    have hm2 : m < (ksOf l).length := by rw [ksOf_length]; exact h2
    by_cases c : i < m
    · exact h.gt hr c hm2
    · cases e : thereB (ksOf l) x i with
      | true => rw [e, if_pos rfl] at h1; omega
      | false =>
        rw [e] at h1; simp at h1
        obtain rfl : m = i := by omega
        have := h.at hm2
        unfold thereB at e
        rw [decide_eq_true hm2, Bool.true_and, this] at e
        simpa using e
theorem del_eq (hr : risB (ksOf l) = true) (h : PlaceAt (ksOf l) x i) (ht : thereB (ksOf l) x i = true) : l.take i ++ l.drop (i + 1) = delL l x := by
  have := hi_drop hr h
  rw [ht, if_pos rfl] at this
  unfold delL
  rw [← this, ← lo_take h]
theorem ins_eq (hr : risB (ksOf l) = true) {p : Pr} (h : PlaceAt (ksOf l) p.k i) (ht : thereB (ksOf l) p.k i = false) : l.take i ++ p :: l.drop i = putL l p := by
  have := hi_drop hr h
  rw [ht] at this
  simp only [Bool.false_eq_true, if_false] at this
  unfold putL
  rw [← this, ← lo_take h]
theorem set_eq (hr : risB (ksOf l) = true) {p : Pr} (h : PlaceAt (ksOf l) p.k i) (ht : thereB (ksOf l) p.k i = true) : l.set i p = putL l p := by
  have := hi_drop hr h
  rw [ht, if_pos rfl] at this
  unfold putL
  rw [← this, ← lo_take h]
  have hl : i < l.length := by unfold thereB at ht; simp only [Bool.and_eq_true, decide_eq_true_eq] at ht; have := ht.1; rwa [ksOf_length] at this
  rw [List.set_eq_take_append_cons_drop, if_pos hl]
theorem place_ex (hr : risB (ksOf l) = true) (x : ByteArray) : PlaceAt (ksOf l) x (loL l x).length := by
  have key : ∀ (n : Nat) (l : List Pr), l.length = n → risB (ksOf l) = true → ∃ i, PlaceAt (ksOf l) x i := by
    intro n
    induction n with
    | zero =>
      intro l hl _
      have : l = [] := List.eq_nil_of_length_eq_zero hl
      subst this
      exact ⟨0, Nat.le_refl _, fun m hm => by omega, fun m _ hm => by simp [ksOf] at hm⟩
    | succ n ih =>
      intro l hl hr
      have hne : l ≠ [] := by rintro rfl; simp at hl
      have hd : l = l.dropLast ++ [l.getLast hne] := (List.dropLast_concat_getLast hne).symm
      have hk : ksOf l = ksOf l.dropLast ++ [(l.getLast hne).k] := by conv => lhs; rw [hd]
                                                                      simp [ksOf]
      have hm := risB_mem hr
      have hr' : risB (ksOf l.dropLast) = true := by
        refine risB_of (fun s hs => hm.1 s (by rw [hk]; simp [hs])) ?_
        have := hm.2
        rw [hk] at this
        exact (List.pairwise_append.1 this).1
      have hlen : (ksOf l.dropLast).length = n := by rw [ksOf_length, List.length_dropLast]; omega
      obtain ⟨i, hi⟩ := ih l.dropLast (by rw [List.length_dropLast]; omega) hr'
      have hle := hi.le
      have eq1 : ∀ m, m < n → kAt (ksOf l) m = kAt (ksOf l.dropLast) m := fun m hm => by
        unfold kAt
        rw [hk, List.getD_eq_getElem?_getD, List.getD_eq_getElem?_getD, List.getElem?_append_left (by omega)]
      by_cases c : i < n
      · refine ⟨i, by rw [ksOf_length]; omega, fun m hm => by rw [eq1 m (by omega)]; exact hi.below m hm, fun m h1 h2 => ?_⟩
        refine ge_of_ris hr h1 h2 ?_
        rw [eq1 i c]; exact hi.above i (Nat.le_refl _) (by omega)
      · have hin : i = n := by omega
        subst hin
        cases e : ltS (kAt (ksOf l) i) x with
        | true =>
          refine ⟨i + 1, by rw [ksOf_length]; omega, fun m hm => ?_, fun m h1 h2 => by rw [ksOf_length] at h2; omega⟩
          exact le_of_ris hr (by omega) (by rw [ksOf_length]; omega) e
        | false =>
          refine ⟨i, by rw [ksOf_length]; omega, fun m hm => by rw [eq1 m hm]; exact hi.below m hm, fun m h1 h2 => ?_⟩
          exact ge_of_ris hr h1 h2 e
  obtain ⟨i, hi⟩ := key l.length l rfl hr
  have hle := hi.le
  rw [ksOf_length] at hle
  rw [← lo_take hi, List.length_take, Nat.min_eq_left hle]
  exact hi
end
/-- what is put or dropped rises still -/
theorem lo_mem {l : List Pr} {x : ByteArray} {p : Pr} (h : p ∈ loL l x) : p ∈ l ∧ ltS p.k x = true := List.mem_filter.1 h
theorem hi_mem {l : List Pr} {x : ByteArray} {p : Pr} (h : p ∈ hiL l x) : p ∈ l ∧ ltS x p.k = true := List.mem_filter.1 h
theorem ks_pair {l : List Pr} : (ksOf l).Pairwise (fun a b => ltS a b = true) ↔ l.Pairwise fun a b => ltS a.k b.k = true := List.pairwise_map
theorem ks_all {l : List Pr} : (∀ s ∈ ksOf l, okK s = true) ↔ ∀ p ∈ l, okK p.k = true := by simp [ksOf]
theorem ris_del {l : List Pr} (hr : risB (ksOf l) = true) (x : ByteArray) : risB (ksOf (delL l x)) = true := by
  obtain ⟨h1, h2⟩ := risB_mem hr
  rw [ks_all] at h1
  rw [ks_pair] at h2
  refine risB_of (ks_all.2 fun p hp => ?_) (ks_pair.2 (List.pairwise_append.2 ⟨h2.filter _, h2.filter _, fun a ha b hb => ltS_trans (lo_mem ha).2 (hi_mem hb).2⟩))
  rcases List.mem_append.1 hp with hp | hp
  · exact h1 p (lo_mem hp).1
  · exact h1 p (hi_mem hp).1
theorem ris_put {l : List Pr} (hr : risB (ksOf l) = true) {p : Pr} (hp : okK p.k = true) : risB (ksOf (putL l p)) = true := by
  obtain ⟨h1, h2⟩ := risB_mem hr
  rw [ks_all] at h1
  rw [ks_pair] at h2
  refine risB_of (ks_all.2 fun q hq => ?_) (ks_pair.2 (List.pairwise_append.2 ⟨h2.filter _, List.pairwise_cons.2 ⟨fun b hb => (hi_mem hb).2, h2.filter _⟩, fun a ha b hb => ?_⟩))
  · unfold putL at hq
    rcases List.mem_append.1 hq with hq | hq
    · exact h1 q (lo_mem hq).1
    · rcases List.mem_cons.1 hq with rfl | hq
      · exact hp
      · exact h1 q (hi_mem hq).1
  · rcases List.mem_cons.1 hb with rfl | hb
    · exact (lo_mem ha).2
    · exact ltS_trans (lo_mem ha).2 (hi_mem hb).2
theorem put_length {l : List Pr} (hr : risB (ksOf l) = true) (p : Pr) : (putL l p).length = if thereB (ksOf l) p.k (loL l p.k).length then l.length else l.length + 1 := by
  have h := place_ex hr p.k
  have hle := h.le
  rw [ksOf_length] at hle
  cases e : thereB (ksOf l) p.k (loL l p.k).length with
  | true => rw [← set_eq hr h e, List.length_set]; rfl
  | false => rw [← ins_eq hr h e]; simp only [List.length_append, List.length_take, List.length_cons, List.length_drop, Bool.false_eq_true, if_false]; omega

/-! ### halving a leaf -/
structure HalfAt (l : List Pr) (i : Nat) : Prop where
  one : 1 ≤ i
  lt : i < l.length
  least : ∀ m, 1 ≤ m → m < i → sizPs (l.take m) < sizPs (l.drop m)
  stop : i < l.length - 1 → sizPs (l.drop i) ≤ sizPs (l.take i)
theorem HalfAt.uniq {l : List Pr} {i j : Nat} (h : HalfAt l i) (k : HalfAt l j) : i = j := by
  rcases Nat.lt_trichotomy i j with c | c | c
  · have h1 := k.least i h.one c
    have h2 := h.stop (by have := k.lt; omega)
    omega
  · exact c
  · have h1 := h.least j k.one c
    have h2 := k.stop (by have := h.lt; omega)
    omega
end Go.Proofs.Ytdkmfcmndncmcaa
