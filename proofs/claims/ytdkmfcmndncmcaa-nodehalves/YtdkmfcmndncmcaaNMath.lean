/- Nodes and their pages: plain mathematics. No statement of the seat is proved here. -/
import Derived.Test.YtdkmfcmndncmcaaBytes
import Derived.Sort.Walk0
namespace Go.Proofs.Ytdkmfcmndncmcaa
set_option maxRecDepth 20000
open Go.RowKit

structure Pr where
  k : ByteArray
  v : ByteArray
structure Nd where
  leaf : Bool
  ps : List Pr
  ks : List ByteArray
  is : List Int
def Pr.none : Pr := ⟨ByteArray.empty, ByteArray.empty⟩
def Nd.none : Nd := ⟨false, [], [], []⟩
def prAt (l : List Pr) (i : Nat) : Pr := l.getD i .none
def kAt (l : List ByteArray) (i : Nat) : ByteArray := l.getD i ByteArray.empty

/-! ### texts in their order -/
def ltS (a b : ByteArray) : Bool := Op.bytesLess a.toList b.toList
def eqS (a b : ByteArray) : Bool := a.toList == b.toList
theorem toList_inj {a b : ByteArray} (h : a.toList = b.toList) : a = b := by
  rw [ByteArray.toList_eq, ByteArray.toList_eq] at h
  cases a; cases b; congr 1; exact Array.toList_inj.1 h
theorem eqS_iff {a b : ByteArray} : eqS a b = true ↔ a = b := by
  unfold eqS
  rw [beq_iff_eq]
  exact ⟨toList_inj, fun h => by rw [h]⟩
theorem ltS_iff {a b : ByteArray} : ltS a b = true ↔ a.toList < b.toList := by
  unfold ltS; rw [Go.Proofs.bytesLess_eq, decide_eq_true_eq]
theorem ltS_irrefl (a : ByteArray) : ltS a a = false := by
  cases h : ltS a a with
  | false => rfl
  | true => exact absurd (ltS_iff.1 h) (List.lt_irrefl _)
theorem ltS_trans {a b c : ByteArray} (h : ltS a b = true) (k : ltS b c = true) : ltS a c = true :=
  ltS_iff.2 (List.lt_trans (ltS_iff.1 h) (ltS_iff.1 k))
theorem ltS_asymm {a b : ByteArray} (h : ltS a b = true) : ltS b a = false := by
  cases k : ltS b a with
  | false => rfl
  | true => have := ltS_trans h k; rw [ltS_irrefl] at this; cases this
theorem ltS_tri {a b : ByteArray} (h : ltS a b = false) (k : ltS b a = false) : a = b := by
  apply toList_inj
  have h1 : ¬ a.toList < b.toList := fun e => by rw [ltS_iff.2 e] at h; cases h
  have h2 : ¬ b.toList < a.toList := fun e => by rw [ltS_iff.2 e] at k; cases k
  exact List.le_antisymm (List.not_lt.1 h2) (List.not_lt.1 h1)

/-! ### in form -/
def okK (s : ByteArray) : Bool := decide (1 ≤ s.size) && decide (s.size ≤ 32)
def risAt (l : List ByteArray) (i : Nat) : Bool := okK (kAt l i) && (decide (i = 0) || ltS (kAt l (i - 1)) (kAt l i))
def risB (l : List ByteArray) : Bool := (List.range l.length).all (risAt l)
def okVs (l : List Pr) : Bool := l.all fun p => decide (p.v.size ≤ 48)
def okIs (l : List Int) : Bool := l.all fun z => decide (1 ≤ z) && decide (z ≤ 65535)
def ksOf (l : List Pr) : List ByteArray := l.map Pr.k
def okL (n : Nd) : Bool := decide (n.ks.length = 0) && decide (n.is.length = 0) && decide (n.ps.length ≤ 255) && risB (ksOf n.ps) && okVs n.ps
def okI (n : Nd) : Bool := decide (n.ps.length = 0) && decide (1 ≤ n.is.length) && decide (n.is.length ≤ 255) && decide (n.ks.length = n.is.length - 1) && risB n.ks && okIs n.is
def okN (n : Nd) : Bool := if n.leaf then okL n else okI n
theorem ksOf_length (l : List Pr) : (ksOf l).length = l.length := by unfold ksOf; simp
theorem ksOf_at (l : List Pr) {i : Nat} (h : i < l.length) : kAt (ksOf l) i = (prAt l i).k := by
  unfold kAt ksOf prAt
  rw [List.getD_eq_getElem?_getD, List.getElem?_map, List.getElem?_eq_getElem h, List.getD_eq_getElem?_getD, List.getElem?_eq_getElem h]; rfl
theorem risB_false {l : List ByteArray} {i : Nat} (hi : i < l.length) (h : risAt l i = false) : risB l = false := by
  unfold risB; rw [List.all_eq_false]; exact ⟨i, List.mem_range.2 hi, by simpa using h⟩
theorem risB_true {l : List ByteArray} (h : ∀ i, i < l.length → risAt l i = true) : risB l = true := by
  unfold risB; rw [List.all_eq_true]; exact fun i hi => h i (List.mem_range.1 hi)
theorem risB_at {l : List ByteArray} (h : risB l = true) {i : Nat} (hi : i < l.length) : risAt l i = true := by
  unfold risB at h; rw [List.all_eq_true] at h; exact h i (List.mem_range.2 hi)
theorem risB_key {l : List ByteArray} (h : risB l = true) {i : Nat} (hi : i < l.length) : 1 ≤ (kAt l i).size ∧ (kAt l i).size ≤ 32 := by
  have := risB_at h hi
  unfold risAt okK at this
  simp only [Bool.and_eq_true, decide_eq_true_eq] at this
  exact this.1
theorem risB_step {l : List ByteArray} (h : risB l = true) {i : Nat} (hi : i + 1 < l.length) : ltS (kAt l i) (kAt l (i + 1)) = true := by
  have := risB_at h hi
  unfold risAt at this
  simpa using (Bool.and_eq_true _ _ ▸ this).2
theorem risB_lt {l : List ByteArray} (h : risB l = true) {i j : Nat} (hij : i < j) (hj : j < l.length) : ltS (kAt l i) (kAt l j) = true := by
  obtain ⟨d, rfl⟩ : ∃ d, j = i + 1 + d := ⟨j - i - 1, by omega⟩
  clear hij
  induction d with
  | zero => exact risB_step h hj
  | succ d ih => exact ltS_trans (ih (by omega)) (risB_step h (i := i + 1 + d) hj)
/-- said with members instead of places -/
theorem risB_of {l : List ByteArray} (h1 : ∀ s ∈ l, okK s = true) (h2 : l.Pairwise fun a b => ltS a b = true) : risB l = true := by
  refine risB_true fun i hi => ?_
  unfold risAt
  have e : kAt l i = l[i] := by unfold kAt; rw [List.getD_eq_getElem?_getD, List.getElem?_eq_getElem hi]; rfl
  rw [e, h1 _ (List.getElem_mem hi), Bool.true_and]
  by_cases h0 : i = 0
  · simp [h0]
  · have e' : kAt l (i - 1) = l[i - 1] := by unfold kAt; rw [List.getD_eq_getElem?_getD, List.getElem?_eq_getElem (by omega)]; rfl
    rw [e', List.pairwise_iff_getElem.1 h2 (i - 1) i (by omega) hi (by omega)]; simp
theorem risB_mem {l : List ByteArray} (h : risB l = true) : (∀ s ∈ l, okK s = true) ∧ l.Pairwise fun a b => ltS a b = true := by
  have e : ∀ i (hi : i < l.length), kAt l i = l[i] := fun i hi => by unfold kAt; rw [List.getD_eq_getElem?_getD, List.getElem?_eq_getElem hi]; rfl
  refine ⟨fun s hs => ?_, List.pairwise_iff_getElem.2 fun i j hi hj hij => ?_⟩
  · obtain ⟨i, hi, rfl⟩ := List.mem_iff_getElem.1 hs
    have := risB_at h hi
    unfold risAt at this
    rw [← e i hi]
    exact (Bool.and_eq_true _ _ ▸ this).1
  · have := risB_lt h hij hj
    rwa [e, e] at this
theorem risB_iff {l : List ByteArray} : risB l = true ↔ (∀ s ∈ l, okK s = true) ∧ l.Pairwise fun a b => ltS a b = true := ⟨risB_mem, fun h => risB_of h.1 h.2⟩
theorem okL_true {n : Nd} (h : okL n = true) : n.ks = [] ∧ n.is = [] ∧ n.ps.length ≤ 255 ∧ risB (ksOf n.ps) = true ∧ ∀ p ∈ n.ps, p.v.size ≤ 48 := by
  unfold okL okVs at h
  simp only [Bool.and_eq_true, decide_eq_true_eq, List.all_eq_true, List.length_eq_zero_iff] at h
  exact ⟨h.1.1.1.1, h.1.1.1.2, h.1.1.2, h.1.2, h.2⟩
theorem okI_true {n : Nd} (h : okI n = true) : n.ps = [] ∧ 1 ≤ n.is.length ∧ n.is.length ≤ 255 ∧ n.ks.length = n.is.length - 1 ∧ risB n.ks = true ∧ ∀ z ∈ n.is, 1 ≤ z ∧ z ≤ 65535 := by
  unfold okI okIs at h
  simp only [Bool.and_eq_true, decide_eq_true_eq, List.all_eq_true, List.length_eq_zero_iff] at h
  exact ⟨h.1.1.1.1.1, h.1.1.1.1.2, h.1.1.1.2, h.1.1.2, h.1.2, h.2⟩
theorem okL_of {n : Nd} (h1 : n.ks = []) (h2 : n.is = []) (h3 : n.ps.length ≤ 255) (h4 : risB (ksOf n.ps) = true) (h5 : ∀ p ∈ n.ps, p.v.size ≤ 48) : okL n = true := by
  unfold okL okVs
  simp only [Bool.and_eq_true, decide_eq_true_eq, List.all_eq_true, List.length_eq_zero_iff]
  exact ⟨⟨⟨⟨h1, h2⟩, h3⟩, h4⟩, h5⟩
theorem okI_of {n : Nd} (h1 : n.ps = []) (h2 : 1 ≤ n.is.length) (h3 : n.is.length ≤ 255) (h4 : n.ks.length = n.is.length - 1) (h5 : risB n.ks = true) (h6 : ∀ z ∈ n.is, 1 ≤ z ∧ z ≤ 65535) : okI n = true := by
  unfold okI okIs
  simp only [Bool.and_eq_true, decide_eq_true_eq, List.all_eq_true, List.length_eq_zero_iff]
  exact ⟨⟨⟨⟨⟨h1, h2⟩, h3⟩, h4⟩, h5⟩, h6⟩
theorem okN_leaf {n : Nd} (h : n.leaf = true) : okN n = okL n := by unfold okN; rw [h]; rfl
theorem okN_inner {n : Nd} (h : n.leaf = false) : okN n = okI n := by unfold okN; rw [h]; rfl
theorem ok_key {n : Nd} (h : okN n = true) (hl : n.leaf = true) : ∀ p ∈ n.ps, 1 ≤ p.k.size ∧ p.k.size ≤ 32 ∧ p.v.size ≤ 48 := by
  rw [okN_leaf hl] at h
  obtain ⟨-, -, -, h4, h5⟩ := okL_true h
  intro p hp
  have := (risB_mem h4).1 p.k (List.mem_map_of_mem hp)
  unfold okK at this
  simp only [Bool.and_eq_true, decide_eq_true_eq] at this
  exact ⟨this.1, this.2, h5 p hp⟩

/-! ### how many bytes -/
def sizPs (l : List Pr) : Nat := (l.map fun p => 2 + p.k.size + p.v.size).sum
def sizKs (l : List ByteArray) : Nat := (l.map fun s => 1 + s.size).sum
def sizN (n : Nd) : Nat := if n.leaf then 2 + sizPs n.ps else 2 + 2 * n.is.length + sizKs n.ks
theorem sizPs_take (l : List Pr) {k : Nat} (h : k < l.length) : sizPs (l.take (k + 1)) = sizPs (l.take k) + (2 + (prAt l k).k.size + (prAt l k).v.size) := by
  unfold sizPs prAt
  rw [List.take_succ_eq_append_getElem h, List.map_append, List.sum_append, List.getD_eq_getElem?_getD, List.getElem?_eq_getElem h]; simp
theorem sizKs_take (l : List ByteArray) {k : Nat} (h : k < l.length) : sizKs (l.take (k + 1)) = sizKs (l.take k) + (1 + (kAt l k).size) := by
  unfold sizKs kAt
  rw [List.take_succ_eq_append_getElem h, List.map_append, List.sum_append, List.getD_eq_getElem?_getD, List.getElem?_eq_getElem h]; simp
theorem sizPs_append (l m : List Pr) : sizPs (l ++ m) = sizPs l + sizPs m := by unfold sizPs; simp
theorem sizKs_append (l m : List ByteArray) : sizKs (l ++ m) = sizKs l + sizKs m := by unfold sizKs; simp
theorem sizPs_le {l : List Pr} (h : ∀ p ∈ l, p.k.size ≤ 32 ∧ p.v.size ≤ 48) : sizPs l ≤ 82 * l.length := by
  induction l with
  | nil => simp [sizPs]
  | cons a r ih =>
    have h1 := ih fun p hp => h p (List.mem_cons_of_mem _ hp)
    have h2 := h a (by simp)
    simp only [sizPs, List.map_cons, List.sum_cons, List.length_cons] at *; omega
theorem sizKs_le {l : List ByteArray} (h : ∀ p ∈ l, p.size ≤ 32) : sizKs l ≤ 33 * l.length := by
  induction l with
  | nil => simp [sizKs]
  | cons a r ih =>
    have h1 := ih fun p hp => h p (List.mem_cons_of_mem _ hp)
    have h2 := h a (by simp)
    simp only [sizKs, List.map_cons, List.sum_cons, List.length_cons] at *; omega
theorem okK_size {s : ByteArray} (h : okK s = true) : 1 ≤ s.size ∧ s.size ≤ 32 := by
  unfold okK at h; simpa using h
theorem sizN_le {n : Nd} (h : okN n = true) : sizN n ≤ 21000 := by
  cases hl : n.leaf with
  | true =>
    have h1 := ok_key h hl
    rw [okN_leaf hl] at h
    have h2 := (okL_true h).2.2.1
    have h3 := sizPs_le fun p hp => (h1 p hp).2
    unfold sizN; rw [hl, if_pos rfl]; omega
  | false =>
    rw [okN_inner hl] at h
    obtain ⟨-, h2, h3, h4, h5, -⟩ := okI_true h
    have h6 := sizKs_le fun s hs => (okK_size ((risB_mem h5).1 s hs)).2
    unfold sizN; rw [hl]; simp only [Bool.false_eq_true, if_false]; omega

/-! ### the page -/
def txtB (s : ByteArray) : List UInt8 := UInt8.ofNat s.size :: s.data.toList
def kidB (z : Int) : List UInt8 := [UInt8.ofNat (z % 256).toNat, UInt8.ofNat (z / 256).toNat]
def prB (p : Pr) : List UInt8 := txtB p.k ++ txtB p.v
def psB (l : List Pr) : List UInt8 := l.flatMap prB
def ksB (l : List ByteArray) : List UInt8 := l.flatMap txtB
def isB (l : List Int) : List UInt8 := l.flatMap kidB
def encN (n : Nd) : List UInt8 := if n.leaf then 1 :: UInt8.ofNat n.ps.length :: psB n.ps else 2 :: UInt8.ofNat n.is.length :: (isB n.is ++ ksB n.ks)
theorem txtB_length (s : ByteArray) : (txtB s).length = 1 + s.size := by
  simp only [txtB, List.length_cons, Array.length_toList]; rw [Nat.add_comm]; rfl
theorem psB_length (l : List Pr) : (psB l).length = sizPs l := by
  induction l with
  | nil => rfl
  | cons a r ih =>
    have : psB (a :: r) = prB a ++ psB r := rfl
    rw [this, List.length_append, ih]
    simp only [prB, List.length_append, txtB_length, sizPs, List.map_cons, List.sum_cons]; omega
theorem ksB_length (l : List ByteArray) : (ksB l).length = sizKs l := by
  induction l with
  | nil => rfl
  | cons a r ih =>
    have : ksB (a :: r) = txtB a ++ ksB r := rfl
    rw [this, List.length_append, ih]
    simp only [txtB_length, sizKs, List.map_cons, List.sum_cons]
theorem isB_length (l : List Int) : (isB l).length = 2 * l.length := by
  induction l with
  | nil => rfl
  | cons a r ih =>
    have : isB (a :: r) = kidB a ++ isB r := rfl
    rw [this, List.length_append, ih]
    simp only [kidB, List.length_cons, List.length_nil]; omega
theorem encN_length (n : Nd) : (encN n).length = sizN n := by
  unfold encN sizN
  split
  · simp only [List.length_cons, psB_length]; omega
  · simp only [List.length_cons, List.length_append, isB_length, ksB_length]; omega
theorem psB_take (l : List Pr) {k : Nat} (h : k < l.length) : psB (l.take (k + 1)) = psB (l.take k) ++ (txtB (prAt l k).k ++ txtB (prAt l k).v) := by
  unfold psB prAt
  rw [List.take_succ_eq_append_getElem h, List.flatMap_append, List.getD_eq_getElem?_getD, List.getElem?_eq_getElem h]; simp [prB]
theorem ksB_take (l : List ByteArray) {k : Nat} (h : k < l.length) : ksB (l.take (k + 1)) = ksB (l.take k) ++ txtB (kAt l k) := by
  unfold ksB kAt
  rw [List.take_succ_eq_append_getElem h, List.flatMap_append, List.getD_eq_getElem?_getD, List.getElem?_eq_getElem h]; simp
theorem isB_take (l : List Int) {k : Nat} (h : k < l.length) : isB (l.take (k + 1)) = isB (l.take k) ++ kidB (l.getD k 0) := by
  unfold isB
  rw [List.take_succ_eq_append_getElem h, List.flatMap_append, List.getD_eq_getElem?_getD, List.getElem?_eq_getElem h]; simp

/-! ### a page is of one node alone -/
theorem ofNat_inj {a b : Nat} (ha : a ≤ 255) (hb : b ≤ 255) (h : UInt8.ofNat a = UInt8.ofNat b) : a = b := by
  have := congrArg UInt8.toNat h
  rw [UInt8.toNat_ofNat', UInt8.toNat_ofNat'] at this
  omega
theorem txtB_inj {s t : ByteArray} {r q : List UInt8} (hs : s.size ≤ 255) (ht : t.size ≤ 255) (h : txtB s ++ r = txtB t ++ q) : s = t ∧ r = q := by
  simp only [txtB, List.cons_append, List.cons.injEq] at h
  have e := ofNat_inj hs ht h.1
  have h2 := List.append_inj h.2 (by simpa using e)
  refine ⟨?_, h2.2⟩
  cases s; cases t; congr 1; exact Array.toList_inj.1 h2.1
theorem psB_inj : ∀ {l m : List Pr}, l.length = m.length → (∀ p ∈ l, p.k.size ≤ 255 ∧ p.v.size ≤ 255) → (∀ p ∈ m, p.k.size ≤ 255 ∧ p.v.size ≤ 255) → psB l = psB m → l = m
  | [], [], _, _, _, _ => rfl
  | a :: r, b :: q, hl, h1, h2, h => by
    have e1 : psB (a :: r) = txtB a.k ++ (txtB a.v ++ psB r) := by simp [psB, prB]
    have e2 : psB (b :: q) = txtB b.k ++ (txtB b.v ++ psB q) := by simp [psB, prB]
    rw [e1, e2] at h
    obtain ⟨p1, h⟩ := txtB_inj (h1 a (by simp)).1 (h2 b (by simp)).1 h
    obtain ⟨p2, h⟩ := txtB_inj (h1 a (by simp)).2 (h2 b (by simp)).2 h
    rw [psB_inj (by simpa using hl) (fun p hp => h1 p (List.mem_cons_of_mem _ hp)) (fun p hp => h2 p (List.mem_cons_of_mem _ hp)) h]
    cases a; cases b; simp_all
theorem ksB_inj : ∀ {l m : List ByteArray}, l.length = m.length → (∀ p ∈ l, p.size ≤ 255) → (∀ p ∈ m, p.size ≤ 255) → ksB l = ksB m → l = m
  | [], [], _, _, _, _ => rfl
  | a :: r, b :: q, hl, h1, h2, h => by
    have e1 : ksB (a :: r) = txtB a ++ ksB r := rfl
    have e2 : ksB (b :: q) = txtB b ++ ksB q := rfl
    rw [e1, e2] at h
    obtain ⟨p1, h⟩ := txtB_inj (h1 a (by simp)) (h2 b (by simp)) h
    rw [ksB_inj (by simpa using hl) (fun p hp => h1 p (List.mem_cons_of_mem _ hp)) (fun p hp => h2 p (List.mem_cons_of_mem _ hp)) h, p1]
theorem kidB_inj {a b : Int} (ha : 1 ≤ a ∧ a ≤ 65535) (hb : 1 ≤ b ∧ b ≤ 65535) (h : kidB a = kidB b) : a = b := by
  simp only [kidB, List.cons.injEq, and_true] at h
  have h1 := ofNat_inj (by omega) (by omega) h.1
  have h2 := ofNat_inj (by omega) (by omega) h.2
  omega
theorem isB_inj : ∀ {l m : List Int} {r q : List UInt8}, l.length = m.length → (∀ p ∈ l, 1 ≤ p ∧ p ≤ 65535) → (∀ p ∈ m, 1 ≤ p ∧ p ≤ 65535) → isB l ++ r = isB m ++ q → l = m ∧ r = q
  | [], [], _, _, _, _, _, h => ⟨rfl, h⟩
  | a :: r, b :: q, _, _, hl, h1, h2, h => by
    have e1 : isB (a :: r) = kidB a ++ isB r := rfl
    have e2 : isB (b :: q) = kidB b ++ isB q := rfl
    rw [e1, e2, List.append_assoc, List.append_assoc] at h
    obtain ⟨p1, h⟩ := List.append_inj h (by simp [kidB])
    obtain ⟨p2, p3⟩ := isB_inj (by simpa using hl) (fun p hp => h1 p (List.mem_cons_of_mem _ hp)) (fun p hp => h2 p (List.mem_cons_of_mem _ hp)) h
    exact ⟨by rw [kidB_inj (h1 a (by simp)) (h2 b (by simp)) p1, p2], p3⟩
theorem encN_inj {n m : Nd} (hn : okN n = true) (hm : okN m = true) (h : encN n = encN m) : n = m := by
  obtain ⟨nl, np, nk, ni⟩ := n
  obtain ⟨ml, mp, mk, mi⟩ := m
  unfold encN at h
  cases nl <;> cases ml <;> simp only [Bool.false_eq_true, if_false, if_true, List.cons.injEq, true_and] at h
  · obtain ⟨rfl, n2, n3, n4, n5, n6⟩ := okI_true hn
    obtain ⟨rfl, m2, m3, m4, m5, m6⟩ := okI_true hm
    simp only at n2 n3 n4 n5 n6 m2 m3 m4 m5 m6
    have e := ofNat_inj n3 m3 h.1
    obtain ⟨rfl, h2⟩ := isB_inj e n6 m6 h.2
    rw [ksB_inj (by omega) (fun p hp => by have := (okK_size ((risB_mem n5).1 p hp)).2; omega) (fun p hp => by have := (okK_size ((risB_mem m5).1 p hp)).2; omega) h2]
  · exact absurd h.1 (by decide)
  · exact absurd h.1 (by decide)
  · have kn := ok_key hn rfl
    have km := ok_key hm rfl
    obtain ⟨rfl, rfl, n3, n4, n5⟩ := okL_true hn
    obtain ⟨rfl, rfl, m3, m4, m5⟩ := okL_true hm
    simp only at n3 n4 n5 m3 m4 m5
    have e := ofNat_inj n3 m3 h.1
    rw [psB_inj e (fun p hp => by have := kn p hp; omega) (fun p hp => by have := km p hp; omega) h.2]
end Go.Proofs.Ytdkmfcmndncmcaa
