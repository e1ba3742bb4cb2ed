/- Bits turned in sealed bytes: plain mathematics, and a store into bytes of one's own. No statement of the seat is proved here. -/
import Derived.Test.YtmkomhdlcbimoaaPTurnM
import Derived.Test.YtmkomhdlcbimoaaPSteps
import Derived.Laws.OwnMore
namespace Go.Proofs.Ytmkomhdlcbimoaa
set_option maxRecDepth 20000
open Go.RowKit Go.ChangeShapes Go.WideShapes Go.ChangeAt

def maskB (r : Nat) : UInt8 := UInt8.ofNat (2 ^ r)
def flipAt (l : List UInt8) (i : Nat) : List UInt8 := l.set (i / 8) (l.getD (i / 8) 0 ^^^ maskB (i % 8))
def fl (at' : Nat) : Nat → List UInt8 → List UInt8
  | 0, l => l
  | j + 1, l => flipAt (fl at' j l) (at' + j)
theorem flip_length (l : List UInt8) (i : Nat) : (flipAt l i).length = l.length := by simp [flipAt]
theorem fl_length (at' j : Nat) (l : List UInt8) : (fl at' j l).length = l.length := by
  induction j with
  | zero => rfl
  | succ j ih => show (flipAt _ _).length = _; rw [flip_length, ih]
theorem zipX_length (s D : List UInt8) (h : s.length = D.length) : (zipX s D).length = s.length := by unfold zipX; rw [List.length_zipWith]; omega
theorem flip_zip (s D : List UInt8) (i : Nat) (h : s.length = D.length) (hi : i / 8 < s.length) : flipAt (zipX s D) i = zipX s (flipAt D i) := by
  unfold flipAt zipX
  apply List.ext_getElem
  · simp
  · intro q h1 h2
    rw [List.getElem_set]
    simp only [List.getElem_zipWith, List.getElem_set]
    split
    · rename_i e
      subst e
      have e1 : (List.zipWith (· ^^^ ·) s D).getD (i / 8) 0 = s[i / 8] ^^^ D[i / 8] := by
        rw [List.getD_eq_getElem?_getD, List.getElem?_eq_getElem (by rw [List.length_zipWith]; omega)]
        simp only [Option.getD_some, List.getElem_zipWith]
      have e2 : D.getD (i / 8) 0 = D[i / 8] := by
        rw [List.getD_eq_getElem?_getD, List.getElem?_eq_getElem (by omega)]; rfl
      simp only [e1, e2, UInt8.xor_assoc]
    · rfl
theorem zip_zero (s : List UInt8) : zipX s (List.replicate s.length 0) = s := by
  unfold zipX
  apply List.ext_getElem
  · simp
  · intro q h1 h2
    simp
theorem fl_zip (s : List UInt8) (at' j : Nat) (h : at' + j ≤ 8 * s.length) : fl at' j s = zipX s (fl at' j (List.replicate s.length 0)) := by
  induction j with
  | zero => exact (zip_zero s).symm
  | succ j ih =>
    show flipAt (fl at' j s) (at' + j) = zipX s (flipAt _ _)
    rw [ih (by omega), flip_zip _ _ _ (by rw [fl_length]; simp) (by omega)]
def pat (o : Nat) : Nat → UInt8
  | 0 => 0
  | j + 1 => pat o j ^^^ maskB (o + j)
theorem flip_first (p : Nat) (d : UInt8) (rest : List UInt8) (i : Nat) (h : i / 8 = p) : flipAt (List.replicate p 0 ++ d :: rest) i = List.replicate p 0 ++ (d ^^^ maskB (i % 8)) :: rest := by
  unfold flipAt
  rw [h, List.set_append, if_neg (by simp), List.getD_eq_getElem?_getD, List.getElem?_append_right (by simp)]
  simp
theorem flip_second (p : Nat) (d e : UInt8) (rest : List UInt8) (i : Nat) (h : i / 8 = p + 1) : flipAt (List.replicate p 0 ++ d :: e :: rest) i = List.replicate p 0 ++ d :: (e ^^^ maskB (i % 8)) :: rest := by
  unfold flipAt
  rw [h, List.set_append, if_neg (by simp), List.getD_eq_getElem?_getD, List.getElem?_append_right (by simp)]
  simp
theorem fl_in (p o : Nat) (rest : List UInt8) : ∀ j, o + j ≤ 8 → fl (8 * p + o) j (List.replicate p 0 ++ 0 :: rest) = List.replicate p 0 ++ pat o j :: rest
  | 0, _ => rfl
  | j + 1, h => by
    show flipAt (fl _ j _) _ = _
    rw [fl_in p o rest j (by omega), flip_first _ _ _ _ (by omega), show (8 * p + o + j) % 8 = o + j by omega]
    rfl
theorem fl_over (p o : Nat) (ho : o < 8) (rest : List UInt8) : ∀ j, j ≤ 8 → fl (8 * p + o) (8 - o + j) (List.replicate p 0 ++ 0 :: 0 :: rest) = List.replicate p 0 ++ pat o (8 - o) :: pat 0 j :: rest
  | 0, _ => by rw [Nat.add_zero, fl_in p o _ _ (by omega)]; rfl
  | j + 1, h => by
    show flipAt (fl (8 * p + o) (8 - o + j) _) (8 * p + o + (8 - o + j)) = _
    rw [fl_over p o ho rest j (by omega), flip_second _ _ _ _ _ (by omega), show (8 * p + o + (8 - o + j)) % 8 = 0 + j by omega]
    rfl
theorem check_in : ∀ o, o < 8 → ∀ j, j < 4 → 1 ≤ j → o + j ≤ 8 → pat o j ≠ 0 ∧ bitsS 8 (pat o j).toNat ≠ (0 : UInt8).toNat := by decide +kernel
theorem check_over : ∀ o, o < 8 → ∀ j, j < 3 → 8 - o + j ≤ 3 → pat o (8 - o) ≠ 0 ∧ bitsS 8 (pat o (8 - o)).toNat ≠ (pat 0 j).toNat := by decide +kernel
theorem turned_no (bs : List UInt8) (at' j : Nat) (hj : 1 ≤ j) (hj3 : j ≤ 3) (h : at' + j ≤ 8 * (sealed bs).length) : openOk (fl at' j (sealed bs)) = false := by
  cases hok : openOk (fl at' j (sealed bs))
  · rfl
  · exfalso
    have hl := sealed_length bs
    rw [fl_zip _ _ _ h] at hok
    have hx := open_xor bs _ (by rw [fl_length, List.length_replicate, hl]) hok
    rw [hl] at hx h
    obtain ⟨p, o, ho, rfl⟩ : ∃ p o, o < 8 ∧ at' = 8 * p + o := ⟨at' / 8, at' % 8, by omega, by omega⟩
    have hp : p < bs.length + 4 := by omega
    have hrep : List.replicate (bs.length + 4) (0 : UInt8) = List.replicate p 0 ++ 0 :: List.replicate (bs.length + 4 - p - 1) 0 := by
      rw [← List.replicate_succ, List.replicate_append_replicate]; congr 1; omega
    by_cases c : o + j ≤ 8
    · obtain ⟨k1, k2⟩ := check_in o ho j (by omega) hj c
      rw [hrep, fl_in p o _ j c] at hx
      by_cases e : p + 1 = bs.length + 4
      · have er : bs.length + 4 - p - 1 = 0 := by omega
        rw [er, List.replicate_zero] at hx
        exact burst_no bs.length p (pat o j) 0 [] (.inl ⟨rfl, e⟩) (by simp; omega) k1 k2 hx
      · have er : List.replicate (bs.length + 4 - p - 1) (0 : UInt8) = 0 :: List.replicate (bs.length + 4 - p - 2) 0 := by
          rw [← List.replicate_succ]; congr 1; omega
        rw [er] at hx
        exact burst_no bs.length p (pat o j) 0 _ (.inr ⟨⟨_, rfl⟩, by omega⟩) (by simp; omega) k1 k2 hx
    · obtain ⟨i, rfl⟩ : ∃ i, j = 8 - o + i := ⟨j - (8 - o), by omega⟩
      obtain ⟨k1, k2⟩ := check_over o ho i (by omega) hj3
      have er : List.replicate (bs.length + 4 - p - 1) (0 : UInt8) = 0 :: List.replicate (bs.length + 4 - p - 2) 0 := by
        rw [← List.replicate_succ]; congr 1; omega
      rw [hrep, er, fl_over p o ho _ i (by omega)] at hx
      exact burst_no bs.length p (pat o (8 - o)) (pat 0 i) _ (.inr ⟨⟨_, rfl⟩, by omega⟩) (by simp; omega) k1 k2 hx
theorem turned_open (bs : List UInt8) (at' j : Nat) (hj : 1 ≤ j) (hj3 : j ≤ 3) (h : at' + j ≤ 8 * (sealed bs).length) : openE (fl at' j (sealed bs)) = 16 ∧ openR (fl at' j (sealed bs)) = [] := by
  have hl := sealed_length bs
  have hf := fl_length at' j (sealed bs)
  have hn : ¬ (fl at' j (sealed bs)).length < 4 := by omega
  unfold openE openR
  simp only [if_neg hn, turned_no bs at' j hj hj3 h]
  exact ⟨rfl, rfl⟩

theorem mask_mod (r : Nat) (hr : r < 8) : (2 : Int) ^ r % 256 = ((maskB r).toNat : Int) := by
  have : r = 0 ∨ r = 1 ∨ r = 2 ∨ r = 3 ∨ r = 4 ∨ r = 5 ∨ r = 6 ∨ r = 7 := by omega
  rcases this with rfl | rfl | rfl | rfl | rfl | rfl | rfl | rfl <;> decide
theorem xor8 (a b : UInt8) : bits .xor .u8 (a.toNat : Int) (b.toNat : Int) = ((a ^^^ b).toNat : Int) := by
  rw [u8_xor_nat _ _ (by have := a.toNat_lt; omega) (by have := b.toNat_lt; omega), UInt8.toNat_xor]
theorem set_cells (l : List UInt8) (q : Nat) (x : UInt8) : (cellsB l).set q (byteV x) = cellsB (l.set q x) := by
  unfold cellsB; rw [List.map_set]
/-- a store into bytes of one's own -/
theorem OwnB.store {base g n cap : Nat} {w : World} {l : List UInt8} (h : OwnB base w (.slice (some ⟨g, 0, none⟩) n cap) l) (q : Nat) (x : UInt8) : OwnB base (w.setCell ⟨g, q, none⟩ (byteV x)) (.slice (some ⟨g, 0, none⟩) n cap) (l.set q x) := by
  have hn : n = l.length := by obtain ⟨_, _, hv, _⟩ := h.form; cases hv; rfl
  subst hn
  have := World.ownsRow.stored h q (byteV x)
  unfold OwnB
  rw [List.length_set, ← set_cells]
  exact this.1
end Go.Proofs.Ytmkomhdlcbimoaa
