/- Bytes of numbers: plain mathematics. No statement of the seat is proved here. -/
import Derived.Laws.BitsAllLaws
namespace Go.Proofs.Ytmkomhdlcbimoaa
set_option maxRecDepth 20000

/-- the number whose bytes are l, the lowest first -/
def le : List UInt8 → Nat
  | [] => 0
  | c :: r => c.toNat + 256 * le r
/-- k bytes of n, the lowest first -/
def lowB (n i : Nat) : UInt8 := UInt8.ofNat (n / 2 ^ (8 * i))
def low (n k : Nat) : List UInt8 := (List.range k).map (lowB n)

theorem low_zero (n : Nat) : low n 0 = [] := rfl
theorem low_succ (n k : Nat) : low n (k + 1) = low n k ++ [lowB n k] := by
  simp [low, List.range_succ]
theorem low_length (n k : Nat) : (low n k).length = k := by simp [low]
theorem le_snoc (l : List UInt8) (c : UInt8) : le (l ++ [c]) = le l + c.toNat * 2 ^ (8 * l.length) := by
  induction l with
  | nil => simp [le]
  | cons a r ih =>
    simp only [List.cons_append, le, ih, List.length_cons]
    rw [show 8 * (r.length + 1) = 8 * r.length + 8 by omega, Nat.pow_add]
    have : (2 : Nat) ^ 8 = 256 := by decide
    rw [this, Nat.mul_add, ← Nat.mul_assoc (c.toNat), Nat.mul_comm _ 256]; omega
theorem le_lt (l : List UInt8) : le l < 2 ^ (8 * l.length) := by
  induction l with
  | nil => simp [le]
  | cons a r ih =>
    simp only [le, List.length_cons]
    rw [show 8 * (r.length + 1) = 8 * r.length + 8 by omega, Nat.pow_add]
    have h : (2 : Nat) ^ 8 = 256 := by decide
    have := a.toNat_lt
    rw [h]; omega
theorem le_inj {l m : List UInt8} (hl : l.length = m.length) (h : le l = le m) : l = m := by
  induction l generalizing m with
  | nil => cases m with
    | nil => rfl
    | cons b s => simp at hl
  | cons a r ih => cases m with
    | nil => simp at hl
    | cons b s =>
      simp only [le] at h
      have ha := a.toNat_lt
      have hb := b.toNat_lt
      have e1 : a.toNat = b.toNat := by omega
      have e2 : le r = le s := by omega
      rw [UInt8.toNat_inj.1 e1, ih (by simpa using hl) e2]
theorem le_low (n k : Nat) : le (low n k) = n % 2 ^ (8 * k) := by
  induction k with
  | zero => simp [low, le, Nat.mod_one]
  | succ k ih =>
    rw [low_succ, le_snoc, ih, low_length]
    unfold lowB
    rw [show 8 * (k + 1) = 8 * k + 8 by omega, Nat.pow_add, Nat.mod_mul, UInt8.toNat_ofNat']
    rw [Nat.mul_comm (2 ^ (8 * k))]
theorem low_le (l : List UInt8) : low (le l) l.length = l := by
  refine le_inj (low_length _ _) ?_
  rw [le_low, Nat.mod_eq_of_lt (le_lt l)]
theorem take_snoc' (l : List UInt8) (k : Nat) (h : k < l.length) : l.take (k + 1) = l.take k ++ [l.getD k 0] := by
  rw [List.take_succ_eq_append_getElem h, List.getD_eq_getElem?_getD, List.getElem?_eq_getElem h]; rfl
/-- a byte, as a number -/
def byteAt (l : List UInt8) (k : Nat) : Nat := (l.getD k 0).toNat
theorem byteAt_le (l : List UInt8) (k : Nat) : byteAt l k ≤ 255 := by unfold byteAt; have := (l.getD k 0).toNat_lt; omega
theorem byteAt_zero (l : List UInt8) (k : Nat) : byteAt l k = 0 ↔ l.getD k 0 = 0 := by
  unfold byteAt
  constructor
  · intro h; exact UInt8.toNat_inj.1 (by rw [h]; rfl)
  · intro h; rw [h]; rfl
theorem le_take (l : List UInt8) (k : Nat) (h : k < l.length) : le (l.take (k + 1)) = le (l.take k) + byteAt l k * 2 ^ (8 * k) := by
  unfold byteAt
  rw [take_snoc' l k h, le_snoc, List.length_take, Nat.min_eq_left (by omega)]
theorem le_take_lt (l : List UInt8) (k : Nat) (h : k ≤ l.length) : le (l.take k) < 2 ^ (8 * k) := by
  have := le_lt (l.take k); rwa [List.length_take, Nat.min_eq_left h] at this
/-- putting the next byte in by 'or' is adding it -/
theorem or_byte (a c k : Nat) (ha : a < 2 ^ (8 * k)) : a ||| c * 2 ^ (8 * k) = a + c * 2 ^ (8 * k) := by
  rw [Nat.or_comm, Nat.mul_comm, ← Nat.two_pow_add_eq_or_of_lt ha, Nat.add_comm]
theorem byte_fits (c : Nat) (k : Nat) (hc : c ≤ 255) (h : k < 8) : c * 2 ^ (8 * k) < 18446744073709551616 := by
  have hp : 2 ^ (8 * k) ≤ 2 ^ 56 := Nat.pow_le_pow_right (by decide) (by omega)
  have : c * 2 ^ (8 * k) ≤ 255 * 2 ^ 56 := Nat.mul_le_mul hc hp
  have e : 255 * 2 ^ 56 < 18446744073709551616 := by decide
  omega
theorem sum_fits (l : List UInt8) (k : Nat) (h : k < l.length) (h8 : l.length ≤ 8) : le (l.take (k + 1)) < 18446744073709551616 := by
  have := le_take_lt l (k + 1) h
  have hp : 2 ^ (8 * (k + 1)) ≤ 2 ^ 64 := Nat.pow_le_pow_right (by decide) (by omega)
  have e : (2 : Nat) ^ 64 = 18446744073709551616 := by decide
  omega
end Go.Proofs.Ytmkomhdlcbimoaa
