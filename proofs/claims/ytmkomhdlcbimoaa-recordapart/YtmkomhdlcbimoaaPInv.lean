/- Records and bytes are each other's inverse: plain mathematics. No statement of the seat is proved here. -/
import Derived.Test.YtmkomhdlcbimoaaPDecode
namespace Go.Proofs.Ytmkomhdlcbimoaa
set_option maxRecDepth 20000
open Go.RowKit

theorem strOf_data (s : ByteArray) : strOf s.data.toList = s := by cases s; simp [strOf]
theorem empty_of_size {s : ByteArray} (h : s.size = 0) : s = ByteArray.empty := by
  cases s with
  | mk d =>
    have : d = #[] := Array.eq_empty_of_size_eq_zero h
    rw [this]; rfl
theorem u64_back {n : Int} (h0 : -9223372036854775808 ≤ n) (h1 : n ≤ 9223372036854775807) : wrap64 (u64 n : Nat) = n := by unfold wrap64 u64; omega
theorem drop_cons (x : UInt8) (l : List UInt8) : (x :: l).drop 1 = l := rfl
theorem first_item (x : It) (rest : List UInt8) (hf : formB x = true) (hl : longB x = false) (hok : x.ok) : firstI (itemB x ++ rest) = (x, (itemB x).length) := by
  have hs := form_size hf hl
  obtain ⟨xk, xn, xs⟩ := x
  unfold formB at hf
  simp at hf
  rcases hf with ⟨rfl, h2⟩ | ⟨rfl, rfl⟩
  · have he : xs = ByteArray.empty := empty_of_size (by simpa using h2)
    subst he
    rw [itemB_one rfl]
    have hlen : ([1] ++ low (u64 xn) 8).length = 9 := by simp [low_length]
    rw [first_one rfl (by rw [List.length_append, hlen]; omega), hlen]
    have e1 : (([1] ++ low (u64 xn) 8 ++ rest).drop 1).take 8 = low (u64 xn) 8 := by
      show (low (u64 xn) 8 ++ rest).take 8 = _
      have := low_length (u64 xn) 8
      rw [List.take_append_of_le_length (by omega), List.take_of_length_le (by omega)]
    rw [e1, le_low, Nat.mod_eq_of_lt (by have := u64_lt xn; have e : (2 : Nat) ^ (8 * 8) = 18446744073709551616 := by decide
                                         omega), u64_back hok.2.1.1 hok.2.1.2]
  · rw [itemB_two rfl]
    have hll := low_length xs.size 2
    have hsz : xs.data.toList.length = xs.size := by rw [Array.length_toList]; rfl
    have e1 : (([2] ++ low xs.size 2 ++ xs.data.toList ++ rest).drop 1).take 2 = low xs.size 2 := by
      show (low xs.size 2 ++ xs.data.toList ++ rest).take 2 = _
      rw [List.append_assoc, List.take_append_of_le_length (by omega), List.take_of_length_le (by omega)]
    have e2 : le (low xs.size 2) = xs.size := by
      rw [le_low]; exact Nat.mod_eq_of_lt (by have e : (2 : Nat) ^ (8 * 2) = 65536 := by decide
                                              have : xs.size ≤ 50000 := hs
                                              omega)
    have hlen : ([2] ++ low xs.size 2 ++ xs.data.toList).length = 3 + xs.size := by
      simp only [List.length_append, List.length_cons, List.length_nil, hll, hsz]
    have e3 : (([2] ++ low xs.size 2 ++ xs.data.toList ++ rest).drop 3).take xs.size = xs.data.toList := by
      have h3 : ([2] ++ low xs.size 2).length = 3 := by simp [hll]
      have : ([2] ++ low xs.size 2 ++ (xs.data.toList ++ rest)).drop 3 = xs.data.toList ++ rest := by
        have := List.drop_left (l₁ := [2] ++ low xs.size 2) (l₂ := xs.data.toList ++ rest)
        rwa [h3] at this
      rw [List.append_assoc ([2] ++ low xs.size 2), this, List.take_append_of_le_length (by omega), List.take_of_length_le (by omega)]
    rw [first_two rfl (by rw [List.length_append, hlen]; omega) (by rw [e1, e2]; exact hs) (by rw [e1, e2, List.length_append, hlen]; omega), e1, e2, e3, strOf_data, hlen]
theorem item_pos (x : It) : 0 < (itemB x).length := by unfold itemB; split <;> simp
/-- what is encoded is decoded -/
theorem dec_enc (l : List It) : ∀ (acc : List It) (f : Nat), (l.flatMap itemB).length ≤ f → acc.length + l.length ≤ 4000 → (∀ x ∈ l, formB x = true ∧ longB x = false ∧ x.ok) → dec f acc (l.flatMap itemB) = some (acc ++ l) := by
  induction l with
  | nil => intro acc f _ _ _; cases f <;> simp [dec]
  | cons x r ih =>
    intro acc f hf hc hx
    have hp := item_pos x
    obtain ⟨h1, h2, h3⟩ := hx x (List.mem_cons_self ..)
    rw [List.flatMap_cons] at hf ⊢
    rw [List.length_append] at hf
    obtain ⟨g, rfl⟩ : ∃ g, f = g + 1 := ⟨f - 1, by omega⟩
    simp only [List.length_cons] at hc
    rw [dec, if_neg (by rw [List.length_append]; omega), first_item x _ h1 h2 h3]
    simp only
    rw [if_neg (by omega), List.drop_left, ih (acc ++ [x]) g (by omega) (by simp; omega) (fun y hy => hx y (List.mem_cons_of_mem _ hy))]
    simp
theorem encE_ok {l : List It} (h : encE l = 0) : bigB l = false ∧ l.all formB = true := by
  unfold encE at h
  cases hb : bigB l
  · cases ha : l.all formB
    · rw [hb, ha] at h; simp at h
    · exact ⟨rfl, rfl⟩
  · rw [hb] at h; simp at h
theorem enc_facts {l : List It} (h : encE l = 0) (hok : ∀ x ∈ l, x.ok) : l.length ≤ 4000 ∧ ∀ x ∈ l, formB x = true ∧ longB x = false ∧ x.ok := by
  obtain ⟨h1, h2⟩ := encE_ok h
  unfold bigB at h1
  rw [Bool.or_eq_false_iff] at h1
  refine ⟨by simpa using h1.1, fun x hx => ⟨List.all_eq_true.1 h2 x hx, ?_, hok x hx⟩⟩
  have := List.any_eq_false.1 h1.2 x hx
  simpa using this
theorem encR_ok {l : List It} (h : encE l = 0) : encR l = l.flatMap itemB := by unfold encR; rw [h, if_pos rfl]
theorem decode_encode {l : List It} (h : encE l = 0) (hok : ∀ x ∈ l, x.ok) : decO (encR l) = some l := by
  obtain ⟨h1, h2⟩ := enc_facts h hok
  unfold decO
  rw [encR_ok h, dec_enc l [] _ (Nat.le_refl _) (by simpa using h1) h2]; rfl
/-- what begins with an item is that item's bytes -/
theorem item_first (bs : List UInt8) (h : (firstI bs).2 ≠ 0) : formB (firstI bs).1 = true ∧ longB (firstI bs).1 = false ∧ itemB (firstI bs).1 = bs.take (firstI bs).2 := by
  unfold firstI at h ⊢
  split
  · rename_i hc
    obtain ⟨h1, h2⟩ := hc
    refine ⟨by simp [formB], by simp [longB], ?_⟩
    simp only
    rw [itemB_one rfl]
    obtain ⟨c, r, rfl⟩ : ∃ c r, bs = c :: r := by cases bs with
      | nil => simp at h2
      | cons c r => exact ⟨c, r, rfl⟩
    have hc : c = 1 := UInt8.toNat_inj.1 h1
    subst hc
    simp only [List.length_cons] at h2
    show [1] ++ low (u64 (wrap64 (le (r.take 8)))) 8 = 1 :: r.take 8
    have hl : (r.take 8).length = 8 := by rw [List.length_take]; omega
    have hlt := le_lt (r.take 8)
    rw [hl] at hlt
    have e : (2 : Nat) ^ (8 * 8) = 18446744073709551616 := by decide
    have hu : u64 (wrap64 (le (r.take 8) : Nat)) = le (r.take 8) := by unfold u64 wrap64; omega
    rw [hu]
    have := low_le (r.take 8)
    rw [hl] at this
    rw [this]; rfl
  · split
    · rename_i hn hc
      obtain ⟨h1, h2, h3, h4⟩ := hc
      obtain ⟨c, r, rfl⟩ : ∃ c r, bs = c :: r := by cases bs with
        | nil => simp at h2
        | cons c r => exact ⟨c, r, rfl⟩
      have hc : c = 2 := UInt8.toNat_inj.1 h1
      subst hc
      simp only [List.length_cons] at h2 h4
      rw [drop_cons] at h3 h4 ⊢
      have hsz : (strOf ((((2 : UInt8) :: r).drop 3).take (le (r.take 2)))).size = le (r.take 2) := by
        show (List.toArray _).size = _
        rw [List.size_toArray, List.length_take, List.length_drop, List.length_cons]; omega
      refine ⟨by simp [formB], ?_, ?_⟩
      · unfold longB
        simp only
        rw [hsz]
        simp; omega
      · rw [itemB_two rfl]
        simp only
        rw [hsz]
        have hl : (r.take 2).length = 2 := by rw [List.length_take]; omega
        have := low_le (r.take 2)
        rw [hl] at this
        rw [this]
        show [2] ++ r.take 2 ++ ((r.drop 2).take (le (r.take 2))) = (2 :: r).take (3 + le (r.take 2))
        rw [show 3 + le (r.take 2) = (2 + le (r.take 2)) + 1 by omega, List.take_succ_cons, List.take_add]; rfl
    · rename_i h1 h2
      rw [if_neg h1, if_neg h2] at h
      exact absurd rfl h
/-- what is decoded is encoded to the same -/
theorem enc_dec : ∀ (f : Nat) (acc : List It) (bs : List UInt8) (l : List It), dec f acc bs = some l → ∃ r, l = acc ++ r ∧ r.flatMap itemB = bs ∧ (∀ x ∈ r, formB x = true ∧ longB x = false ∧ x.ok) ∧ (acc.length ≤ 4000 → l.length ≤ 4000) := by
  intro f
  induction f with
  | zero =>
    intro acc bs l h
    rw [dec] at h
    split at h
    · rename_i h0; cases h
      exact ⟨[], by simp, by rw [List.eq_nil_of_length_eq_zero h0]; rfl, by simp, fun h => h⟩
    · cases h
  | succ f ih =>
    intro acc bs l h
    rw [dec] at h
    split at h
    · rename_i h0; cases h
      exact ⟨[], by simp, by rw [List.eq_nil_of_length_eq_zero h0]; rfl, by simp, fun h => h⟩
    · split at h
      · cases h
      · rename_i h0 h1
        have h1' : (firstI bs).2 ≠ 0 ∧ acc.length ≠ 4000 := ⟨fun e => h1 (.inl e), fun e => h1 (.inr e)⟩
        obtain ⟨r, e1, e2, e3, e4⟩ := ih _ _ _ h
        obtain ⟨g1, g2, g3⟩ := item_first bs h1'.1
        refine ⟨(firstI bs).1 :: r, by rw [e1]; simp, ?_, ?_, fun hh => e4 (by simp; omega)⟩
        · rw [List.flatMap_cons, e2, g3, List.take_append_drop]
        · intro x hx
          rcases List.mem_cons.1 hx with rfl | hx
          · exact ⟨g1, g2, firstI_ok bs⟩
          · exact e3 x hx
theorem encode_decode {bs : List UInt8} {l : List It} (h : decO bs = some l) : encE l = 0 ∧ encR l = bs ∧ ∀ x ∈ l, x.ok := by
  obtain ⟨r, e1, e2, e3, e4⟩ := enc_dec _ _ _ _ h
  rw [List.nil_append] at e1
  subst e1
  have hlen := e4 (by simp)
  have hE : encE l = 0 := by
    unfold encE
    have hb : bigB l = false := by
      unfold bigB; rw [Bool.or_eq_false_iff]
      refine ⟨by simpa using hlen, ?_⟩
      rw [List.any_eq_false]; intro x hx; rw [(e3 x hx).2.1]; simp
    have ha : l.all formB = true := by rw [List.all_eq_true]; intro x hx; exact (e3 x hx).1
    rw [hb, ha]; rfl
  exact ⟨hE, by rw [encR_ok hE]; exact e2, fun x hx => (e3 x hx).2.2⟩
end Go.Proofs.Ytmkomhdlcbimoaa
