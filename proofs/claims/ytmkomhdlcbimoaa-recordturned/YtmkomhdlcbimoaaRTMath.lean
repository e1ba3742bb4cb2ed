/- A log record's sector, or a blob, with one bit turned is refused: plain mathematics. No statement of the seat is proved here. -/
import Derived.Test.YtmkomhdlcbimoaaRKnown
namespace Go.Proofs.Ytmkomhdlcbimoaa
set_option maxRecDepth 20000
open Go.RowKit

theorem log_pack (l : Lg) : ∃ A : List UInt8, A.length = 73 ∧ packB (logI l) = A ++ (low l.data.size 2 ++ l.data.data.toList) := by
  refine ⟨itemB (numI 2) ++ (itemB (numI l.kind) ++ (itemB (numI l.epoch) ++ (itemB (numI l.seq) ++ (itemB (numI l.tx) ++ (itemB (numI l.index) ++ (itemB (numI l.count) ++ (itemB (numI l.page) ++ [2]))))))), ?_, ?_⟩
  · simp only [List.length_append, numI_len, List.length_cons, List.length_nil]
  · simp only [packB, logI, List.flatMap_cons, List.flatMap_nil, List.append_nil, itemB_two (x := txtI l.data) rfl, List.append_assoc]
    rfl
theorem le_low2 {n : Nat} (h : n < 65536) : le (low n 2) = n := by
  rw [le_low, Nat.mod_eq_of_lt (by have e : (2 : Nat) ^ (8 * 2) = 65536 := by decide
                                   omega)]
structure LogSect (S : List UInt8) (l : Lg) : Prop where
  len : S.length = 256
  le1 : le (S.take 2) = 79 + l.data.size
  le2 : le ((S.drop 75).take 2) = l.data.size
  body : (S.drop 2).take (79 + l.data.size) = sealed (packB (logI l))
  pad : ∀ i, 81 + l.data.size ≤ i → S.getD i 0 = 0
theorem log_sect_form {l : Lg} (h : l.data.size ≤ 160) : LogSect (sectB (logI l)) l := by
  have hp := logI_len l
  have hs := sealed_length (packB (logI l))
  have hl : (sectB (logI l)).length = 256 := (sect_un (by omega)).2.2
  have h2 : (low (sealed (packB (logI l))).length 2).length = 2 := low_length _ _
  have e0 : sectB (logI l) = low (sealed (packB (logI l))).length 2 ++ (sealed (packB (logI l)) ++ List.replicate (((256 : Nat) : Int).toNat - (2 + (sealed (packB (logI l))).length)) 0) := by
    unfold sectB frameB; rw [List.append_assoc]
  have d2 : (sectB (logI l)).drop 2 = sealed (packB (logI l)) ++ List.replicate (((256 : Nat) : Int).toNat - (2 + (sealed (packB (logI l))).length)) 0 := by
    rw [e0]
    have := List.drop_left (l₁ := low (sealed (packB (logI l))).length 2) (l₂ := sealed (packB (logI l)) ++ List.replicate (((256 : Nat) : Int).toNat - (2 + (sealed (packB (logI l))).length)) 0)
    rwa [h2] at this
  refine ⟨hl, ?_, ?_, ?_, ?_⟩
  · have : (sectB (logI l)).take 2 = low (sealed (packB (logI l))).length 2 := by
      rw [e0]
      have := List.take_left (l₁ := low (sealed (packB (logI l))).length 2) (l₂ := sealed (packB (logI l)) ++ List.replicate (((256 : Nat) : Int).toNat - (2 + (sealed (packB (logI l))).length)) 0)
      rwa [h2] at this
    rw [this, le_low2 (by omega)]; omega
  · obtain ⟨A, hA, hpk⟩ := log_pack l
    have : ((sectB (logI l)).drop 75).take 2 = low l.data.size 2 := by
      rw [show 75 = 2 + 73 from rfl, ← List.drop_drop, d2]
      unfold sealed
      rw [hpk, List.append_assoc, List.append_assoc, List.append_assoc]
      have e1 := List.drop_left (l₁ := A) (l₂ := low l.data.size 2 ++ (l.data.data.toList ++ (low (crc (A ++ (low l.data.size 2 ++ l.data.data.toList))) 4 ++ List.replicate (((256 : Nat) : Int).toNat - (2 + ((A ++ (low l.data.size 2 ++ l.data.data.toList)) ++ low (crc (A ++ (low l.data.size 2 ++ l.data.data.toList))) 4).length)) 0)))
      rw [hA] at e1
      rw [e1]
      have e2 := List.take_left (l₁ := low l.data.size 2) (l₂ := l.data.data.toList ++ (low (crc (A ++ (low l.data.size 2 ++ l.data.data.toList))) 4 ++ List.replicate (((256 : Nat) : Int).toNat - (2 + ((A ++ (low l.data.size 2 ++ l.data.data.toList)) ++ low (crc (A ++ (low l.data.size 2 ++ l.data.data.toList))) 4).length)) 0))
      rw [low_length] at e2
      exact e2
    rw [this, le_low2 (by omega)]
  · rw [d2, show 79 + l.data.size = (sealed (packB (logI l))).length by omega]
    exact List.take_left
  · intro i hi
    have e3 : i = 2 + (i - 2) := by omega
    have e4 : (sectB (logI l)).getD i 0 = ((sectB (logI l)).drop 2).getD (i - 2) 0 := by
      rw [List.getD_eq_getElem?_getD, List.getD_eq_getElem?_getD, List.getElem?_drop, ← e3]
    rw [e4, d2, List.getD_eq_getElem?_getD, List.getElem?_append_right (by omega)]
    rw [List.getElem?_replicate]
    split <;> rfl
theorem flip_get (S : List UInt8) (k i : Nat) (h : k / 8 < S.length) : (flipAt S k).getD i 0 = if i = k / 8 then S.getD i 0 ^^^ maskB (k % 8) else S.getD i 0 := by
  unfold flipAt
  rw [List.getD_eq_getElem?_getD, List.getElem?_set]
  by_cases e : i = k / 8
  · subst e; simp [h]
  · rw [if_neg (fun c => e c.symm), if_neg e, List.getD_eq_getElem?_getD]
theorem mask_ne (r : Nat) (h : r < 8) : maskB r ≠ 0 := by
  have : r = 0 ∨ r = 1 ∨ r = 2 ∨ r = 3 ∨ r = 4 ∨ r = 5 ∨ r = 6 ∨ r = 7 := by omega
  rcases this with rfl | rfl | rfl | rfl | rfl | rfl | rfl | rfl <;> decide
theorem flip_ne (S : List UInt8) (k : Nat) (h : k / 8 < S.length) : (flipAt S k).getD (k / 8) 0 ≠ S.getD (k / 8) 0 := by
  rw [flip_get S k _ h, if_pos rfl]
  intro e
  have : maskB (k % 8) = 0 := by
    have h2 := congrArg (S.getD (k / 8) 0 ^^^ ·) e
    simp only [← UInt8.xor_assoc, UInt8.xor_self, UInt8.zero_xor] at h2
    exact h2
  exact mask_ne _ (by omega) this
theorem flip_take (S : List UInt8) (k n : Nat) (h : n ≤ k / 8) : (flipAt S k).take n = S.take n := by
  unfold flipAt
  rw [List.take_set, List.set_eq_of_length_le (by rw [List.length_take]; omega)]
theorem flip_drop_lt (S : List UInt8) (k n : Nat) (h : k / 8 < n) : (flipAt S k).drop n = S.drop n := by
  unfold flipAt
  rw [List.drop_set, if_pos h]
theorem flip_drop_ge (S : List UInt8) (k n : Nat) (h : n ≤ k / 8) : (flipAt S k).drop n = flipAt (S.drop n) (k - 8 * n) := by
  unfold flipAt
  rw [List.drop_set, if_neg (by omega), show (k - 8 * n) / 8 = k / 8 - n by omega, show (k - 8 * n) % 8 = k % 8 by omega]
  congr 2
  rw [List.getD_eq_getElem?_getD, List.getD_eq_getElem?_getD, List.getElem?_drop]
  congr 2; omega
theorem flip_take_ge (S : List UInt8) (k n : Nat) (h : k / 8 < n) : (flipAt S k).take n = flipAt (S.take n) k := by
  unfold flipAt
  rw [List.take_set]
  congr 2
  rw [List.getD_eq_getElem?_getD, List.getD_eq_getElem?_getD, List.getElem?_take, if_pos h]
theorem fl_one (S : List UInt8) (k : Nat) : fl k 1 S = flipAt S k := rfl
theorem log_flip {l : Lg} (h : l.data.size ≤ 160) (k : Nat) (hk : k < 2048) : logE (flipAt (sectB (logI l)) k) ≠ 0 := fun hE => by
  have f := log_sect_form h
  obtain ⟨h1, h2, -⟩ := log_back hE
  have h3 := logOk_size h2
  have f' := log_sect_form h3
  rw [← h1] at f'
  generalize logV (flipAt (sectB (logI l)) k) = l' at *
  generalize sectB (logI l) = S at *
  have hS : k / 8 < S.length := by rw [f.len]; omega
  by_cases c : k / 8 < 2
  · have e := f'.le2
    rw [flip_drop_lt _ _ _ (by omega), f.le2] at e
    have e1 := f'.le1
    rw [← e, ← f.le1] at e1
    have hl1 : ((flipAt S k).take 2).length = 2 := by rw [List.length_take, flip_length, f.len]; omega
    have hl2 : (S.take 2).length = 2 := by rw [List.length_take, f.len]; omega
    have e2 : (flipAt S k).take 2 = S.take 2 := by
      have q1 := low_le ((flipAt S k).take 2)
      have q2 := low_le (S.take 2)
      rw [hl1] at q1
      rw [hl2] at q2
      rw [← q1, e1, q2]
    refine flip_ne S k hS ?_
    have g : ∀ X : List UInt8, X.getD (k / 8) 0 = (X.take 2).getD (k / 8) 0 := fun X => by
      rw [List.getD_eq_getElem?_getD, List.getD_eq_getElem?_getD, List.getElem?_take, if_pos c]
    rw [g, g S, e2]
  · have e := f'.le1
    rw [flip_take _ _ _ (by omega), f.le1] at e
    have e' : l.data.size = l'.data.size := by omega
    by_cases c2 : k / 8 < 81 + l.data.size
    · have e3 := f'.body
      rw [flip_drop_ge _ _ _ (by omega), ← e', flip_take_ge _ _ _ (by omega), f.body, ← fl_one] at e3
      have hl := sealed_length (packB (logI l))
      have hp := logI_len l
      have t := turned_open (packB (logI l)) (k - 8 * 2) 1 (by omega) (by omega) (by omega)
      rw [e3, (open_sealed _).1] at t
      exact absurd t.1 (by decide)
    · refine flip_ne S k hS ?_
      rw [f.pad _ (by omega), f'.pad _ (by omega)]
theorem blob_flip {n : Int} {l : List Pr} (k : Nat) (hk : k < 8 * (blobB n l).length) : pdecE (flipAt (blobB n l) k) = 16 ∧ pdecN (flipAt (blobB n l) k) = 0 ∧ pdecL (flipAt (blobB n l) k) = [] := by
  have t := turned_open (packB (pairI n l)) k 1 (by omega) (by omega) (by unfold blobB at hk; omega)
  have hu : unsE (flipAt (blobB n l) k) = 16 := by
    unfold unsE
    rw [show openE (flipAt (blobB n l) k) = 16 from t.1]; rfl
  have hE : pdecE (flipAt (blobB n l) k) = 16 := by
    unfold pdecE; rw [hu]; rfl
  refine ⟨hE, ?_, ?_⟩
  · unfold pdecN; rw [hE]; rfl
  · unfold pdecL; rw [hE]; rfl
end Go.Proofs.Ytmkomhdlcbimoaa
