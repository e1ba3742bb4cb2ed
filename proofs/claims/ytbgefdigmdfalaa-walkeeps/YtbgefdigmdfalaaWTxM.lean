/- What wal's transaction and scan find, as numbers and lists. No statement of the seat is proved here. -/
import Derived.Test.YtbgefdigmdfalaaJ2
namespace Go.Proofs.Ytbgefdigmdfalaa
set_option maxRecDepth 20000
open Go.RowKit

theorem wlRec_ok {d : Dev} {l : Wl} {seq : Nat} (h : (wlRec d l seq).2 = true) : logOk (wlRec d l seq).1 = true ∧ (wlRec d l seq).1.ok := by
  unfold wlRec at h ⊢
  split at h
  · simp at h
  · rename_i h0
    rw [if_neg h0]
    simp only [decide_eq_true_eq] at h ⊢
    exact ⟨(log_back h).2.1, (log_back h).2.2⟩
/-- the images of the first j records of a transaction that begins at Next with hd, if all of them stand there -/
def txA (d : Dev) (l : Wl) (hd : Lg) (n : Nat) : Nat → Option (List Im)
  | 0 => some []
  | j + 1 => match txA d l hd n j with
    | none => none
    | some a => if (wlRec d l (l.next + j)).2 = true ∧ folB (wlRec d l (l.next + j)).1 hd l.next j = true then some (if j < n then a ++ [⟨(wlRec d l (l.next + j)).1.page, (wlRec d l (l.next + j)).1.data⟩] else a) else none
theorem txA_stuck {d : Dev} {l : Wl} {hd : Lg} {n j : Nat} (h : txA d l hd n j = none) : ∀ k, txA d l hd n (j + k) = none
  | 0 => h
  | k + 1 => by rw [← Nat.add_assoc, txA, txA_stuck h k]
theorem txA_yes {d : Dev} {l : Wl} {hd : Lg} {n j : Nat} {a : List Im} (h : txA d l hd n j = some a) (h1 : (wlRec d l (l.next + j)).2 = true) (h2 : folB (wlRec d l (l.next + j)).1 hd l.next j = true) : txA d l hd n (j + 1) = some (if j < n then a ++ [⟨(wlRec d l (l.next + j)).1.page, (wlRec d l (l.next + j)).1.data⟩] else a) := by
  rw [txA, h]; simp only; rw [if_pos ⟨h1, h2⟩]
theorem txA_no {d : Dev} {l : Wl} {hd : Lg} {n j : Nat} {a : List Im} (h : txA d l hd n j = some a) (h1 : (wlRec d l (l.next + j)).2 = false ∨ folB (wlRec d l (l.next + j)).1 hd l.next j = false) : txA d l hd n (j + 1) = none := by
  rw [txA, h]; simp only; rw [if_neg]
  rintro ⟨q1, q2⟩
  rcases h1 with h1 | h1
  · rw [q1] at h1; exact absurd h1 (by simp)
  · rw [q2] at h1; exact absurd h1 (by simp)
theorem txA_length {d : Dev} {l : Wl} {hd : Lg} {n : Nat} : ∀ {j : Nat} {a : List Im}, txA d l hd n j = some a → a.length = min j n
  | 0, a, h => by rw [txA] at h; cases h; simp
  | j + 1, a, h => by
    rw [txA] at h
    split at h
    · exact absurd h (by simp)
    · rename_i b hb
      have ih := txA_length hb
      split at h
      · cases h
        split
        · rw [List.length_append, ih]; simp only [List.length_cons, List.length_nil]; omega
        · rw [ih]; omega
      · exact absurd h (by simp)
theorem txA_ok {d : Dev} {l : Wl} {hd : Lg} {n : Nat} : ∀ {j : Nat} {a : List Im}, txA d l hd n j = some a → imsOk a = true ∧ ∀ x ∈ a, x.ok
  | 0, a, h => by rw [txA] at h; cases h; exact ⟨rfl, fun x hx => absurd hx (by simp)⟩
  | j + 1, a, h => by
    rw [txA] at h
    split at h
    · exact absurd h (by simp)
    · rename_i b hb
      have ih := txA_ok hb
      split at h
      · rename_i hq
        cases h
        split
        · obtain ⟨k1, k2⟩ := wlRec_ok hq.1
          have hs := logOk_size k1
          have hp : 0 ≤ (wlRec d l (l.next + j)).1.page := by unfold logOk at k1; simp only [decide_eq_true_eq] at k1; exact k1.1.2.2.2.2.2
          refine ⟨?_, fun x hx => ?_⟩
          · have i1 := ih.1
            unfold imsOk at i1 ⊢
            rw [List.all_append, i1]
            simp [imOk, hp, hs]
          · rcases List.mem_append.1 hx with hx | hx
            · exact ih.2 x hx
            · rw [List.mem_singleton.1 hx]
              exact ⟨k2.2.2.2.2.2.2.1, by simp only; omega⟩
        · exact ih
      · exact absurd h (by simp)
/-- the transaction at Next whose first record this is, if it stands there whole; n: how many images its records say -/
def txR (d : Dev) (l : Wl) (hd : Lg) (n : Nat) : Option (List Im) := if l.room ≤ n then none else txA d l hd n (n + 1)
theorem txR_length {d : Dev} {l : Wl} {hd : Lg} {n : Nat} {a : List Im} (h : txR d l hd n = some a) : a.length = n ∧ n < l.room := by
  unfold txR at h
  split at h
  · exact absurd h (by simp)
  · exact ⟨by rw [txA_length h]; omega, by omega⟩
/-- what scan finds from a log on, with an epoch, in at most f transactions: them, and where Next comes to stand -/
def scanR (d : Dev) : Nat → Wl → Int → List (List Im) × Nat
  | 0, l, _ => ([], l.next)
  | f + 1, l, e =>
    if l.room = 0 then ([], l.next)
    else if (wlRec d l l.next).2 = false ∨ (wlRec d l l.next).1.epoch < e then ([], l.next)
    else match txR d l (wlRec d l l.next).1 (wlRec d l l.next).1.count.toNat with
      | none => ([], l.next)
      | some a => (a :: (scanR d f { l with next := l.next + (a.length + 1) } (wlRec d l l.next).1.epoch).1, (scanR d f { l with next := l.next + (a.length + 1) } (wlRec d l l.next).1.epoch).2)
theorem Wl.Ok.step {l : Wl} (h : l.Ok) {k : Nat} (hk : k ≤ l.room) : Wl.Ok { l with next := l.next + k } := by
  unfold Wl.room at hk
  exact ⟨h.fs, h.two, by have := h.tn; simp only; omega, by have := h.tn; have := h.room; simp only; omega, h.tail, h.epoch⟩
end Go.Proofs.Ytbgefdigmdfalaa
