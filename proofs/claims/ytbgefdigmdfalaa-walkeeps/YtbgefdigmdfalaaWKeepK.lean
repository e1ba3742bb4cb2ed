/- The state of a log in a script with crashes, as the walk holds it, and each step's. No statement of the seat is proved here. -/
import Derived.Test.YtbgefdigmdfalaaWSome
namespace Go.Proofs.Ytbgefdigmdfalaa
set_option maxRecDepth 20000
open Go.RowKit

structure KS (d : Dev) (l : Wl) (n : Nat) (T : Txs) (m : Nat) (X : List (List Im)) (k N : Nat) : Prop where
  inv : KInv d l n T m X
  n2 : 2 ≤ n
  n13 : n ≤ 13
  e1 : 1 ≤ l.epoch
  ek : l.epoch ≤ k + 1
  tk : l.tail ≤ 14 * k
  nk : N ≤ 20 * k
  hl : (imgT T ++ X).length ≤ k
theorem imgT_length (T : Txs) : (imgT T).length = T.length := by unfold imgT; simp
theorem KS.waits {d : Dev} {l : Wl} {n : Nat} {T : Txs} {m : Nat} {X : List (List Im)} {k N : Nat} (h : KS d l n T m X k N) : d.waits.length ≤ 13 := by
  obtain ⟨R, j, w1, -, -, -, w5⟩ := h.inv.recs
  have := h.n13
  rw [w1, wr_length]; omega
theorem KS.more {d : Dev} {l : Wl} {n : Nat} {T : Txs} {m : Nat} {X : List (List Im)} {k N : Nat} (h : KS d l n T m X k N) : KS d l n T m X (k + 1) N :=
  ⟨h.inv, h.n2, h.n13, h.e1, by have := h.ek; omega, by have := h.tk; omega, by have := h.nk; omega, by have := h.hl; omega⟩
theorem KS.append {d : Dev} {l : Wl} {n : Nat} {T : Txs} {m : Nat} {X : List (List Im)} {k N : Nat} (h : KS d l n T m X k N) (a : List Im) (hx : ∀ y ∈ a, y.ok) :
    (appE d l a = 0 ∧ ∃ T' X', imgT T' ++ X' = (imgT T ++ X) ++ [a] ∧ KS (appDev d l a) (appL d l a) n T' m X' (k + 1) N) ∨
    (appE d l a = 4 ∧ ∃ T' X', imgT T' ++ X' = (imgT T ++ X) ++ [a] ∧ KS (appDev d l a) (appL d l a) n T' m X' (k + 1) N) ∨
    ((appE d l a == 0) = false ∧ (appE d l a == 4) = false ∧ KS (appDev d l a) (appL d l a) n T m X (k + 1) N) := by
  have hek := h.ek
  have htk := h.tk
  have hnk := h.nk
  have hhl := h.hl
  rcases h.inv.append a hx with ⟨g, hi, hX, ht, he⟩ | ⟨g, hi, hL⟩ | ⟨g0, g4, hi, hL⟩
  · subst hX
    have e : imgT (T ++ [(l.epoch, a)]) ++ [] = (imgT T ++ []) ++ [a] := by unfold imgT; simp
    refine .inl ⟨g, T ++ [(l.epoch, a)], [], e, hi, h.n2, h.n13, by rw [he]; exact h.e1, by rw [he]; omega, by rw [ht]; omega, by omega, ?_⟩
    rw [e, List.length_append]; simp only [List.length_singleton]; omega
  · have e : imgT T ++ (X ++ [a]) = (imgT T ++ X) ++ [a] := (List.append_assoc _ _ _).symm
    refine .inr (.inl ⟨g, T, X ++ [a], e, by rw [hL]; exact hi, h.n2, h.n13, by rw [hL]; exact h.e1, by rw [hL]; omega, by rw [hL]; omega, by omega, ?_⟩)
    rw [e, List.length_append]; simp only [List.length_singleton]; omega
  · refine .inr (.inr ⟨by simpa using g0, by simpa using g4, by rw [hL]; exact hi, h.n2, h.n13, by rw [hL]; exact h.e1, by rw [hL]; omega, by rw [hL]; omega, by omega, by omega⟩)
theorem KS.flush {d : Dev} {l : Wl} {n : Nat} {T : Txs} {m : Nat} {X : List (List Im)} {k N : Nat} (h : KS d l n T m X k N) :
    (d.flush.1 = 0 ∧ X = [] ∧ KS d.flush.2 l n T T.length [] (k + 1) (N + d.waits.length)) ∨ (d.flush.1 = 4 ∧ KS d.flush.2 l n T m X (k + 1) (N + d.waits.length)) := by
  have hw := h.waits
  have hek := h.ek
  have htk := h.tk
  have hnk := h.nk
  have hhl := h.hl
  rcases h.inv.flush with ⟨g, hX, hi⟩ | ⟨g, hi⟩
  · subst hX
    exact .inl ⟨g, rfl, hi, h.n2, h.n13, h.e1, by omega, by omega, by omega, by omega⟩
  · exact .inr ⟨g, hi, h.n2, h.n13, h.e1, by omega, by omega, by omega, by omega⟩
theorem KS.arm {d : Dev} {l : Wl} {n : Nat} {T : Txs} {m : Nat} {X : List (List Im)} {k N : Nat} (h : KS d l n T m X k N) (z : Int) : KS (d.arm z) l n T m X (k + 1) N := by
  have hek := h.ek
  have htk := h.tk
  have hnk := h.nk
  have hhl := h.hl
  refine ⟨h.inv.dev ?_ ?_ ?_ ?_, h.n2, h.n13, h.e1, by omega, by omega, by omega, by omega⟩
  · rfl
  · rfl
  · rfl
  · intro hoff
    refine h.inv.on ?_
    have e : (d.arm z).off = d.off := rfl
    rw [← e]; exact hoff
theorem KS.crash {d : Dev} {l : Wl} {n : Nat} {T : Txs} {m : Nat} {X : List (List Im)} {k N : Nat} (h : KS d l n T m X k N) (hk : k ≤ 100) (zs : List Int) : ∃ m' nx, m ≤ m' ∧ m' ≤ (imgT T ++ X).length ∧ imgT (T.take m') = (imgT T ++ X).take m' ∧ (imgT (T.take m')).length = m' ∧
    scanR (d.crash zs) n (wl0 0 n l.tail (l.epoch + 1)) 0 = (imgT (T.take m'), nx) ∧ openB (d.crash zs) ((0 : Nat) : Int) (n : Nat) (l.tail : Nat) ((l.epoch + 1 : Nat) : Int) = true ∧ ((d.crash zs).read ((0 : Nat) : Int)).2 ≠ 4 ∧ (d.crash zs).waits.length = 0 ∧
    KS (d.crash zs) { (wl0 0 n l.tail (l.epoch + 1)) with next := nx } n (T.take m') m' [] (k + 1) (N + d.waits.length) := by
  have hw := h.waits
  have hek := h.ek
  have htk := h.tk
  have hnk := h.nk
  have hhl := h.hl
  obtain ⟨m', q1, q2, q3, q4, q5, q6⟩ := h.inv.crash zs h.e1 (by omega) (by omega)
  have hlen : (imgT (T.take m')).length = m' := by rw [imgT_length, List.length_take]; omega
  refine ⟨m', _, q1, by rw [List.length_append, imgT_length]; omega, ?_, hlen, q3, q4, q5, by rw [(crash_same d zs).1]; rfl, q6, h.n2, h.n13, ?_, ?_, ?_, by omega, ?_⟩
  · rw [List.take_append_of_le_length (by rw [imgT_length]; exact q2)]
    unfold imgT; rw [List.map_take]
  · show 1 ≤ l.epoch + 1; omega
  · show l.epoch + 1 ≤ _; omega
  · show l.tail ≤ _; omega
  · rw [List.append_nil, hlen]
    rw [List.length_append, imgT_length] at hhl
    omega
theorem KS.trim {d : Dev} {l : Wl} {n : Nat} {x : Nat × List Im} {T : Txs} {m : Nat} {X : List (List Im)} {k N : Nat} (h : KS d l n (x :: T) m X k N) (hk : k ≤ 100) (he : l.epoch = 1) (hf : d.flush.1 = 0) :
    l.tail + (x.2.length + 1) ≤ l.next ∧ trimE l ((l.tail + (x.2.length + 1) : Nat) : Int) = 0 ∧ l.trim ((l.tail + (x.2.length + 1) : Nat) : Int) = { l with tail := l.tail + (x.2.length + 1) } ∧
    KS d.flush.2 { l with tail := l.tail + (x.2.length + 1) } n T T.length [] (k + 1) (N + d.waits.length) := by
  have hw := h.waits
  have hek := h.ek
  have htk := h.tk
  have hnk := h.nk
  have hhl := h.hl
  have h13 := h.n13
  rcases h.inv.flush with ⟨g, hX, hi⟩ | ⟨g, -⟩
  · subst hX
    have hroom := h.inv.room
    have hnx := h.inv.next
    simp only [lenT] at hroom hnx
    have hlt : l.tail + (x.2.length + 1) ≤ l.next := by omega
    refine ⟨hlt, ?_, ?_, hi.trim he (by omega), h.n2, h.n13, h.e1, by show l.epoch ≤ _; omega, ?_, by omega, ?_⟩
    · unfold trimE; rw [if_neg (by omega)]
    · unfold Wl.trim; rw [if_neg (by omega), Int.toNat_natCast]
    · show l.tail + (x.2.length + 1) ≤ _; omega
    · rw [List.append_nil, imgT_length] at hhl ⊢
      simp only [List.length_cons] at hhl
      omega
  · rw [hf] at g; cases g
theorem KS.start {n : Nat} (h2 : 2 ≤ n) (hn : n ≤ 13) : openB (Dev.fresh n) ((0 : Nat) : Int) (n : Nat) ((0 : Nat) : Int) ((1 : Nat) : Int) = true ∧ KS (Dev.fresh n) (wl0 0 n 0 1) n [] 0 [] 0 0 := by
  obtain ⟨h1, hi⟩ := KInv.start (n := n) h2 (by omega)
  exact ⟨h1, hi, h2, hn, Nat.le_refl _, Nat.le_refl _, Nat.le_refl _, Nat.le_refl _, Nat.le_refl _⟩
end Go.Proofs.Ytbgefdigmdfalaa
