/- The state of a log in a script with crashes, and what each step makes of it. No statement of the seat is proved here. -/
import Derived.Test.YtbgefdigmdfalaaWKeepM
namespace Go.Proofs.Ytbgefdigmdfalaa
set_option maxRecDepth 20000
open Go.RowKit

structure KInv (d : Dev) (l : Wl) (n : Nat) (T : Txs) (m : Nat) (X : List (List Im)) : Prop where
  n4 : n ≤ 4096
  size : d.size = n
  first : l.first = 0
  lsz : l.size = n
  ok : l.Ok
  next : l.next = l.tail + lenT T
  mle : m ≤ T.length
  on : d.off = false → X = []
  oks : ∀ x ∈ T, imsOk x.2 = true ∧ ∀ y ∈ x.2, y.ok
  eps : EpsA 0 T
  last : lastE 0 (T.take m) ≤ l.epoch
  new : ∀ x ∈ T.drop m, x.1 = l.epoch
  wt : ∃ R k, d.waits = wr l (l.tail + lenT (T.take m)) R (lenT (T.drop m) + k) ∧ StdA (fun q => some (R q)) (l.tail + lenT (T.take m)) (T.drop m) ∧
    (k = 0 ∨ ∃ b X', X = b :: X' ∧ k ≤ b.length ∧ lenT T + (b.length + 1) ≤ n ∧ imsOk b = true ∧ (∀ y ∈ b, y.ok) ∧ ∀ i, i < k → R (l.next + i) = wantR l.epoch l.next i b)
  std : StdA (vl d l) l.tail (T.take m)
  hold : ∀ q r, l.tail + lenT (T.take m) ≤ q → q < l.tail + n → vl d l q = some r → r.seq = (q : Nat) → r.epoch < (l.epoch : Nat)
  notx : NoTx (vl d l) (l.tail + n) (l.tail + lenT (T.take m)) (lastE 0 (T.take m) : Nat)
  ep : ∀ q r, l.tail ≤ q → q < l.tail + n → vl d l q = some r → r.epoch ≤ (l.epoch : Nat)
  ep1 : l.epoch = 1 → ∀ q r, l.tail ≤ q → q < l.tail + n → vl d l q = some r → (1 : Int) ≤ r.epoch
theorem lenT_split (T : Txs) (m : Nat) : lenT T = lenT (T.take m) + lenT (T.drop m) := by
  rw [← lenT_append, List.take_append_drop]
theorem KInv.room {d : Dev} {l : Wl} {n : Nat} {T : Txs} {m : Nat} {X : List (List Im)} (h : KInv d l n T m X) : lenT T ≤ n := by
  have := h.ok.room; have := h.next; have := h.lsz; omega
theorem KInv.fits {d : Dev} {l : Wl} {n : Nat} {T : Txs} {m : Nat} {X : List (List Im)} (h : KInv d l n T m X) : Fits d l := by
  unfold Fits; rw [h.first, h.lsz, h.size]; omega
/-- another device that holds the same -/
theorem KInv.dev {d d' : Dev} {l : Wl} {n : Nat} {T : Txs} {m : Nat} {X : List (List Im)} (h : KInv d l n T m X) (h1 : d'.waits = d.waits) (h2 : d'.size = d.size) (h3 : d'.last = d.last) (hon : d'.off = false → X = []) : KInv d' l n T m X := by
  have hv : vl d' l = vl d l := vl_congr h3 h2 l
  exact ⟨h.n4, h2.trans h.size, h.first, h.lsz, h.ok, h.next, h.mle, hon, h.oks, h.eps, h.last, h.new, by rw [h1]; exact h.wt, by rw [hv]; exact h.std, by rw [hv]; exact h.hold, by rw [hv]; exact h.notx, by rw [hv]; exact h.ep, by rw [hv]; exact h.ep1⟩
/-- one more is told to stand perhaps, while the power is off -/
theorem KInv.down {d : Dev} {l : Wl} {n : Nat} {T : Txs} {m : Nat} {X : List (List Im)} (h : KInv d l n T m X) (hoff : d.off = true) (a : List Im) : KInv d l n T m (X ++ [a]) := by
  refine ⟨h.n4, h.size, h.first, h.lsz, h.ok, h.next, h.mle, fun e => absurd e (by rw [hoff]; simp), h.oks, h.eps, h.last, h.new, ?_, h.std, h.hold, h.notx, h.ep, h.ep1⟩
  obtain ⟨R, k, h1, h2, h3⟩ := h.wt
  refine ⟨R, k, h1, h2, h3.imp_right ?_⟩
  rintro ⟨b, X', rfl, r⟩
  exact ⟨b, X' ++ [a], rfl, r⟩
theorem stdA_eps {v : Nat → Option Lg} : ∀ {s : Nat} {T : Txs}, StdA v s T → ∀ q, s ≤ q → q < s + lenT T → ∃ e a i r, (e, a) ∈ T ∧ i ≤ a.length ∧ v q = some r ∧ ∃ t, t + i = q ∧ s ≤ t ∧ t + a.length + 1 ≤ s + lenT T ∧ r = wantR e t i a
  | s, [], _, q, h1, h2 => by simp only [lenT] at h2; omega
  | s, x :: T, h, q, h1, h2 => by
    obtain ⟨hs, hr⟩ := h
    simp only [lenT] at h2
    by_cases hq : q < s + (x.2.length + 1)
    · have := hs (q - s) (by omega)
      rw [show s + (q - s) = q by omega] at this
      exact ⟨x.1, x.2, q - s, _, by simp, by omega, this, s, by omega, Nat.le_refl _, by simp only [lenT]; omega, rfl⟩
    · obtain ⟨e, a, i, r, q1, q2, q3, t, q4, q5, q6, q7⟩ := stdA_eps hr q (by omega) (by omega)
      exact ⟨e, a, i, r, by simp [q1], q2, q3, t, q4, by omega, by simp only [lenT]; omega, q7⟩
/-- the records that wait are formed, and of this epoch -/
theorem KInv.recs {d : Dev} {l : Wl} {n : Nat} {T : Txs} {m : Nat} {X : List (List Im)} (h : KInv d l n T m X) : ∃ R k, d.waits = wr l (l.tail + lenT (T.take m)) R (lenT (T.drop m) + k) ∧ StdA (fun q => some (R q)) (l.tail + lenT (T.take m)) (T.drop m) ∧
    (k = 0 ∨ ∃ b X', X = b :: X' ∧ k ≤ b.length ∧ lenT T + (b.length + 1) ≤ n ∧ imsOk b = true ∧ (∀ y ∈ b, y.ok) ∧ ∀ i, i < k → R (l.next + i) = wantR l.epoch l.next i b) ∧
    (∀ i, i < lenT (T.drop m) + k → logOk (R (l.tail + lenT (T.take m) + i)) = true ∧ (R (l.tail + lenT (T.take m) + i)).ok ∧ (R (l.tail + lenT (T.take m) + i)).epoch = (l.epoch : Nat)) ∧ lenT (T.take m) + (lenT (T.drop m) + k) ≤ n := by
  obtain ⟨R, k, h1, h2, h3⟩ := h.wt
  have hsp := lenT_split T m
  have hroom := h.room
  have hn4 := h.n4
  have hnx := h.next
  have het := h.ok.epoch
  have htt := h.ok.tail
  refine ⟨R, k, h1, h2, h3, fun i hi => ?_, ?_⟩
  · by_cases hd : i < lenT (T.drop m)
    · obtain ⟨e, a, j, r, q1, q2, q3, t, q4, q5, q6, q7⟩ := stdA_eps h2 (l.tail + lenT (T.take m) + i) (by omega) (by omega)
      have he := h.new _ q1
      simp only at he
      obtain ⟨o1, o2⟩ := h.oks _ (List.mem_of_mem_drop q1)
      simp only at o1 o2
      have hr : R (l.tail + lenT (T.take m) + i) = wantR e t j a := by
        injection q3 with q3
        rw [q3, q7]
      rw [hr, he]
      exact ⟨want_form o1 _ _ _, want_ok (by omega) o2 _ _ _ het (by omega) (by omega), (want_head _ _ _ _).2.1⟩
    · rcases h3 with h3 | ⟨b, X', -, g1, g2, g3, g4, g5⟩
      · omega
      · have := g5 (i - lenT (T.drop m)) (by omega)
        have e : l.next + (i - lenT (T.drop m)) = l.tail + lenT (T.take m) + i := by omega
        rw [e] at this
        rw [this]
        exact ⟨want_form g3 _ _ _, want_ok (by omega) g4 _ _ _ het (by omega) (by omega), (want_head _ _ _ _).2.1⟩
  · rcases h3 with h3 | ⟨b, X', -, g1, g2, -⟩
    · omega
    · omega
/-- what is read, with the power on -/
theorem KInv.view {d : Dev} {l : Wl} {n : Nat} {T : Txs} {m : Nat} {X : List (List Im)} (h : KInv d l n T m X) (hoff : d.off = false) : StdA (vw d l) l.tail T ∧ ∀ q, l.next ≤ q → q < l.tail + n → vw d l q = vl d l q := by
  obtain ⟨R, k, h1, h2, h3, h4, h5⟩ := h.recs
  have hX := h.on hoff
  have hk : k = 0 := by
    rcases h3 with h3 | ⟨b, X', e, -⟩
    · exact h3
    · rw [hX] at e; cases e
  subst hk
  have hsp := lenT_split T m
  have hnx := h.next
  have hv : ∀ q, l.tail ≤ q → q < l.tail + n → vw d l q = if l.tail + lenT (T.take m) ≤ q ∧ q < l.tail + lenT (T.take m) + (lenT (T.drop m) + 0) then some (R q) else vl d l q := fun q q1 q2 =>
    vw_wr h.ok h.fits hoff h1 rfl rfl (fun i hi => ⟨(h4 i hi).1, (h4 i hi).2.1⟩) (t := l.tail) (by omega) (by rw [h.lsz]; omega) q1 (by rw [h.lsz]; exact q2)
  have hroom := h.room
  refine ⟨?_, fun q q1 q2 => by rw [hv q (by omega) q2, if_neg (by omega)]⟩
  rw [← List.take_append_drop m T, StdA_append]
  exact ⟨h.std.keep fun q q1 q2 => by rw [hv q q1 (by omega), if_neg (by omega)], h2.keep fun q q1 q2 => by rw [hv q (by omega) (by omega), if_pos (by omega)]⟩
theorem lastE_all {e0 : Nat} {E : Nat} : ∀ {T : Txs}, (∀ x ∈ T, x.1 = E) → lastE e0 T = if T = [] then e0 else E
  | [], _ => rfl
  | [x], h => by simp [lastE, h x (by simp)]
  | x :: y :: T, h => by
    have := lastE_all (e0 := x.1) (T := y :: T) (fun z hz => h z (by simp [hz]))
    simp only [lastE] at this ⊢
    rw [this]; simp
theorem KInv.lastT {d : Dev} {l : Wl} {n : Nat} {T : Txs} {m : Nat} {X : List (List Im)} (h : KInv d l n T m X) : lastE 0 T ≤ l.epoch := by
  have e : lastE 0 T = lastE (lastE 0 (T.take m)) (T.drop m) := by rw [← lastE_append, List.take_append_drop]
  rw [e, lastE_all h.new]
  split
  · exact h.last
  · exact Nat.le_refl _
/-- no transaction stands at a place, if only older ones could -/
theorem notx_hold {v : Nat → Option Lg} {lim s E : Nat} (hold : ∀ r, s < lim → v s = some r → r.seq = (s : Nat) → r.epoch < (E : Nat)) {e : Nat} (he : E ≤ e) : NoTx v lim s (e : Nat) := fun hd h1 h2 h4 => by
  obtain ⟨w1, w2⟩ := h4
  obtain ⟨x, hx, hf⟩ := w2 0 (Nat.zero_le _)
  rw [Nat.add_zero, h1] at hx
  obtain rfl : hd = x := Option.some.inj hx
  have := hold hd (by omega) h1 (by have := (fol_facts hf).2; simpa using this)
  omega
end Go.Proofs.Ytbgefdigmdfalaa
