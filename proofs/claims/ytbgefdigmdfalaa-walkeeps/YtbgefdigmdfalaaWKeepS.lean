/- What a flush, a trim, an append, a crash make of a log. No statement of the seat is proved here. -/
import Derived.Test.YtbgefdigmdfalaaWKeepI
namespace Go.Proofs.Ytbgefdigmdfalaa
set_option maxRecDepth 20000
open Go.RowKit

theorem spend_was {d : Dev} (h : d.off = true) : d.spend = (false, d) := by unfold Dev.spend; rw [if_pos h]
theorem NoTx.keep {v v' : Nat → Option Lg} {lim s : Nat} {e : Int} (h : NoTx v lim s e) (hk : ∀ q, s ≤ q → q < lim → v' q = v q) : NoTx v' lim s e := fun hd h1 h2 h4 => by
  obtain ⟨w1, w2⟩ := h4
  have hs : s < lim := by omega
  refine h hd (by rw [← hk s (Nat.le_refl _) hs]; exact h1) h2 ⟨w1, fun i hi => ?_⟩
  obtain ⟨x, hx, hf⟩ := w2 i hi
  exact ⟨x, by rw [← hk (s + i) (by omega) (by omega)]; exact hx, hf⟩
theorem KInv.view2 {d : Dev} {l : Wl} {n : Nat} {T : Txs} {m : Nat} {X : List (List Im)} (h : KInv d l n T m X) (hoff : d.off = false) : ∃ R : Nat → Lg, (∀ q, l.tail ≤ q → q < l.tail + n → vw d l q = if l.tail + lenT (T.take m) ≤ q ∧ q < l.next then some (R q) else vl d l q) ∧
    (∀ q, l.tail + lenT (T.take m) ≤ q → q < l.next → (R q).epoch = (l.epoch : Nat)) := by
  obtain ⟨R, k, h1, h2, h3, h4, h5⟩ := h.recs
  have hX := h.on hoff
  have hk : k = 0 := by
    rcases h3 with h3 | ⟨b, X', e, -⟩
    · exact h3
    · rw [hX] at e; cases e
  subst hk
  have hsp := lenT_split T m
  have hnx := h.next
  have hroom := h.room
  refine ⟨R, fun q q1 q2 => ?_, fun q q1 q2 => ?_⟩
  · rw [vw_wr h.ok h.fits hoff h1 (d := d) rfl rfl (fun i hi => ⟨(h4 i hi).1, (h4 i hi).2.1⟩) (t := l.tail) (by omega) (by rw [h.lsz]; omega) q1 (by rw [h.lsz]; exact q2)]
    rw [show l.tail + lenT (T.take m) + (lenT (T.drop m) + 0) = l.next by omega]
  · have := (h4 (q - (l.tail + lenT (T.take m))) (by omega)).2.2
    rwa [show l.tail + lenT (T.take m) + (q - (l.tail + lenT (T.take m))) = q by omega] at this
theorem KInv.flushed {d : Dev} {l : Wl} {n : Nat} {T : Txs} {m : Nat} {X : List (List Im)} (h : KInv d l n T m X) (hoff : d.off = false) : KInv d.flushed l n T T.length [] := by
  obtain ⟨f1, f2, f3, f4, f5⟩ := flushed_same d
  obtain ⟨R, hv, hR⟩ := h.view2 hoff
  obtain ⟨hst, hrest⟩ := h.view hoff
  have hvl : vl d.flushed l = vw d l := funext fun s => by
    have e1 : vl d.flushed l s = vw d.flushed l s := vw_congr (read_same (d := d.flushed) (d' := lastD d.flushed) (f3.trans hoff).symm rfl f1.symm rfl _)
    rw [e1]
    exact vw_congr (flushed_read d _)
  have hsp := lenT_split T m
  have hnx := h.next
  have hroom := h.room
  have htk : T.take T.length = T := List.take_length
  have hhold : ∀ q r, l.next ≤ q → q < l.tail + n → vw d l q = some r → r.seq = (q : Nat) → r.epoch < (l.epoch : Nat) := fun q r q1 q2 e1 e2 => by
    rw [hrest q q1 q2] at e1
    exact h.hold q r (by omega) q2 e1 e2
  refine ⟨h.n4, f2.trans h.size, h.first, h.lsz, h.ok, h.next, Nat.le_refl _, fun _ => rfl, h.oks, h.eps, by rw [htk]; exact h.lastT, by simp, ⟨fun q => ⟨0, 0, 0, 0, 0, 0, 0, ByteArray.empty⟩, 0, by rw [f1]; simp [wr, lenT], by simp [StdA], .inl rfl⟩, by rw [htk, hvl]; exact hst, ?_, ?_, ?_, ?_⟩
  · rw [htk, hvl, ← hnx]; exact hhold
  · rw [htk, hvl, ← hnx]
    by_cases hd : T.drop m = []
    · have e : T.take m = T := by have := List.take_append_drop m T; rw [hd, List.append_nil] at this; exact this
      have hn := h.notx
      rw [e, ← hnx] at hn
      exact hn.keep hrest
    · have e : lastE 0 T = l.epoch := by
        have e : lastE 0 T = lastE (lastE 0 (T.take m)) (T.drop m) := by rw [← lastE_append, List.take_append_drop]
        rw [e, lastE_all h.new, if_neg hd]
      rw [e]
      exact notx_hold (fun r q1 e1 e2 => hhold _ r (Nat.le_refl _) q1 e1 e2) (Nat.le_refl _)
  · rw [hvl]
    intro q r q1 q2 e1
    rw [hv q q1 q2] at e1
    split at e1
    · rename_i hq
      cases e1
      rw [hR q hq.1 hq.2]; exact Int.le_refl _
    · exact h.ep q r q1 q2 e1
  · rw [hvl]
    intro he q r q1 q2 e1
    rw [hv q q1 q2] at e1
    split at e1
    · rename_i hq
      cases e1
      rw [hR q hq.1 hq.2, he]; exact Int.le_refl _
    · exact h.ep1 he q r q1 q2 e1
theorem KInv.flush {d : Dev} {l : Wl} {n : Nat} {T : Txs} {m : Nat} {X : List (List Im)} (h : KInv d l n T m X) : (d.flush.1 = 0 ∧ X = [] ∧ KInv d.flush.2 l n T T.length []) ∨ (d.flush.1 = 4 ∧ KInv d.flush.2 l n T m X) := by
  obtain ⟨s1, s2, s3⟩ := spend_waits d
  cases hd : d.off
  · rcases spend_off hd with ⟨q1, q2⟩ | ⟨q1, q2⟩
    · have h' : KInv d.spend.2 l n T m X := h.dev s1 s2 s3 (fun _ => h.on hd)
      have e : d.flush = (0, d.spend.2.flushed) := by unfold Dev.flush; rw [if_neg (by rw [q1]; simp)]
      rw [e]
      exact .inl ⟨rfl, h.on hd, h'.flushed q2⟩
    · have e : d.flush = (4, d.spend.2) := by unfold Dev.flush; rw [if_pos q1]
      rw [e]
      exact .inr ⟨rfl, h.dev s1 s2 s3 (fun _ => h.on hd)⟩
  · have e : d.flush = (4, d) := by unfold Dev.flush; rw [spend_was hd, if_pos rfl]
    rw [e]
    exact .inr ⟨rfl, h⟩
/-! ### a trim -/
theorem EpsA.less {e e' : Nat} (he : e' ≤ e) : ∀ {T : Txs}, EpsA e T → EpsA e' T
  | [], _ => trivial
  | _ :: _, h => ⟨Nat.le_trans he h.1, h.2⟩
theorem vl_round (d : Dev) {l : Wl} {q : Nat} (hq : l.size ≤ q) : vl d l q = vl d l (q - l.size) := by
  have e : l.at q = l.at (q - l.size) := by unfold Wl.at; rw [← Nat.mod_eq_sub_mod hq]
  unfold vl
  rw [vw_of, vw_of, e]
theorem KInv.trim {d : Dev} {l : Wl} {n : Nat} {x : Nat × List Im} {T : Txs} (h : KInv d l n (x :: T) (T.length + 1) []) (he : l.epoch = 1) (ht : l.tail ≤ 1000000) : KInv d { l with tail := l.tail + (x.2.length + 1) } n T T.length [] := by
  have hroom := h.room
  have hnx := h.next
  have hn4 := h.n4
  have hlsz := h.lsz
  simp only [lenT] at hroom hnx
  have htk : (x :: T).take (T.length + 1) = x :: T := by rw [List.take_succ_cons, List.take_length]
  have hdr : (x :: T).drop (T.length + 1) = [] := by simp
  have htk' : T.take T.length = T := List.take_length
  have hst := h.std
  rw [htk] at hst
  have hh := h.hold
  rw [htk] at hh
  simp only [lenT] at hh
  have hv : ∀ q, vl d { l with tail := l.tail + (x.2.length + 1) } q = vl d l q := fun q => rfl
  have hvf : vl d { l with tail := l.tail + (x.2.length + 1) } = vl d l := rfl
  -- what lies in the new part of the window
  have hnew : ∀ q r, l.tail + n ≤ q → q < l.tail + (x.2.length + 1) + n → vl d l q = some r → r.seq = ((q - n : Nat) : Int) ∧ r.epoch ≤ (l.epoch : Nat) ∧ (1 : Int) ≤ r.epoch := fun q r q1 q2 e1 => by
    rw [vl_round d (by rw [hlsz]; omega), hlsz] at e1
    have h1 := hst.1 (q - n - l.tail) (by omega)
    rw [show l.tail + (q - n - l.tail) = q - n by omega] at h1
    refine ⟨?_, h.ep _ r (by omega) (by omega) e1, h.ep1 he _ r (by omega) (by omega) e1⟩
    rw [h1] at e1
    cases e1
    rw [(want_head _ _ _ _).2.2]
    omega
  have hold' : ∀ q r, l.next ≤ q → q < l.tail + (x.2.length + 1) + n → vl d l q = some r → r.seq = (q : Nat) → r.epoch < (l.epoch : Nat) := fun q r q1 q2 e1 e2 => by
    by_cases hq : q < l.tail + n
    · exact hh q r (by omega) hq e1 e2
    · have := (hnew q r (by omega) q2 e1).1
      have hsz := h.ok.two
      omega
  have ep1' : ∀ q r, l.tail + (x.2.length + 1) ≤ q → q < l.tail + (x.2.length + 1) + n → vl d l q = some r → (1 : Int) ≤ r.epoch := fun q r q1 q2 e1 => by
    by_cases hq : q < l.tail + n
    · exact h.ep1 he q r (by omega) hq e1
    · exact (hnew q r (by omega) q2 e1).2.2
  have hok := h.ok
  have htn := hok.tn
  have hrm := hok.room
  refine ⟨h.n4, h.size, h.first, h.lsz, ⟨hok.fs, hok.two, by simp only; omega, by simp only; omega, by simp only; omega, hok.epoch⟩, by simp only; omega, Nat.le_refl _, fun _ => rfl, fun y hy => h.oks y (by simp [hy]), (h.eps.2).less (Nat.zero_le _), ?_, by simp, ⟨fun q => ⟨0, 0, 0, 0, 0, 0, 0, ByteArray.empty⟩, 0, ?_, by simp [StdA], .inl rfl⟩, by rw [htk', hvf]; exact hst.2, ?_, ?_, ?_, ?_⟩
  · rw [htk']
    have := h.lastT
    simp only [lastE] at this
    cases T with
    | nil => exact Nat.zero_le _
    | cons y r => exact this
  · obtain ⟨R, k, h1, h2, h3⟩ := h.wt
    have hk : k = 0 := by
      rcases h3 with h3 | ⟨b, X', e, -⟩
      · exact h3
      · cases e
    subst hk
    rw [h1, hdr]
    simp [wr, lenT]
  · rw [htk', hvf]
    intro q r q1 q2
    exact hold' q r (by simp only at q1; omega) q2
  · rw [htk', hvf]
    intro hd h1 h2 h4
    simp only at h1 h4
    rw [show l.tail + (x.2.length + 1) + lenT T = l.next by omega] at h1 h4
    obtain ⟨w1, w2⟩ := h4
    obtain ⟨y, hy, hf⟩ := w2 0 (Nat.zero_le _)
    rw [Nat.add_zero, h1] at hy
    obtain rfl : hd = y := Option.some.inj hy
    have a1 := hold' l.next hd (Nat.le_refl _) (by omega) h1 (by have := (fol_facts hf).2; simpa using this)
    have a2 := ep1' l.next hd (by omega) (by omega) h1
    rw [he] at a1
    omega
  · rw [hvf]
    intro q r q1 q2 e1
    simp only at q1 q2
    by_cases hq : q < l.tail + n
    · exact h.ep q r (by omega) hq e1
    · exact (hnew q r (by omega) q2 e1).2.1
  · rw [hvf]
    intro _ q r q1 q2 e1
    exact ep1' q r q1 q2 e1
end Go.Proofs.Ytbgefdigmdfalaa
