/- A log over a device: what is read of its records behind writes, flushes and crashes. No statement of the seat is proved here. -/
import Derived.Test.YtbgefdigmdfalaaWLog
namespace Go.Proofs.Ytbgefdigmdfalaa
set_option maxRecDepth 20000
open Go.RowKit

theorem vw_of (d : Dev) (l : Wl) (s : Nat) : vw d l s = if (d.read (l.at s : Nat)).2 ≠ 0 then none else if logE (d.read (l.at s : Nat)).1 = 0 then some (logV (d.read (l.at s : Nat)).1) else none := by
  unfold vw wlRec
  by_cases h : (d.read (l.at s : Nat)).2 ≠ 0
  · rw [if_pos h, if_pos h]; simp
  · rw [if_neg h, if_neg h]
    by_cases h2 : logE (d.read (l.at s : Nat)).1 = 0
    · rw [if_pos h2]; simp [h2]
    · rw [if_neg h2]; simp [h2]
theorem vw_read {d : Dev} {l : Wl} {s : Nat} {r : Lg} (h : d.read (l.at s : Nat) = (sectB (logI r), 0)) (h1 : logOk r = true) (h2 : r.ok) : vw d l s = some r := by
  obtain ⟨e1, e2, _⟩ := log_sect h1 h2
  rw [vw_of, h, if_neg (by simp), if_pos e1, e2]
theorem vw_unread {d : Dev} {l : Wl} {s : Nat} (h : (d.read (l.at s : Nat)).2 ≠ 0) : vw d l s = none := by
  rw [vw_of, if_pos h]
theorem vw_bad {d : Dev} {l : Wl} {s : Nat} (h : logE (d.read (l.at s : Nat)).1 ≠ 0) : vw d l s = none := by
  rw [vw_of, if_neg h]
  split <;> rfl
theorem vw_congr {d d' : Dev} {l : Wl} {s : Nat} (h : d'.read (l.at s : Nat) = d.read (l.at s : Nat)) : vw d' l s = vw d l s := by
  rw [vw_of, vw_of, h]
theorem read_same {d d' : Dev} (h1 : d'.off = d.off) (h2 : d'.size = d.size) (h3 : d'.waits = d.waits) (h4 : d'.last = d.last) (i : Int) : d'.read i = d.read i := by
  unfold Dev.read Dev.has; rw [h1, h2, h3, h4]
theorem logE_zeros : logE zeros ≠ 0 := by
  have h : logE zeros = 2 ∨ logE zeros = 16 := by
    rcases logE_cases zeros with h | h | h
    · exfalso
      have h1 : unR zeros = [] := by kernel_rfl
      have h2 : logE zeros = 0 → secE zeros 2 8 1 = 0 := fun h => by
        unfold logE at h
        split at h
        · assumption
        · exact h
      have h3 := h2 h
      unfold secE at h3
      have h4 : unsE (unR zeros) ≠ 0 := by rw [h1]; decide +kernel
      split at h3
      · contradiction
      · exact h4 (by assumption)
    · exact .inl h
    · exact .inr h
  omega
theorem at_lt (l : Wl) (ok : l.Ok) (s : Nat) : l.first ≤ l.at s ∧ l.at s < l.first + l.size := by
  have := Nat.mod_lt s (show 0 < l.size by have := ok.two; omega)
  unfold Wl.at; omega
theorem at_inj' {n q s : Nat} (hle : s ≤ q) (hd : q - s < n) (h : q % n = s % n) : q = s := by
  have h1 := Nat.sub_mod_eq_zero_of_mod_eq h
  rw [Nat.mod_eq_of_lt hd] at h1
  omega
theorem at_inj {l : Wl} {t q s : Nat} (h1 : t ≤ q) (h2 : q < t + l.size) (h3 : t ≤ s) (h4 : s < t + l.size) (h : l.at q = l.at s) : q = s := by
  have h : q % l.size = s % l.size := by unfold Wl.at at h; omega
  rcases Nat.le_total s q with hle | hle
  · exact at_inj' hle (by omega) h
  · exact (at_inj' hle (by omega) h.symm).symm
def Fits (d : Dev) (l : Wl) : Prop := l.first + l.size ≤ d.size
theorem has_at {d : Dev} {l : Wl} (ok : l.Ok) (hf : Fits d l) (s : Nat) : d.has (l.at s : Nat) = true := by
  have := at_lt l ok s
  unfold Fits at hf
  exact has_true ⟨by omega, by omega⟩
theorem read_on {d : Dev} {l : Wl} (ok : l.Ok) (hf : Fits d l) (h1 : d.off = false) (s : Nat) : d.read (l.at s : Nat) = match newest d.waits (l.at s : Nat) with | some bs => (bs, 0) | none => if (d.last (l.at s : Nat)).2 = true then ([], 3) else ((d.last (l.at s : Nat)).1, 0) := by
  have := at_lt l ok s
  unfold Fits at hf
  exact read_free h1 ⟨by omega, by omega⟩
/-- one write more -/
theorem vw_write {d d' : Dev} {l : Wl} (ok : l.Ok) (hf : Fits d l) (h1 : d.off = false) {s : Nat} {r : Lg} (hr : logOk r = true) (hro : r.ok) (e1 : d'.off = false) (e2 : d'.size = d.size) (e3 : d'.waits = d.waits ++ [(((l.at s : Nat) : Int), sectB (logI r))]) (e4 : d'.last = d.last) (q : Nat) :
    vw d' l q = if l.at q = l.at s then some r else vw d l q := by
  have hf' : Fits d' l := by unfold Fits at *; rw [e2]; exact hf
  have hn := newest_append d.waits (((l.at s : Nat) : Int), sectB (logI r)) (l.at q : Nat)
  rw [← e3] at hn
  split
  · rename_i h
    refine vw_read ?_ hr hro
    rw [read_on ok hf' e1, hn, if_pos (by simp only; omega)]
  · rename_i h
    refine vw_congr ?_
    rw [read_on ok hf' e1, read_on ok hf h1, hn, if_neg (by simp only; omega), e4]

/-! ### Append -/
def recsN (l : Wl) (e s : Nat) (a : List Im) (k : Nat) : List (Int × List UInt8) := (List.range k).map fun i => (((l.at (s + i) : Nat) : Int), sectB (logI (wantR e s i a)))
theorem recsN_succ (l : Wl) (e s : Nat) (a : List Im) (k : Nat) : recsN l e s a (k + 1) = recsN l e s a k ++ [(((l.at (s + k) : Nat) : Int), sectB (logI (wantR e s k a)))] := by
  unfold recsN; rw [List.range_succ, List.map_append]; rfl
theorem want_seq (e s i : Nat) (a : List Im) : (wantR e s i a).seq.toNat = s + i := by rw [(want_head e s i a).2.2]; rfl
/-- what j records of a transaction make of a device -/
structure AppR (d : Dev) (l : Wl) (a : List Im) (j : Nat) (k : Nat) : Prop where
  le : k ≤ j
  waits : (appD d l a j).2.waits = d.waits ++ recsN l l.epoch l.next a k
  last : (appD d l a j).2.last = d.last
  size : (appD d l a j).2.size = d.size
  res : ((appD d l a j).1 = 0 ∧ k = j ∧ (appD d l a j).2.off = false) ∨ ((appD d l a j).1 = 4 ∧ k < j ∧ (appD d l a j).2.off = true)
  free : d.armed = false → (appD d l a j).1 = 0 ∧ (appD d l a j).2.armed = false
theorem spend_off {d : Dev} (h : d.off = false) : (d.spend.1 = true ∧ d.spend.2.off = false) ∨ (d.spend.1 = false ∧ d.spend.2.off = true) := by
  unfold Dev.spend
  rw [if_neg (by simp [h])]
  split
  · exact .inl ⟨rfl, h⟩
  · split
    · exact .inr ⟨rfl, rfl⟩
    · exact .inl ⟨rfl, h⟩
theorem appD_any {d : Dev} {l : Wl} {a : List Im} (ok : l.Ok) (hf : Fits d l) (hoff : d.off = false) (hi : imsOk a = true) : ∀ j, ∃ k, AppR d l a j k
  | 0 => ⟨0, Nat.le_refl _, by simp [appD, recsN], rfl, rfl, .inl ⟨rfl, rfl, hoff⟩, fun h => ⟨rfl, h⟩⟩
  | j + 1 => by
    obtain ⟨k, h1, h2, h3, h4, h5, h6⟩ := appD_any ok hf hoff hi j
    rcases h5 with ⟨g1, g2, g3⟩ | ⟨g1, g2, g3⟩
    · subst g2
      have hs := appD_succ d l a k g1
      have hD : Fits (appD d l a k).2 l := by unfold Fits at *; rw [h4]; exact hf
      have hlen := log_len_w (want_form hi l.epoch l.next k)
      have hsp := spend_waits (appD d l a k).2
      have hw : (appD d l a (k + 1)) = (if (appD d l a k).2.spend.1 = false then (4, (appD d l a k).2.spend.2) else (0, { (appD d l a k).2.spend.2 with waits := (appD d l a k).2.spend.2.waits ++ [(((l.at (l.next + k) : Nat) : Int), sectB (logI (wantR l.epoch l.next k a)))] })) := by
        rw [hs]
        unfold wlWrite Dev.write
        rw [want_seq, if_neg (by rw [has_at ok hD]; simp [hlen])]
      rcases spend_off g3 with ⟨q1, q2⟩ | ⟨q1, q2⟩
      · rw [if_neg (by rw [q1]; simp)] at hw
        refine ⟨k + 1, Nat.le_refl _, ?_, ?_, ?_, .inl ⟨by rw [hw], rfl, by rw [hw]; exact q2⟩, fun ha => ⟨by rw [hw], ?_⟩⟩
        · rw [hw]; show (appD d l a k).2.spend.2.waits ++ _ = _
          rw [hsp.1, h2, recsN_succ, List.append_assoc]
        · rw [hw]; exact hsp.2.2.trans h3
        · rw [hw]; exact hsp.2.1.trans h4
        · rw [hw]; show (appD d l a k).2.spend.2.armed = false
          rw [spend_free g3 (h6 ha).2]; exact (h6 ha).2
      · rw [if_pos q1] at hw
        refine ⟨k, by omega, ?_, ?_, ?_, .inr ⟨by rw [hw], by omega, by rw [hw]; exact q2⟩, fun ha => ?_⟩
        · rw [hw]; exact hsp.1.trans h2
        · rw [hw]; exact hsp.2.2.trans h3
        · rw [hw]; exact hsp.2.1.trans h4
        · rw [spend_free g3 (h6 ha).2] at q1; exact absurd q1 (by simp)
    · have hs := appD_stuck d l a j (by omega) 1
      exact ⟨k, by omega, by rw [hs]; exact h2, by rw [hs]; exact h3, by rw [hs]; exact h4, .inr ⟨by rw [hs]; exact g1, by omega, by rw [hs]; exact g3⟩, fun ha => absurd (h6 ha).1 (by omega)⟩
theorem newest_recs {l : Wl} {e s : Nat} {a : List Im} {t : Nat} (ht : t ≤ s) : ∀ (k : Nat), s + k ≤ t + l.size → ∀ (W : List (Int × List UInt8)) (q : Nat), t ≤ q → q < t + l.size →
    newest (W ++ recsN l e s a k) (l.at q : Nat) = if s ≤ q ∧ q < s + k then some (sectB (logI (wantR e s (q - s) a))) else newest W (l.at q : Nat)
  | 0, _, W, q, _, _ => by
    rw [if_neg (by omega)]; simp [recsN]
  | k + 1, hk, W, q, h1, h2 => by
    rw [recsN_succ, ← List.append_assoc, newest_append]
    have ih := newest_recs (a := a) (e := e) ht k (by omega) W q h1 h2
    by_cases hq : q = s + k
    · subst hq
      rw [if_pos rfl, if_pos (by omega), Nat.add_sub_cancel_left]
    · rw [if_neg (fun h => hq (at_inj h1 h2 (by omega) (by omega) (by simp only at h; omega))), ih]
      by_cases hc : s ≤ q ∧ q < s + k
      · rw [if_pos hc, if_pos (by omega)]
      · rw [if_neg hc, if_neg (by omega)]
/-- what is read behind writes of a transaction's records -/
theorem vw_recs {d D : Dev} {l : Wl} {a : List Im} {k t e s : Nat} (ok : l.Ok) (hf : Fits d l) (hoff : d.off = false) (hD : D.off = false) (e2 : D.size = d.size) (e3 : D.waits = d.waits ++ recsN l e s a k) (e4 : D.last = d.last)
    (hi : imsOk a = true) (hw : ∀ i, i < k → (wantR e s i a).ok) (ht : t ≤ s) (hk : s + k ≤ t + l.size) {q : Nat} (h1 : t ≤ q) (h2 : q < t + l.size) :
    vw D l q = if s ≤ q ∧ q < s + k then some (wantR e s (q - s) a) else vw d l q := by
  have hf' : Fits D l := by unfold Fits at *; rw [e2]; exact hf
  have hn := newest_recs (a := a) (e := e) ht k hk d.waits q h1 h2
  rw [← e3] at hn
  split
  · rename_i h
    rw [if_pos h] at hn
    refine vw_read ?_ (want_form hi _ _ _) (hw _ (by omega))
    rw [read_on ok hf' hD, hn]
  · rename_i h
    rw [if_neg h] at hn
    refine vw_congr ?_
    rw [read_on ok hf' hD, read_on ok hf hoff, hn, e4]
theorem std_recs {v v' : Nat → Option Lg} {e s : Nat} {a : List Im} (h : ∀ q, s ≤ q → q < s + (a.length + 1) → v' q = if s ≤ q ∧ q < s + (a.length + 1) then some (wantR e s (q - s) a) else v q) : Std v' s e a := fun i hi => by
  rw [h (s + i) (by omega) (by omega), if_pos (by omega), Nat.add_sub_cancel_left]
end Go.Proofs.Ytbgefdigmdfalaa
