/- The mathematics of a log: what stands in its sectors, what a scan finds of it, behind a crash too. No statement of the seat is proved here. -/
import Derived.Test.YtbgefdigmdfalaaWTxM
import Derived.Test.YtbgefdigmdfalaaWApp
import Derived.Test.YtbgefdigmdfalaaDPlain
namespace Go.Proofs.Ytbgefdigmdfalaa
set_option maxRecDepth 20000
open Go.RowKit

/-! ### the records by their numbers -/
def vw (d : Dev) (l : Wl) (s : Nat) : Option Lg := if (wlRec d l s).2 = true then some (wlRec d l s).1 else none
theorem vw_some {d : Dev} {l : Wl} {s : Nat} {r : Lg} (h : vw d l s = some r) : (wlRec d l s).2 = true ∧ (wlRec d l s).1 = r := by
  unfold vw at h
  split at h
  · rename_i hq; exact ⟨hq, Option.some.inj h⟩
  · exact absurd h (by simp)
theorem vw_none {d : Dev} {l : Wl} {s : Nat} (h : vw d l s = none) : (wlRec d l s).2 = false := by
  unfold vw at h
  split at h
  · exact absurd h (by simp)
  · rename_i hq; simpa using hq
theorem vw_next (d : Dev) (l : Wl) (n s : Nat) : vw d { l with next := n } s = vw d l s := rfl
/-- a transaction of epoch e stands from s on -/
def Std (v : Nat → Option Lg) (s e : Nat) (a : List Im) : Prop := ∀ i, i ≤ a.length → v (s + i) = some (wantR e s i a)
theorem fol_want (e s i : Nat) (a : List Im) (hi : i ≤ a.length) : folB (wantR e s i a) (wantR e s 0 a) s i = true := by
  have hc : ∀ j, (wantR e s j a).count = (a.length : Nat) ∧ (wantR e s j a).epoch = (e : Nat) := fun j => by unfold wantR; split <;> exact ⟨rfl, rfl⟩
  unfold folB
  rw [decide_eq_true]
  rw [(hc 0).1, (hc 0).2]
  refine ⟨?_, (hc i).2, ?_, ?_, ?_, (hc i).1⟩
  · unfold wantR
    by_cases h : i < a.length
    · rw [if_pos h, if_neg (by omega)]
    · rw [if_neg h, if_pos (by omega)]
  · unfold wantR; split <;> rfl
  · unfold wantR; split <;> rfl
  · unfold wantR; split <;> rfl
theorem imAt_eta {a : List Im} {i : Nat} (h : i < a.length) : a.take (i + 1) = a.take i ++ [⟨(imAt a i).p, (imAt a i).d⟩] := by
  rw [List.take_succ_eq_append_getElem h]
  unfold imAt
  rw [List.getD_eq_getElem?_getD, List.getElem?_eq_getElem h]
  rfl
theorem want_im {e s i : Nat} {a : List Im} (h : i < a.length) : (wantR e s i a).page = (imAt a i).p ∧ (wantR e s i a).data = (imAt a i).d := by
  unfold wantR; rw [if_pos h]; exact ⟨rfl, rfl⟩
theorem want_head (e s i : Nat) (a : List Im) : (wantR e s i a).count = (a.length : Nat) ∧ (wantR e s i a).epoch = (e : Nat) ∧ (wantR e s i a).seq = ((s + i : Nat) : Int) := by
  unfold wantR; split <;> exact ⟨rfl, rfl, rfl⟩
theorem txA_std {d : Dev} {l : Wl} {e : Nat} {a : List Im} (h : Std (vw d l) l.next e a) : ∀ j, j ≤ a.length + 1 → txA d l (wantR e l.next 0 a) a.length j = some (a.take j)
  | 0, _ => by simp [txA]
  | j + 1, hj => by
    have ih := txA_std h j (by omega)
    obtain ⟨h1, h2⟩ := vw_some (h j (by omega))
    rw [txA_yes ih h1 (by rw [h2]; exact fol_want e l.next j a (by omega))]
    congr 1
    split
    · rename_i hlt
      rw [h2, (want_im hlt).1, (want_im hlt).2, imAt_eta hlt]
    · rw [List.take_of_length_le (by omega), List.take_of_length_le (by omega)]
theorem txR_std {d : Dev} {l : Wl} {e : Nat} {a : List Im} (h : Std (vw d l) l.next e a) (hr : a.length < l.room) : txR d l (wantR e l.next 0 a) a.length = some a := by
  unfold txR
  rw [if_neg (by omega), txA_std h _ (Nat.le_refl _), List.take_of_length_le (by omega)]
/-- what is found stands there whole -/
theorem txA_whole {d : Dev} {l : Wl} {hd : Lg} {n : Nat} : ∀ {j : Nat} {a : List Im}, txA d l hd n j = some a → ∀ i, i < j → ∃ x, vw d l (l.next + i) = some x ∧ folB x hd l.next i = true
  | j + 1, a, h, i, hi => by
    rw [txA] at h
    split at h
    · exact absurd h (by simp)
    · rename_i b hb
      split at h
      · rename_i hq
        by_cases hij : i = j
        · subst hij
          exact ⟨_, by unfold vw; rw [if_pos hq.1], hq.2⟩
        · exact txA_whole hb i (by omega)
      · exact absurd h (by simp)
def Whole (v : Nat → Option Lg) (lim s : Nat) (hd : Lg) (n : Nat) : Prop := n < lim - s ∧ ∀ i, i ≤ n → ∃ x, v (s + i) = some x ∧ folB x hd s i = true
theorem txA_of_whole {d : Dev} {l : Wl} {hd : Lg} {n : Nat} (h : ∀ i, i ≤ n → ∃ x, vw d l (l.next + i) = some x ∧ folB x hd l.next i = true) : ∀ j, j ≤ n + 1 → ∃ a, txA d l hd n j = some a
  | 0, _ => ⟨[], rfl⟩
  | j + 1, hj => by
    obtain ⟨a, ha⟩ := txA_of_whole h j (by omega)
    obtain ⟨x, h1, h2⟩ := h j (by omega)
    obtain ⟨q1, q2⟩ := vw_some h1
    exact ⟨_, txA_yes ha q1 (by rw [q2]; exact h2)⟩
theorem room_lim {l : Wl} (ok : l.Ok) : l.room = l.tail + l.size - l.next := by
  have := ok.tn; have := ok.room; unfold Wl.room; omega
theorem txR_none {d : Dev} {l : Wl} (ok : l.Ok) {hd : Lg} {n : Nat} (h : ¬ Whole (vw d l) (l.tail + l.size) l.next hd n) : txR d l hd n = none := by
  unfold txR
  split
  · rfl
  · rename_i hr
    cases hq : txA d l hd n (n + 1) with
    | none => rfl
    | some a => exact absurd ⟨by rw [room_lim ok] at hr; omega, fun i hi => txA_whole hq i (by omega)⟩ h
/-- no transaction of an epoch from e on stands at s -/
def NoTx (v : Nat → Option Lg) (lim s : Nat) (e : Int) : Prop := ∀ hd, v s = some hd → e ≤ hd.epoch → ¬ Whole v lim s hd hd.count.toNat
theorem scan_stop {d : Dev} {l : Wl} (ok : l.Ok) {e : Int} (h : NoTx (vw d l) (l.tail + l.size) l.next e) (f : Nat) : scanR d f l e = ([], l.next) := by
  cases f with
  | zero => rfl
  | succ f =>
    rw [scanR]
    split
    · rfl
    · split
      · rfl
      · rename_i h1
        have hb : (wlRec d l l.next).2 = true := by
          cases hq : (wlRec d l l.next).2
          · exact absurd (.inl hq) h1
          · rfl
        have := h _ (by unfold vw; rw [if_pos hb]) (by
          apply Int.not_lt.1
          exact fun hx => h1 (.inr hx))
        rw [txR_none ok this]

/-! ### transactions one behind the other -/
abbrev Txs := List (Nat × List Im)
def lenT : Txs → Nat
  | [] => 0
  | x :: r => x.2.length + 1 + lenT r
def imgT (T : Txs) : List (List Im) := T.map (·.2)
def StdA (v : Nat → Option Lg) : Nat → Txs → Prop
  | _, [] => True
  | s, x :: r => Std v s x.1 x.2 ∧ StdA v (s + (x.2.length + 1)) r
def EpsA : Nat → Txs → Prop
  | _, [] => True
  | e, x :: r => e ≤ x.1 ∧ EpsA x.1 r
def lastE : Nat → Txs → Nat
  | e, [] => e
  | _, x :: r => lastE x.1 r
theorem lenT_append (A B : Txs) : lenT (A ++ B) = lenT A + lenT B := by
  induction A with
  | nil => simp [lenT]
  | cons x r ih => simp only [List.cons_append, lenT, ih]; omega
theorem lenT_pos (T : Txs) : T.length ≤ lenT T := by
  induction T with
  | nil => exact Nat.le_refl _
  | cons x r ih => simp only [lenT, List.length_cons]; omega
theorem StdA_append {v : Nat → Option Lg} : ∀ {s : Nat} {A B : Txs}, StdA v s (A ++ B) ↔ StdA v s A ∧ StdA v (s + lenT A) B
  | s, [], B => by simp [StdA, lenT]
  | s, x :: r, B => by
    simp only [List.cons_append, StdA, lenT, StdA_append (A := r), and_assoc]
    rw [show s + (x.2.length + 1) + lenT r = s + (x.2.length + 1 + lenT r) by omega]
theorem EpsA_append : ∀ {e : Nat} {A B : Txs}, EpsA e (A ++ B) ↔ EpsA e A ∧ EpsA (lastE e A) B
  | e, [], B => by simp [EpsA, lastE]
  | e, x :: r, B => by simp only [List.cons_append, EpsA, lastE, EpsA_append (A := r), and_assoc]
theorem lastE_append : ∀ {e : Nat} {A B : Txs}, lastE e (A ++ B) = lastE (lastE e A) B
  | _, [], _ => rfl
  | _, x :: r, B => by simp only [List.cons_append, lastE, lastE_append (A := r)]
theorem Std.keep {v v' : Nat → Option Lg} {s e : Nat} {a : List Im} (h : Std v s e a) (hk : ∀ q, s ≤ q → q < s + (a.length + 1) → v' q = v q) : Std v' s e a :=
  fun i hi => (hk _ (by omega) (by omega)).trans (h i hi)
theorem StdA.keep {v v' : Nat → Option Lg} : ∀ {s : Nat} {T : Txs}, StdA v s T → (∀ q, s ≤ q → q < s + lenT T → v' q = v q) → StdA v' s T
  | _, [], _, _ => trivial
  | s, x :: r, h, hk => ⟨h.1.keep (fun q h1 h2 => hk q h1 (by simp only [lenT]; omega)), h.2.keep (fun q h1 h2 => hk q (by omega) (by simp only [lenT]; omega))⟩
theorem scan_std {d : Dev} : ∀ (T : Txs) (l : Wl) (e : Nat) (g : Nat), l.Ok → StdA (vw d l) l.next T → EpsA e T → lenT T ≤ l.room →
    scanR d (T.length + g) l (e : Nat) = (imgT T ++ (scanR d g { l with next := l.next + lenT T } (lastE e T : Nat)).1, (scanR d g { l with next := l.next + lenT T } (lastE e T : Nat)).2)
  | [], l, e, g, _, _, _, _ => by simp [imgT, lenT, lastE]
  | x :: r, l, e, g, ok, h, he, hr => by
    obtain ⟨e1, a⟩ := x
    obtain ⟨h1, h2⟩ := h
    replace h1 : Std (vw d l) l.next e1 a := h1
    replace h2 : StdA (vw d l) (l.next + (a.length + 1)) r := h2
    simp only [lenT] at hr
    have hh := h1 0 (Nat.zero_le _)
    rw [Nat.add_zero] at hh
    obtain ⟨q1, q2⟩ := vw_some hh
    obtain ⟨w1, w2, w3⟩ := want_head e1 l.next 0 a
    have htx := txR_std h1 (by omega)
    have ok' : Wl.Ok { l with next := l.next + (a.length + 1) } := ok.step (by omega)
    have hro : Wl.room { l with next := l.next + (a.length + 1) } = l.room - (a.length + 1) := by rw [room_lim ok', room_lim ok]; simp only; omega
    have ih := scan_std r { l with next := l.next + (a.length + 1) } e1 g ok' h2 he.2 (by rw [hro]; omega)
    rw [show (List.length ((e1, a) :: r)) + g = (r.length + g) + 1 by simp only [List.length_cons]; omega, scanR, if_neg (by omega), if_neg (by
      rw [q1, q2, w2]
      have := he.1
      simp only at this
      simp; omega), q2, w1]
    simp only [Int.toNat_natCast]
    rw [htx]
    simp only
    rw [w2, ih]
    simp only [imgT, List.map_cons, lenT, lastE, List.cons_append]
    rw [show l.next + (a.length + 1) + lenT r = l.next + (a.length + 1 + lenT r) by omega]
/-- a scan finds what stands there, if nothing more does -/
theorem scan_all {d : Dev} {T : Txs} {l : Wl} {e : Nat} (ok : l.Ok) (h : StdA (vw d l) l.next T) (he : EpsA e T) (hr : lenT T ≤ l.room) (hn : NoTx (vw d l) (l.tail + l.size) (l.next + lenT T) (lastE e T : Nat)) {f : Nat} (hf : T.length ≤ f) :
    scanR d f l (e : Nat) = (imgT T, l.next + lenT T) := by
  obtain ⟨g, rfl⟩ := Nat.exists_eq_add_of_le hf
  have ok' : Wl.Ok { l with next := l.next + lenT T } := ok.step hr
  rw [scan_std T l e g ok h he hr, scan_stop ok' (by exact hn)]
  simp

/-! ### a crash -/
/-- what may stand behind a crash from s on, where T was written but perhaps not flushed, and perhaps a part of one more -/
def Mix (v vo : Nat → Option Lg) (lim E : Nat) : Nat → Txs → Prop
  | s, [] => ∃ b : List Im, ∀ i, s + i < lim → v (s + i) = none ∨ v (s + i) = vo (s + i) ∨ (i < b.length ∧ v (s + i) = some (wantR E s i b))
  | s, x :: r => x.1 = E ∧ (∀ i, i ≤ x.2.length → v (s + i) = none ∨ v (s + i) = vo (s + i) ∨ v (s + i) = some (wantR E s i x.2)) ∧ Mix v vo lim E (s + (x.2.length + 1)) r
theorem Mix.each {v vo : Nat → Option Lg} {lim E : Nat} : ∀ {s : Nat} {T : Txs}, Mix v vo lim E s T → ∀ q, s ≤ q → q < lim → v q = none ∨ v q = vo q ∨ ∃ r, v q = some r ∧ r.epoch = (E : Nat)
  | s, [], h, q, h1, h2 => by
    obtain ⟨b, hb⟩ := h
    have := hb (q - s) (by omega)
    rw [show s + (q - s) = q by omega] at this
    rcases this with h | h | h
    · exact .inl h
    · exact .inr (.inl h)
    · exact .inr (.inr ⟨_, h.2, (want_head _ _ _ _).2.1⟩)
  | s, x :: r, h, q, h1, h2 => by
    by_cases hq : q < s + (x.2.length + 1)
    · have := h.2.1 (q - s) (by omega)
      rw [show s + (q - s) = q by omega] at this
      rcases this with h | h | h
      · exact .inl h
      · exact .inr (.inl h)
      · exact .inr (.inr ⟨_, h, (want_head _ _ _ _).2.1⟩)
    · exact h.2.2.each q (by omega) h2
theorem fol_facts {x hd : Lg} {s i : Nat} (h : folB x hd s i = true) : x.epoch = hd.epoch ∧ x.seq = ((s + i : Nat) : Int) := by
  unfold folB at h
  simp only [decide_eq_true_eq] at h
  exact ⟨h.2.1, h.2.2.1⟩
theorem crash_finds {v vo : Nat → Option Lg} {lim E : Nat} (hold : ∀ q r, q < lim → vo q = some r → r.seq = (q : Nat) → r.epoch < (E : Nat)) :
    ∀ (T : Txs) (s e0 : Nat), e0 ≤ E → s + lenT T ≤ lim → Mix v vo lim E s T → NoTx vo lim s (e0 : Nat) → ∃ q, q ≤ T.length ∧ StdA v s (T.take q) ∧ EpsA e0 (T.take q) ∧ NoTx v lim (s + lenT (T.take q)) (lastE e0 (T.take q) : Nat)
  | T, s, e0, hE, hl, hm, hn => by
    -- a whole one of an older epoch would have stood there before
    have old : ∀ hd, v s = some hd → (e0 : Int) ≤ hd.epoch → hd.epoch < (E : Nat) → ¬ Whole v lim s hd hd.count.toNat := fun hd h1 h2 h3 h4 => by
      obtain ⟨w1, w2⟩ := h4
      have each : ∀ i, i ≤ hd.count.toNat → ∃ x, vo (s + i) = some x ∧ folB x hd s i = true := fun i hi => by
        obtain ⟨x, hx, hf⟩ := w2 i hi
        rcases hm.each (s + i) (by omega) (by omega) with h | h | ⟨r, h, hr⟩
        · rw [h] at hx; exact absurd hx (by simp)
        · exact ⟨x, by rw [← h]; exact hx, hf⟩
        · rw [h] at hx
          cases hx
          have := (fol_facts hf).1
          omega
      have h0 := each 0 (Nat.zero_le _)
      obtain ⟨x0, hx0, _⟩ := h0
      have hv0 : vo s = some hd := by
        rcases hm.each s (Nat.le_refl _) (by omega) with h | h | ⟨r, h, hr⟩
        · rw [h] at h1; exact absurd h1 (by simp)
        · rw [← h]; exact h1
        · rw [h] at h1; cases h1; omega
      exact hn hd hv0 h2 ⟨w1, each⟩
    cases T with
    | nil =>
      refine ⟨0, Nat.le_refl _, trivial, trivial, fun hd h1 h2 h4 => ?_⟩
      simp only [List.take_nil, lenT, Nat.add_zero, lastE] at h1 h2 h4
      obtain ⟨b, hb⟩ := hm
      obtain ⟨w1, w2⟩ := h4
      have hlim : s < lim := by omega
      by_cases hep : hd.epoch < (E : Nat)
      · exact old hd h1 h2 hep ⟨w1, w2⟩
      · have hz := hb 0 (by omega)
        rw [Nat.add_zero] at hz
        obtain ⟨x0, hx0, hf0⟩ := w2 0 (Nat.zero_le _)
        rw [Nat.add_zero] at hx0
        have hx1 : x0 = hd := by rw [h1] at hx0; exact (Option.some.inj hx0).symm
        subst hx1
        rcases hz with h | h | ⟨hlt, h⟩
        · rw [h] at h1; exact absurd h1 (by simp)
        · rw [h] at h1
          exact hep (hold s x0 hlim h1 (by have := (fol_facts hf0).2; simpa using this))
        · rw [h] at h1
          cases h1
          have hc : (wantR E s 0 b).count.toNat = b.length := by rw [(want_head E s 0 b).1]; simp
          rw [hc] at w1 w2
          obtain ⟨x, hx, hf⟩ := w2 b.length (Nat.le_refl _)
          have hfe := fol_facts hf
          rw [(want_head E s 0 b).2.1] at hfe
          rcases hb b.length (by omega) with h' | h' | ⟨hlt', _⟩
          · rw [h'] at hx; exact absurd hx (by simp)
          · rw [h'] at hx
            have := hold (s + b.length) x (by omega) hx hfe.2
            omega
          · omega
    | cons t r =>
      obtain ⟨e1, a⟩ := t
      obtain ⟨he1, hma, hmr⟩ := hm
      simp only at he1 hma hmr
      subst he1
      simp only [lenT] at hl
      by_cases hs : Std v s e1 a
      · obtain ⟨q, hq, g1, g2, g3⟩ := crash_finds hold r (s + (a.length + 1)) e1 (Nat.le_refl _) (by omega) hmr (fun hd h1 h2 h4 => by
          obtain ⟨w1, w2⟩ := h4
          obtain ⟨x, hx, hf⟩ := w2 0 (Nat.zero_le _)
          rw [Nat.add_zero] at hx
          have hx1 : x = hd := by rw [h1] at hx; exact (Option.some.inj hx).symm
          subst hx1
          have := hold _ _ (by omega) h1 (by have := (fol_facts hf).2; simpa using this)
          omega)
        refine ⟨q + 1, by simp only [List.length_cons]; omega, ⟨hs, g1⟩, ⟨hE, g2⟩, ?_⟩
        simp only [List.take_succ_cons, lenT, lastE]
        rw [show s + (a.length + 1 + lenT (List.take q r)) = s + (a.length + 1) + lenT (List.take q r) by omega]
        exact g3
      · refine ⟨0, Nat.zero_le _, trivial, trivial, fun hd h1 h2 h4 => ?_⟩
        simp only [List.take_zero, lenT, Nat.add_zero, lastE] at h1 h2 h4
        obtain ⟨w1, w2⟩ := h4
        by_cases hep : hd.epoch < (e1 : Nat)
        · exact old hd h1 h2 hep ⟨w1, w2⟩
        · have hz := hma 0 (Nat.zero_le _)
          rw [Nat.add_zero] at hz
          obtain ⟨x0, hx0, hf0⟩ := w2 0 (Nat.zero_le _)
          rw [Nat.add_zero] at hx0
          have hx1 : x0 = hd := by rw [h1] at hx0; exact (Option.some.inj hx0).symm
          subst hx1
          rcases hz with h | h | h
          · rw [h] at h1; exact absurd h1 (by simp)
          · rw [h] at h1
            exact hep (hold s x0 (by omega) h1 (by have := (fol_facts hf0).2; simpa using this))
          · rw [h] at h1
            cases h1
            have hc : (wantR e1 s 0 a).count.toNat = a.length := by rw [(want_head e1 s 0 a).1]; simp
            rw [hc] at w1 w2
            apply hs
            intro i hi
            obtain ⟨x, hx, hf⟩ := w2 i hi
            have hfe := fol_facts hf
            rw [(want_head e1 s 0 a).2.1] at hfe
            rcases hma i hi with h' | h' | h'
            · rw [h'] at hx; exact absurd hx (by simp)
            · rw [h'] at hx
              have := hold (s + i) x (by omega) hx hfe.2
              omega
            · exact h'
end Go.Proofs.Ytbgefdigmdfalaa
