/- What an append and a crash make of a log. No statement of the seat is proved here. -/
import Derived.Test.YtbgefdigmdfalaaWKeepS
namespace Go.Proofs.Ytbgefdigmdfalaa
set_option maxRecDepth 20000
open Go.RowKit

theorem StdA.congr {v v' : Nat → Option Lg} {s : Nat} {T : Txs} (h : StdA v s T) (hk : ∀ q, s ≤ q → q < s + lenT T → v' q = v q) : StdA v' s T := h.keep hk
/-- the device is off: nothing is written -/
theorem app_off {d : Dev} {l : Wl} {a : List Im} (ok : l.Ok) (hf : Fits d l) (hoff : d.off = true) : appDev d l a = d ∧ appL d l a = l ∧ (appE d l a = 2 ∨ appE d l a = 14 ∨ appE d l a = 5 ∨ appE d l a = 4) := by
  have hne : ∀ e : Int, appE d l a = e → e ≠ 0 → appL d l a = l := fun e h1 h2 => by unfold appL; rw [if_neg (by rw [h1]; exact h2)]
  by_cases h1 : imsOk a = false
  · have e : appE d l a = 2 := by unfold appE; rw [if_pos h1]
    exact ⟨by unfold appDev; rw [if_pos (.inl h1)], hne 2 e (by decide), .inl e⟩
  · by_cases h2 : l.size < a.length + 1
    · have e : appE d l a = 14 := by unfold appE; rw [if_neg h1, if_pos h2]
      exact ⟨by unfold appDev; rw [if_pos (.inr (.inl h2))], hne 14 e (by decide), .inr (.inl e)⟩
    · by_cases h3 : l.room < a.length + 1
      · have e : appE d l a = 5 := by unfold appE; rw [if_neg h1, if_neg h2, if_pos h3]
        exact ⟨by unfold appDev; rw [if_pos (.inr (.inr h3))], hne 5 e (by decide), .inr (.inr (.inl e))⟩
      · have hi : imsOk a = true := by cases hq : imsOk a; exact absurd hq h1; rfl
        have hlen := log_len_w (want_form hi l.epoch l.next 0)
        have h01 : appD d l a 1 = (4, d) := by
          rw [appD_succ d l a 0 rfl]
          show wlWrite d l _ = _
          unfold wlWrite Dev.write
          rw [want_seq, if_neg (by rw [has_at ok hf]; simp [hlen]), spend_was hoff, if_pos rfl]
        have hst := appD_stuck d l a 1 (by rw [h01]; show (4 : Int) ≠ 0; decide) a.length
        rw [Nat.add_comm 1, h01] at hst
        have e : appE d l a = 4 := by unfold appE; rw [if_neg h1, if_neg h2, if_neg h3, hst]
        exact ⟨by unfold appDev; rw [if_neg (by simp [hi, h2, h3]), hst], hne 4 e (by decide), .inr (.inr (.inr e))⟩
theorem lastE_snoc (e0 : Nat) (T : Txs) (x : Nat × List Im) : lastE e0 (T ++ [x]) = x.1 := by rw [lastE_append]; rfl
theorem KInv.append {d : Dev} {l : Wl} {n : Nat} {T : Txs} {m : Nat} {X : List (List Im)} (h : KInv d l n T m X) (a : List Im) (hx : ∀ y ∈ a, y.ok) :
    (appE d l a = 0 ∧ KInv (appDev d l a) (appL d l a) n (T ++ [(l.epoch, a)]) m [] ∧ X = [] ∧ (appL d l a).tail = l.tail ∧ (appL d l a).epoch = l.epoch) ∨
    (appE d l a = 4 ∧ KInv (appDev d l a) l n T m (X ++ [a]) ∧ appL d l a = l) ∨
    (appE d l a ≠ 0 ∧ appE d l a ≠ 4 ∧ KInv (appDev d l a) l n T m X ∧ appL d l a = l) := by
  cases hoff : d.off
  · have hX := h.on hoff
    subst hX
    by_cases h1 : imsOk a = false
    · have e : appE d l a = 2 := by unfold appE; rw [if_pos h1]
      have e2 : appDev d l a = d := by unfold appDev; rw [if_pos (.inl h1)]
      have e3 : appL d l a = l := by unfold appL; rw [if_neg (by rw [e]; decide)]
      rw [e, e2]
      exact .inr (.inr ⟨by decide, by decide, h, e3⟩)
    · have hi : imsOk a = true := by cases hq : imsOk a; exact absurd hq h1; rfl
      by_cases h2 : l.size < a.length + 1
      · obtain ⟨e, e2, e3⟩ := app_big (d := d) hi h2
        rw [e, e2]
        exact .inr (.inr ⟨by decide, by decide, h, e3⟩)
      · by_cases h3 : l.room < a.length + 1
        · obtain ⟨e, e2, e3⟩ := app_full (d := d) hi h2 h3
          rw [e, e2]
          exact .inr (.inr ⟨by decide, by decide, h, e3⟩)
        · have e1 : appE d l a = (appD d l a (a.length + 1)).1 := by unfold appE; rw [if_neg h1, if_neg h2, if_neg h3]
          have e2 : appDev d l a = (appD d l a (a.length + 1)).2 := by unfold appDev; rw [if_neg (by simp [hi, h2, h3])]
          obtain ⟨k, r1, r2, r3, r4, r5, -⟩ := appD_any h.ok h.fits hoff hi (a.length + 1)
          rw [← e2] at r2 r3 r4 r5
          rw [← e1] at r5
          obtain ⟨R, j, w1, w2, w3⟩ := h.wt
          have hj : j = 0 := by
            rcases w3 with w3 | ⟨b, X', e, -⟩
            · exact w3
            · cases e
          subst hj
          have hsp := lenT_split T m
          have hnx := h.next
          have hroom := h.room
          have hro := room_lim h.ok
          have hlsz := h.lsz
          have hvl : vl (appDev d l a) l = vl d l := vl_congr r3 r4 l
          obtain ⟨R', hR', hRn⟩ : ∃ R' : Nat → Lg, (∀ q, q < l.next → R' q = R q) ∧ ∀ i, R' (l.next + i) = wantR l.epoch l.next i a :=
            ⟨fun q => if q < l.next then R q else wantR l.epoch l.next (q - l.next) a, fun q hq => if_pos hq, fun i => by
              show (if l.next + i < l.next then _ else _) = _
              rw [if_neg (by omega), Nat.add_sub_cancel_left]⟩
          have hws : ∀ k, d.waits ++ recsN l l.epoch l.next a k = wr l (l.tail + lenT (T.take m)) R' (lenT (T.drop m) + k) := fun k => by
            rw [wr_append, w1, recsN_wr, Nat.add_zero]
            congr 1
            · exact wr_congr fun i hi => (hR' _ (by omega)).symm
            · rw [show l.tail + lenT (T.take m) + lenT (T.drop m) = l.next by omega]
              refine wr_congr fun i hi => ?_
              rw [hRn i]
              show wantR l.epoch l.next (l.next + i - l.next) a = _
              rw [Nat.add_sub_cancel_left]
          have hsd : StdA (fun q => some (R' q)) (l.tail + lenT (T.take m)) (T.drop m) := w2.congr fun q q1 q2 => by
            show some (R' q) = some (R q)
            rw [hR' q (by omega)]
          rw [hws] at r2
          rcases r5 with ⟨g1, g2, g3⟩ | ⟨g1, g2, g3⟩
          · subst g2
            have e3 : appL d l a = { l with next := l.next + (a.length + 1) } := by unfold appL; rw [if_pos g1]
            rw [e3]
            have hml := h.mle
            have htk : (T ++ [(l.epoch, a)]).take m = T.take m := List.take_append_of_le_length hml
            have hdr : (T ++ [(l.epoch, a)]).drop m = T.drop m ++ [(l.epoch, a)] := List.drop_append_of_le_length hml
            have hlen : lenT (T ++ [(l.epoch, a)]) = lenT T + (a.length + 1) := by rw [lenT_append]; simp [lenT]
            have hvf : vl (appDev d l a) { l with next := l.next + (a.length + 1) } = vl d l := hvl
            refine .inl ⟨g1, ⟨h.n4, r4.trans h.size, h.first, h.lsz, h.ok.step (by omega), by simp only; rw [hlen]; omega, by rw [List.length_append]; omega, fun _ => rfl, fun y hy => ?_, ?_, by rw [htk]; exact h.last, fun y hy => ?_, ⟨R', 0, ?_, ?_, .inl rfl⟩, by rw [htk, hvf]; exact h.std, by rw [htk, hvf]; exact h.hold, by rw [htk, hvf]; exact h.notx, by rw [hvf]; exact h.ep, by rw [hvf]; exact h.ep1⟩, rfl, rfl, rfl⟩
            · rcases List.mem_append.1 hy with hy | hy
              · exact h.oks y hy
              · rw [List.mem_singleton.1 hy]; exact ⟨hi, hx⟩
            · rw [EpsA_append]
              exact ⟨h.eps, h.lastT, trivial⟩
            · rw [hdr] at hy
              rcases List.mem_append.1 hy with hy | hy
              · exact h.new y hy
              · rw [List.mem_singleton.1 hy]
            · rw [r2, htk, hdr, lenT_append]
              show wr l _ R' _ = wr { l with next := l.next + (a.length + 1) } _ R' _
              simp only [lenT, Nat.add_zero]
              rfl
            · rw [htk, hdr, StdA_append]
              refine ⟨hsd, fun i hi => ?_, trivial⟩
              show some (R' _) = some _
              rw [show l.tail + lenT (T.take m) + lenT (T.drop m) + i = l.next + i by omega, hRn i, show l.tail + lenT (T.take m) + lenT (T.drop m) = l.next by omega]
          · have e3 : appL d l a = l := by unfold appL; rw [if_neg (by rw [g1]; decide)]
            refine .inr (.inl ⟨g1, ⟨h.n4, r4.trans h.size, h.first, h.lsz, h.ok, h.next, h.mle, fun e => absurd e (by rw [g3]; simp), h.oks, h.eps, h.last, h.new, ⟨R', k, r2, hsd, .inr ⟨a, [], rfl, by omega, by omega, hi, hx, fun i _ => hRn i⟩⟩, by rw [hvl]; exact h.std, by rw [hvl]; exact h.hold, by rw [hvl]; exact h.notx, by rw [hvl]; exact h.ep, by rw [hvl]; exact h.ep1⟩, e3⟩)
  · obtain ⟨e1, e2, e3⟩ := app_off (a := a) h.ok h.fits hoff
    rw [e1]
    rcases e3 with e3 | e3 | e3 | e3
    · exact .inr (.inr ⟨by rw [e3]; decide, by rw [e3]; decide, h, e2⟩)
    · exact .inr (.inr ⟨by rw [e3]; decide, by rw [e3]; decide, h, e2⟩)
    · exact .inr (.inr ⟨by rw [e3]; decide, by rw [e3]; decide, h, e2⟩)
    · exact .inr (.inl ⟨e3, h.down hoff a, e2⟩)
theorem epsA_le : ∀ {T : Txs} {e : Nat}, EpsA e T → ∀ x ∈ T, x.1 ≤ lastE e T
  | y :: r, e, h, x, hx => by
    obtain ⟨h1, h2⟩ := h
    simp only [lastE]
    have key : ∀ {T : Txs} {e : Nat}, EpsA e T → e ≤ lastE e T := fun {T} => by
      induction T with
      | nil => intro e _; exact Nat.le_refl _
      | cons z r ih => intro e hh; exact Nat.le_trans hh.1 (ih hh.2)
    rcases List.mem_cons.1 hx with rfl | hx
    · exact key h2
    · exact epsA_le h2 x hx
/-- behind a crash the first ones of what was appended stand there, all that lasted among them -/
theorem KInv.crash {d : Dev} {l : Wl} {n : Nat} {T : Txs} {m : Nat} {X : List (List Im)} (h : KInv d l n T m X) (zs : List Int) (he0 : 1 ≤ l.epoch) (he : l.epoch ≤ 1000000) (ht : l.tail ≤ 1000000) : ∃ m', m ≤ m' ∧ m' ≤ T.length ∧
    scanR (d.crash zs) n (wl0 0 n l.tail (l.epoch + 1)) 0 = (imgT (T.take m'), l.tail + lenT (T.take m')) ∧ openB (d.crash zs) ((0 : Nat) : Int) (n : Nat) (l.tail : Nat) ((l.epoch + 1 : Nat) : Int) = true ∧ ((d.crash zs).read ((0 : Nat) : Int)).2 ≠ 4 ∧
    KInv (d.crash zs) { (wl0 0 n l.tail (l.epoch + 1)) with next := l.tail + lenT (T.take m') } n (T.take m') m' [] := by
  obtain ⟨R, k, w1, w2, w3, w4, w5⟩ := h.recs
  obtain ⟨c1, c2, c3, c4, c5⟩ := crash_same d zs
  have hsp := lenT_split T m
  have hnx := h.next
  have hroom := h.room
  have hlsz := h.lsz
  have hsz := h.size
  have hn4 := h.n4
  have htwo := h.ok.two
  have hv : ∀ q, l.tail ≤ q → q < l.tail + n → vl (d.crash zs) l q = if l.tail + lenT (T.take m) ≤ q ∧ q < l.tail + lenT (T.take m) + (lenT (T.drop m) + k) then (if pickOf zs (q - (l.tail + lenT (T.take m))) = 1 then some (R q) else if pickOf zs (q - (l.tail + lenT (T.take m))) = 2 then none else vl d l q) else vl d l q := fun q q1 q2 =>
    vl_crash h.ok h.fits w1 (fun i hi => ⟨(w4 i hi).1, (w4 i hi).2.1⟩) (t := l.tail) (by omega) (by rw [hlsz]; omega) q1 (by rw [hlsz]; exact q2)
  -- what was there, but for what lasts of this epoch
  have hmix : Mix (vl (d.crash zs) l) (fun q => if q < l.tail + lenT (T.take m) then none else vl d l q) (l.tail + n) l.epoch (l.tail + lenT (T.take m)) (T.drop m) := by
    have hvq : ∀ q, l.tail + lenT (T.take m) ≤ q → q < l.tail + n → vl (d.crash zs) l q = none ∨ vl (d.crash zs) l q = (fun q => if q < l.tail + lenT (T.take m) then none else vl d l q) q ∨ (q < l.tail + lenT (T.take m) + lenT (T.drop m) + k ∧ vl (d.crash zs) l q = some (R q)) := fun q q1 q2 => by
      have e1 := hv q (by omega) q2
      have e2 : (fun q => if q < l.tail + lenT (T.take m) then none else vl d l q) q = vl d l q := if_neg (by omega)
      rw [e2, e1]
      by_cases hq : q < l.tail + lenT (T.take m) + (lenT (T.drop m) + k)
      · rw [if_pos ⟨q1, hq⟩]
        by_cases p1 : pickOf zs (q - (l.tail + lenT (T.take m))) = 1
        · rw [if_pos p1]; exact .inr (.inr ⟨by omega, rfl⟩)
        · rw [if_neg p1]
          by_cases p2 : pickOf zs (q - (l.tail + lenT (T.take m))) = 2
          · rw [if_pos p2]; exact .inl rfl
          · rw [if_neg p2]; exact .inr (.inl rfl)
      · rw [if_neg (by omega)]; exact .inr (.inl rfl)
    rcases w3 with w3 | ⟨b, X', -, g1, g2, -, -, g5⟩
    · exact mix_of (k := k) (b := []) (by omega) w2 h.new (fun i hi => by omega) hvq (by omega)
    · exact mix_of (k := k) (b := b) g1 w2 h.new (fun i hi => by
        have := g5 i hi
        rw [show l.tail + lenT (T.take m) + lenT (T.drop m) = l.next by omega]; exact this) hvq (by omega)
  have hnot : NoTx (fun q => if q < l.tail + lenT (T.take m) then none else vl d l q) (l.tail + n) (l.tail + lenT (T.take m)) (lastE 0 (T.take m) : Nat) := h.notx.keep fun q q1 _ => if_neg (by omega)
  obtain ⟨q', hq', f1, f2, f3⟩ := crash_finds (E := l.epoch) (fun q r q1 e1 e2 => by
    by_cases hq : q < l.tail + lenT (T.take m)
    · simp only [if_pos hq] at e1; cases e1
    · simp only [if_neg hq] at e1
      exact h.hold q r (by omega) q1 e1 e2) (T.drop m) (l.tail + lenT (T.take m)) (lastE 0 (T.take m)) h.last (by omega) hmix hnot
  have htake : T.take (m + q') = T.take m ++ (T.drop m).take q' := List.take_add
  have hlq : q' ≤ T.length - m := by simpa using hq'
  have hml := h.mle
  have hle : lenT (T.take m) + lenT ((T.drop m).take q') ≤ n := by
    have := lenT_split (T.drop m) q'
    omega
  have hlen : lenT (T.take (m + q')) = lenT (T.take m) + lenT ((T.drop m).take q') := by rw [htake, lenT_append]
  have hvw : vw (d.crash zs) (wl0 0 n l.tail (l.epoch + 1)) = vl (d.crash zs) l := by
    rw [vw_at (l := l) (by rw [h.first]; rfl) (by rw [hlsz]; rfl)]
    funext s
    exact (vw_congr (read_same (d := d.crash zs) (d' := lastD (d.crash zs)) c3.symm rfl c1.symm rfl _)).symm
  have hstd : StdA (vl (d.crash zs) l) l.tail (T.take (m + q')) := by
    rw [htake, StdA_append]
    exact ⟨h.std.keep fun q q1 q2 => by rw [hv q q1 (by omega), if_neg (by omega)], f1⟩
  have heps : EpsA 0 (T.take (m + q')) := by
    have := h.eps
    rw [← List.take_append_drop (m + q') T, EpsA_append] at this
    exact this.1
  have hlast : lastE 0 (T.take (m + q')) = lastE (lastE 0 (T.take m)) ((T.drop m).take q') := by rw [htake, lastE_append]
  have hob : openB (d.crash zs) ((0 : Nat) : Int) (n : Nat) (l.tail : Nat) ((l.epoch + 1 : Nat) : Int) = true := by
    unfold openB fitsB cntB
    simp only [Bool.and_eq_true, decide_eq_true_eq]
    rw [c2]; omega
  have hl0 : (wl0 0 n l.tail (l.epoch + 1)).Ok := by
    unfold wl0
    exact ⟨by simp only; omega, by simp only; omega, Nat.le_refl _, by simp only; omega, by simp only; omega, by simp only; omega⟩
  have hro : (wl0 0 n l.tail (l.epoch + 1)).room = n := by rw [room_lim hl0]; show l.tail + n - l.tail = n; omega
  have hno : NoTx (vl (d.crash zs) l) (l.tail + n) (l.tail + lenT (T.take (m + q'))) (lastE 0 (T.take (m + q')) : Nat) := by
    rw [hlen, hlast, ← Nat.add_assoc]; exact f3
  have hsc := scan_all (d := d.crash zs) (T := T.take (m + q')) (l := wl0 0 n l.tail (l.epoch + 1)) (e := 0) hl0 (by rw [hvw]; exact hstd) heps (by rw [hro]; omega) (by rw [hvw]; exact hno) (f := n) (by have := lenT_pos (T.take (m + q')); omega)
  have hbound : ∀ q r, l.tail ≤ q → q < l.tail + n → vl (d.crash zs) l q = some r → r.epoch ≤ (l.epoch : Nat) := fun q r q1 q2 e1 => by
    rw [hv q q1 q2] at e1
    split at e1
    · rename_i hq
      split at e1
      · cases e1
        have := (w4 (q - (l.tail + lenT (T.take m))) (by omega)).2.2
        rw [show l.tail + lenT (T.take m) + (q - (l.tail + lenT (T.take m))) = q by omega] at this
        rw [this]; exact Int.le_refl _
      · split at e1
        · cases e1
        · exact h.ep q r q1 q2 e1
    · exact h.ep q r q1 q2 e1
  have hvl2 : vl (d.crash zs) { (wl0 0 n l.tail (l.epoch + 1)) with next := l.tail + lenT (T.take (m + q')) } = vl (d.crash zs) l := vw_at (l := l) (by rw [h.first]; rfl) (by rw [hlsz]; rfl) _
  have hlT := h.lastT
  have htt : (T.take (m + q')).take (m + q') = T.take (m + q') := by rw [List.take_take, Nat.min_self]
  have hdd : (T.take (m + q')).drop (m + q') = [] := by simp
  have hle0 : lastE 0 (T.take (m + q')) ≤ l.epoch := by
    rw [hlast]
    rcases hT : (T.drop m).take q' with _ | ⟨y, r⟩
    · exact h.last
    · rw [lastE_all (E := l.epoch) (fun x hx => h.new x (List.mem_of_mem_take (by rw [hT]; exact hx))), if_neg (by simp)]; exact Nat.le_refl _
  refine ⟨m + q', by omega, by omega, ?_, hob, ?_, ?_⟩
  · exact hsc
  · rw [read_free c3 ⟨by omega, by rw [c2]; omega⟩, c1]
    show (if ((d.crash zs).last ((0 : Nat) : Int)).2 = true then (([] : List UInt8), (3 : Int)) else (((d.crash zs).last ((0 : Nat) : Int)).1, 0)).2 ≠ 4
    split <;> simp
  · refine ⟨hn4, c2.trans hsz, rfl, rfl, ⟨by show 0 + n ≤ 4096; omega, by show 2 ≤ n; omega, by show l.tail ≤ l.tail + _; omega, by show l.tail + _ ≤ l.tail + n; omega, by show l.tail ≤ _; omega, by show l.epoch + 1 ≤ _; omega⟩, rfl, by rw [List.length_take]; omega, fun _ => rfl, fun y hy => h.oks y (List.mem_of_mem_take hy), heps, ?_, by rw [hdd]; simp, ⟨R, 0, ?_, ?_, .inl rfl⟩, by rw [htt, hvl2]; exact hstd, ?_, ?_, ?_, ?_⟩
    · rw [htt]; show _ ≤ l.epoch + 1; omega
    · rw [c1, hdd]; simp [wr, lenT]
    · rw [hdd]; simp [StdA]
    · rw [hvl2]
      intro q r q1 q2 e1 e2
      have := hbound q r (by have q1 : l.tail + _ ≤ q := q1; omega) q2 e1
      show r.epoch < ((l.epoch + 1 : Nat) : Int)
      omega
    · rw [htt, hvl2]; exact hno
    · rw [hvl2]
      intro q r q1 q2 e1
      have := hbound q r q1 q2 e1
      show r.epoch ≤ ((l.epoch + 1 : Nat) : Int)
      omega
    · intro hz
      have hz : l.epoch + 1 = 1 := hz
      omega
/-- a new log on a new device -/
theorem KInv.start {n : Nat} (h2 : 2 ≤ n) (hn : n ≤ 4096) : openB (Dev.fresh n) ((0 : Nat) : Int) (n : Nat) ((0 : Nat) : Int) ((1 : Nat) : Int) = true ∧ KInv (Dev.fresh n) (wl0 0 n 0 1) n [] 0 [] := by
  have hob : openB (Dev.fresh n) ((0 : Nat) : Int) (n : Nat) ((0 : Nat) : Int) ((1 : Nat) : Int) = true := by
    unfold openB fitsB cntB
    simp only [Bool.and_eq_true, decide_eq_true_eq]
    rw [show (Dev.fresh n).size = n from rfl]; omega
  have hv : ∀ q, vl (Dev.fresh n) (wl0 0 n 0 1) q = none := fun q => by
    have e : vl (Dev.fresh n) (wl0 0 n 0 1) q = vw (Dev.fresh n) (wl0 0 n 0 1) q := vw_congr (read_same (d := Dev.fresh n) (d' := lastD (Dev.fresh n)) rfl rfl rfl rfl _)
    rw [e]; exact fresh_none n _ q
  have hok := wl0_ok (fresh_ok n hn) hob
  exact ⟨hob, hn, rfl, rfl, rfl, hok, rfl, Nat.le_refl _, fun _ => rfl, by simp, trivial, Nat.zero_le _, by simp, ⟨fun q => ⟨0, 0, 0, 0, 0, 0, 0, ByteArray.empty⟩, 0, rfl, trivial, .inl rfl⟩, trivial,
    fun q r _ _ e => absurd e (by rw [hv]; simp), fun hd e => absurd e (by rw [hv]; simp), fun q r _ _ e => absurd e (by rw [hv]; simp), fun _ q r _ _ e => absurd e (by rw [hv]; simp)⟩
end Go.Proofs.Ytbgefdigmdfalaa
