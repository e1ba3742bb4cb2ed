/- The same call of the queue and of the document's queue: the same answer. No statement of the seat is proved here. -/
import Derived.Test.YtegloiojhimoeaaQSame
namespace Go.Proofs.Ytegloiojhimoeaa
open Go.RowKit

def Pair (X : Nat → Prop) (w1 : World) (qb rb : Nat) (S : List Wt) (pu N : Nat) (rf : FuncId) (ra : Array Value) (v : Value) (w2 : World) : Prop :=
  ∃ S' pu' N', QAt X w2 qb S' pu' N' ∧ Kp X w1 w2 ∧ pu' ≤ pu + 1 ∧ N' ≤ N + 1 ∧ ∀ (Y : Nat → Prop) (w' : World), RAt Y w' rb S → Calls Try.prog rf ra w' (fun e w3 => e = .returned v ∧ RAt Y w3 rb S' ∧ Kp Y w' w3)
theorem QAt.len {X : Nat → Prop} {w : World} {qb : Nat} {S : List Wt} {pu N : Nat} (h : QAt X w qb S pu N) : S.length ≤ 1000 := by
  obtain ⟨mv, L, l, -, pm, -⟩ := h.ex
  rw [← pm.length_eq]; exact l.len
variable {X : Nat → Prop} {w : World} {qb rb : Nat} {S : List Wt} {pu N : Nat}
theorem same_world {Y : Nat → Prop} {w' : World} {S : List Wt} {f : FuncId} {ra : Array Value} {v : Value} (h : RAt Y w' rb S) (hc : Calls Try.prog f ra w' (fun e w3 => e = .returned v ∧ w' = w3)) : Calls Try.prog f ra w' (fun e w3 => e = .returned v ∧ RAt Y w3 rb S ∧ Kp Y w' w3) :=
  hc.mono fun e w3 ⟨h1, h2⟩ => by subst h2; exact ⟨h1, h, Kp.refl _ _⟩
theorem push_pair (h : QAt X w qb S pu N) {id : Int} (hf : fits id) {p : Nat} (hp : p < 18446744073709551616) (hpu : pu < 4611686018427387904) (hN : N < maxLen) :
    Calls Try.prog 13 #[.pointer (some ⟨qb, 0, none⟩), .int .i64 id, .float .f64 p] w fun e w2 => ∃ c : Int, e = .returned (.int .i64 c) ∧ Pair X w qb rb S pu N 22 #[.pointer (some ⟨rb, 0, none⟩), .int .i64 id, .float .f64 p] (.int .i64 c) w2 := by
  have hl := h.len
  cases hq : fnd S id with
  | some x =>
    refine (push_there h hf p hq).mono ?_
    rintro e w2 ⟨rfl, rfl⟩
    exact ⟨8, rfl, S, pu, N, h, Kp.refl _ _, by omega, by omega, fun Y w' hr => same_world hr (rpush_there hr h.ids (by omega) hq p)⟩
  | none =>
    by_cases hf' : 1000 ≤ S.length
    · refine (push_full h hf p hq hf').mono ?_
      rintro e w2 ⟨rfl, rfl⟩
      exact ⟨14, rfl, S, pu, N, h, Kp.refl _ _, by omega, by omega, fun Y w' hr => same_world hr (rpush_full hr (by omega) hq hf' p)⟩
    · refine (push_ok h hf hp hq (by omega) hpu hN).mono ?_
      rintro e w2 ⟨b, rfl, q2, k2⟩
      exact ⟨0, rfl, _, _, _, q2, k2, by omega, by omega, fun Y w' hr => rpush_ok hr (x := ⟨b, id, p, pu⟩) hq (by omega)⟩
theorem set_pair (h : QAt X w qb S pu N) {id : Int} (hf : fits id) {p : Nat} (hp : p < 18446744073709551616) :
    Calls Try.prog 18 #[.pointer (some ⟨qb, 0, none⟩), .int .i64 id, .float .f64 p] w fun e w2 => ∃ c : Int, e = .returned (.int .i64 c) ∧ Pair X w qb rb S pu N 26 #[.pointer (some ⟨rb, 0, none⟩), .int .i64 id, .float .f64 p] (.int .i64 c) w2 := by
  have hl := h.len
  cases hq : fnd S id with
  | some x =>
    refine (set_ok h hf hq hp).mono ?_
    rintro e w2 ⟨rfl, q2, k2⟩
    exact ⟨0, rfl, _, _, _, q2, k2, by omega, by omega, fun Y w' hr => rset_ok hr h.ids (by omega) hq p⟩
  | none =>
    refine (set_none h hf hq p).mono ?_
    rintro e w2 ⟨rfl, rfl⟩
    exact ⟨7, rfl, S, pu, N, h, Kp.refl _ _, by omega, by omega, fun Y w' hr => same_world hr (rset_none hr (by omega) hq p)⟩
theorem drop_pair (h : QAt X w qb S pu N) {id : Int} (hf : fits id) :
    Calls Try.prog 19 #[.pointer (some ⟨qb, 0, none⟩), .int .i64 id] w fun e w2 => ∃ c : Int, e = .returned (.int .i64 c) ∧ Pair X w qb rb S pu N 27 #[.pointer (some ⟨rb, 0, none⟩), .int .i64 id] (.int .i64 c) w2 := by
  have hl := h.len
  cases hq : fnd S id with
  | some x =>
    refine (drop_ok h hf hq).mono ?_
    rintro e w2 ⟨rfl, q2, k2⟩
    exact ⟨0, rfl, _, _, _, q2, k2, by omega, by omega, fun Y w' hr => rdrop_ok hr h.ids (by omega) hq⟩
  | none =>
    refine (drop_none h hf hq).mono ?_
    rintro e w2 ⟨rfl, rfl⟩
    exact ⟨7, rfl, S, pu, N, h, Kp.refl _ _, by omega, by omega, fun Y w' hr => same_world hr (rdrop_none hr (by omega) hq)⟩
theorem pop_pair (h : QAt X w qb S pu N) (hpu : pu ≤ 4611686018427387904) :
    Calls Try.prog 15 #[.pointer (some ⟨qb, 0, none⟩)] w fun e w2 => ∃ (i : Int) (p : Nat) (c : Int), e = .returned (.tuple #[.agg #[.int .i64 i, .float .f64 p], .int .i64 c]) ∧ Pair X w qb rb S pu N 23 #[.pointer (some ⟨rb, 0, none⟩)] (.tuple #[.agg #[.int .i64 i, .float .f64 p], .int .i64 c]) w2 := by
  have hl := h.len
  by_cases h0 : 0 < S.length
  · refine (pop_ok h h0 hpu).mono ?_
    rintro e w2 ⟨m, rfl, hm, q2, k2⟩
    refine ⟨m.id, m.pr, 0, rfl, _, _, _, q2, k2, by omega, by omega, fun Y w' hr => (rpop_ok hr h0 (by omega) h.prb).mono ?_⟩
    rintro e w3 ⟨b, rfl, hb, r3, k3⟩
    have hbm : at' S b = m := min_uniq h.srt h.tu hpu (best_min hb h.srt h.tu hpu) hm
    rw [cut_del hb.1 h.ids, hbm] at r3
    rw [hbm]
    exact ⟨rfl, r3, k3⟩
  · have hS : S = [] := List.eq_nil_of_length_eq_zero (by omega)
    subst hS
    refine (pop_none h).mono ?_
    rintro e w2 ⟨rfl, b2⟩
    refine ⟨0, 0, 7, rfl, _, _, _, h.below b2, Kp.of_below b2, by omega, by omega, fun Y w' hr => (rpop_none hr).mono ?_⟩
    rintro e w3 ⟨rfl, b3⟩
    exact ⟨rfl, hr.below b3, Kp.of_below b3⟩
theorem peek_pair (h : QAt X w qb S pu N) (hpu : pu ≤ 4611686018427387904) :
    Calls Try.prog 21 #[.pointer (some ⟨qb, 0, none⟩)] w fun e w2 => ∃ (i : Int) (p : Nat) (c : Int), e = .returned (.tuple #[.agg #[.int .i64 i, .float .f64 p], .int .i64 c]) ∧ Pair X w qb rb S pu N 25 #[.pointer (some ⟨rb, 0, none⟩)] (.tuple #[.agg #[.int .i64 i, .float .f64 p], .int .i64 c]) w2 := by
  have hl := h.len
  by_cases h0 : 0 < S.length
  · refine (peek_ok h h0).mono ?_
    rintro e w2 ⟨m, rfl, hm, b2⟩
    refine ⟨m.id, m.pr, 0, rfl, _, _, _, h.below b2, Kp.of_below b2, by omega, by omega, fun Y w' hr => (rpeek_ok hr h0 (by omega) h.prb).mono ?_⟩
    rintro e w3 ⟨b, rfl, hb, b3⟩
    have hbm : at' S b = m := min_uniq h.srt h.tu hpu (best_min hb h.srt h.tu hpu) hm
    rw [hbm]
    exact ⟨rfl, hr.below b3, Kp.of_below b3⟩
  · have hS : S = [] := List.eq_nil_of_length_eq_zero (by omega)
    subst hS
    refine (peek_none h).mono ?_
    rintro e w2 ⟨rfl, b2⟩
    refine ⟨0, 0, 7, rfl, _, _, _, h.below b2, Kp.of_below b2, by omega, by omega, fun Y w' hr => (rpeek_none hr).mono ?_⟩
    rintro e w3 ⟨rfl, b3⟩
    exact ⟨rfl, hr.below b3, Kp.of_below b3⟩
/-- Both queues, side by side. -/
def Both (B : Nat) (w : World) (qb rb : Nat) (S : List Wt) (pu N : Nat) : Prop := ∃ X Y : Nat → Prop, (∀ k, k < B → X k ∧ Y k) ∧ (∀ k, k < w.heap.size → X k ∨ Y k) ∧ QAt X w qb S pu N ∧ RAt Y w rb S
theorem Both.below {B : Nat} {w' : World} (h : Both B w qb rb S pu N) (hb : Below w.heap.size w w') : Both B w' qb rb S pu N := by
  obtain ⟨X, Y, h1, h2, q, r⟩ := h
  refine ⟨_, _, fun k hk => ⟨Or.inl (h1 k hk).1, Or.inl (h1 k hk).2⟩, fun k hk => ?_, q.wider hb, r.wider hb⟩
  by_cases e : k < w.heap.size
  · rcases h2 k e with e | e
    · exact Or.inl (Or.inl e)
    · exact Or.inr (Or.inl e)
  · exact Or.inl (Or.inr ⟨by omega, hk⟩)
/-- .. behind the two calls -/
theorem both_of {B : Nat} {X Y : Nat → Prop} {w1 w2 w3 : World} {S' : List Wt} {pu' N' : Nat} (h1 : ∀ k, k < B → X k ∧ Y k) (h2 : ∀ k, k < w1.heap.size → X k ∨ Y k) (q2 : QAt X w2 qb S' pu' N') (r3 : RAt (fun k => Y k ∨ (w1.heap.size ≤ k ∧ k < w2.heap.size)) w3 rb S') (k3 : Kp (fun k => Y k ∨ (w1.heap.size ≤ k ∧ k < w2.heap.size)) w2 w3) : Both B w3 qb rb S' pu' N' := by
  have cv := cover_other (w' := w2) h2
  refine ⟨_, _, fun k hk => ⟨Or.inl (h1 k hk).1, Or.inl (h1 k hk).2⟩, fun k hk => ?_, q2.other k3 (fun k hk => (cv k hk).symm), r3⟩
  by_cases e : k < w2.heap.size
  · rcases cv k e with e | e
    · exact Or.inl (Or.inl e)
    · exact Or.inr e
  · exact Or.inl (Or.inr ⟨by omega, hk⟩)
end Go.Proofs.Ytegloiojhimoeaa
