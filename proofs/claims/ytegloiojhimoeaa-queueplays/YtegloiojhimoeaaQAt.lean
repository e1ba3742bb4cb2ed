/- The queue as it lies in memory ('QAt'), told by the list of what waits in the order of pushing. No statement of the seat is proved here. -/
import Derived.Test.YtegloiojhimoeaaQPop
import Derived.StringKeys
namespace Go.Proofs.Ytegloiojhimoeaa
open Go.RowKit

def fits (x : Int) : Prop := -9223372036854775808 ≤ x ∧ x ≤ 9223372036854775807
def vR (v : Value) : Option (DataW Value × List MemPlace) := some (.held v, [])
theorem vR_inv {v u : Value} {ps : List MemPlace} (h : vR v = some (.held u, ps)) : v = u := by
  simp only [vR, Option.some.injEq, Prod.mk.injEq, DataW.held.injEq] at h; exact h.1
theorem keyedI : Maps.Keyed Try.prog 3 := Maps.int_keyed Try.underlying3
theorem key_int {n : Int} (h : fits n) : keyOf Try.prog 3 (.int .i64 n) = some (.int .i64 n) := by
  have hw : (Lit.int .i64 n).wf = true := by
    unfold fits at h
    simp [Lit.wf, IntKind.min, IntKind.max, IntKind.signed, IntKind.bits]
    omega
  simp [keyOf, Try.underlying3, mapKey, hw]

def fnd (S : List Wt) (id : Int) : Option Wt := S.find? (fun x => decide (x.id = id))
theorem fnd_some {S : List Wt} {id : Int} {x : Wt} (h : fnd S id = some x) : x ∈ S ∧ x.id = id := ⟨List.mem_of_find?_eq_some h, by simpa using List.find?_some h⟩
theorem fnd_none {S : List Wt} {id : Int} (h : fnd S id = none) : ∀ x ∈ S, x.id ≠ id := fun x hx => by simpa using List.find?_eq_none.1 h x hx
theorem fnd_none_iff {S : List Wt} {id : Int} : fnd S id = none ↔ ∀ x ∈ S, x.id ≠ id := ⟨fnd_none, fun h => List.find?_eq_none.2 (by simpa using h)⟩
theorem fnd_mem {S : List Wt} (hd : S.Pairwise (fun a b => a.id ≠ b.id)) {x : Wt} (hx : x ∈ S) : fnd S x.id = some x := by
  induction S with
  | nil => simp at hx
  | cons y S ih =>
    unfold fnd
    rw [List.find?_cons]
    rw [List.pairwise_cons] at hd
    rcases List.mem_cons.1 hx with rfl | hx
    · simp
    · have := hd.1 x hx
      simp [this]
      exact ih hd.2 hx
theorem fnd_append {S : List Wt} {x : Wt} (h : fnd S x.id = none) (i : Int) : fnd (S ++ [x]) i = if i = x.id then some x else fnd S i := by
  unfold fnd at *
  rw [List.find?_append]
  by_cases e : i = x.id
  · subst e; rw [h]; simp
  · rw [if_neg e]
    have : ¬ x.id = i := fun h => e h.symm
    simp [this]
def del (S : List Wt) (id : Int) : List Wt := S.filter (fun x => decide (x.id ≠ id))
theorem fnd_del (S : List Wt) (id i : Int) : fnd (del S id) i = if i = id then none else fnd S i := by
  unfold del
  by_cases e : i = id
  · subst e
    rw [if_pos rfl, fnd_none_iff]
    intro x hx
    simpa using (List.mem_filter.1 hx).2
  · rw [if_neg e]
    unfold fnd
    rw [List.find?_filter]
    congr 1
    funext x
    by_cases h : x.id = i
    · simp [h, e]
    · simp [h]
def put (S : List Wt) (id : Int) (p : Nat) : List Wt := S.map (fun x => if x.id = id then { x with pr := p } else x)

def EntAt (D : DataW Value) (id : Int) : Option Wt → Prop
  | none => Maps.has D (.int .i64 id) = false
  | some x => Maps.has D (.int .i64 id) = true ∧ ∀ z, D.atKey (.int .i64 id) z = .held (ptrW x)
def MapQ (X : Nat → Prop) (w : World) (mv : Value) (N : Nat) (f : Int → Option Wt) : Prop :=
  (mv = .map none ∧ ∀ k, f k = none) ∨
  ∃ mb D, mv = .map (some mb) ∧ ¬ X mb ∧ w.ownsMap Try.prog 3 vR mb N D ∧ Maps.IsMap D ∧ ∀ id, fits id → EntAt D id (f id)
def XM (X : Nat → Prop) (mv : Value) : Nat → Prop := fun k => X k ∨ mv = .map (some k)
/-- THE QUEUE AT BLOCK qb OF w: S waits, in the order of pushing; pu: how many were pushed; N: how often its map was put into, at most; all its blocks are outside X. -/
structure QAt (X : Nat → Prop) (w : World) (qb : Nat) (S : List Wt) (pu N : Nat) : Prop where
  ex : ∃ mv L, LineAt (XM X mv) w qb mv pu L ∧ MapQ X w mv N (fnd S) ∧ L.Perm S ∧ HeapAll (kf L) L.length
  srt : S.Pairwise (fun a b => a.turn < b.turn)
  ids : S.Pairwise (fun a b => a.id ≠ b.id)
  tu : ∀ x ∈ S, x.turn < pu
  rng : ∀ x ∈ S, fits x.id

theorem MapQ.keep {X X' : Nat → Prop} {w w' : World} {mv : Value} {N : Nat} {f : Int → Option Wt} (h : MapQ X w mv N f) (hk : ∀ (k : Nat) o, mv = .map (some k) → w.heap[k]? = some o → w'.heap[k]? = some o) (hX : ∀ k, k < w.heap.size → X' k → X k) : MapQ X' w' mv N f := by
  rcases h with h | ⟨mb, D, hv, hB, ho, hm, hat⟩
  · exact Or.inl h
  · have hlt := ho.lt
    refine Or.inr ⟨mb, D, hv, fun e => hB (hX _ hlt e), ?_, hm, hat⟩
    obtain ⟨es, clock, hb, F, hs, hD⟩ := ho
    exact ⟨es, clock, hk _ _ hv hb, F, hs, hD⟩
theorem QAt.keep {X X' : Nat → Prop} {w w' : World} {qb : Nat} {S : List Wt} {pu N : Nat} (h : QAt X w qb S pu N) (hk : ∀ (k : Nat) o, ¬ X k → w.heap[k]? = some o → w'.heap[k]? = some o) (hX : ∀ k, k < w.heap.size → X' k → X k) (hl : ∀ k, X' k → k < w'.heap.size) (hs : w.heap.size ≤ w'.heap.size) : QAt X' w' qb S pu N := by
  obtain ⟨⟨mv, L, h1, h2, h3⟩, a, b, c, d⟩ := h
  have hmx : ∀ k, mv = .map (some k) → ¬ X k := fun k e => by
    rcases h2 with ⟨rfl, _⟩ | ⟨mb, D, rfl, hB, _⟩
    · cases e
    · cases e; exact hB
  refine ⟨⟨mv, L, h1.keep (fun k o hx ho => hk k o (fun e => hx (Or.inl e)) ho) (fun k hk' e => ?_) (fun k e => ?_), h2.keep (fun k o e ho => hk k o (hmx k e) ho) hX, h3⟩, a, b, c, d⟩
  · rcases e with e | e
    · exact Or.inl (hX k hk' e)
    · exact Or.inr e
  · rcases e with e | e
    · exact hl k e
    · exact Nat.lt_of_lt_of_le (h1.lt k (Or.inr e)) hs
theorem QAt.below {X : Nat → Prop} {w w' : World} {qb : Nat} {S : List Wt} {pu N : Nat} (h : QAt X w qb S pu N) (hb : Below w.heap.size w w') : QAt X w' qb S pu N :=
  h.keep (fun k _ _ ho => (hb.block k (lt_of_heap ho)).trans ho) (fun _ _ e => e) (fun k e => by
    obtain ⟨mv, L, h1, _⟩ := h.ex
    exact Nat.lt_of_lt_of_le (h1.lt k (Or.inl e)) hb.size) hb.size
theorem QAt.lt {X : Nat → Prop} {w : World} {qb : Nat} {S : List Wt} {pu N : Nat} (h : QAt X w qb S pu N) : ∀ k, X k → k < w.heap.size := fun k e => by
  obtain ⟨mv, L, h1, _⟩ := h.ex
  exact h1.lt k (Or.inl e)
theorem QAt.less {X X' : Nat → Prop} {w : World} {qb : Nat} {S : List Wt} {pu N : Nat} (h : QAt X w qb S pu N) (hX : ∀ k, X' k → X k) : QAt X' w qb S pu N :=
  h.keep (fun _ _ _ ho => ho) (fun k _ e => hX k e) (fun k e => h.lt k (hX k e)) (Nat.le_refl _)
/-- what is new is not the queue's -/
theorem QAt.wider {X : Nat → Prop} {w w' : World} {qb : Nat} {S : List Wt} {pu N : Nat} (h : QAt X w qb S pu N) (hb : Below w.heap.size w w') : QAt (fun k => X k ∨ (w.heap.size ≤ k ∧ k < w'.heap.size)) w' qb S pu N :=
  h.keep (fun k _ _ ho => (hb.block k (lt_of_heap ho)).trans ho) (fun k hk e => by rcases e with e | e; exact e; omega) (fun k e => by rcases e with e | e; exact Nat.lt_of_lt_of_le (h.lt k e) hb.size; exact e.2) hb.size

/-! ### New, Len -/
set_option maxHeartbeats 400000 in
theorem new_any (w : World) : Calls Try.prog 9 #[] w fun e w' => e = .returned (.pointer (some ⟨w.heap.size, 0, none⟩)) ∧ QAt (fun k => k < w.heap.size) w' w.heap.size [] 0 0 ∧ Below w.heap.size w w' := by
  go_enter Try.func9, Try.ntmps9
  go_wp2
  go_ret
  refine ⟨rfl, ⟨⟨.map none, [], ⟨fun k hk => ?_, ?_, by simp, ⟨.slice none 0 0, ?_, World.ownsRow_nil _ _ _ _, fun k e => by cases e⟩, fun i hi => by simp at hi, fun i j hi => by simp at hi, fun i hi => by simp at hi⟩, Or.inl ⟨rfl, fun _ => rfl⟩, List.Perm.refl _, fun c h0 h1 => by simp at h1⟩, List.Pairwise.nil, List.Pairwise.nil, by simp, by simp⟩, ?_⟩
  · rcases hk with hk | hk
    · simp; omega
    · cases hk
  · rintro (e | e)
    · exact absurd e (Nat.lt_irrefl _)
    · cases e
  · rw [heap_alloc_new]; rfl
  · exact (Below.refl _ _).alloc (Nat.le_refl _) _
set_option maxHeartbeats 400000 in
theorem len_any {X : Nat → Prop} {w : World} {qb : Nat} {S : List Wt} {pu N : Nat} (h : QAt X w qb S pu N) : Calls Try.prog 11 #[.pointer (some ⟨qb, 0, none⟩)] w fun e w' => e = .returned (.int .i64 S.length) ∧ w = w' := by
  obtain ⟨mv, L, h1, -, hp, -⟩ := h.ex
  obtain ⟨ao, cap, hc⟩ := h1.form
  rw [hp.length_eq] at hc
  generalize S.length = n at hc ⊢
  clear h h1 hp
  go_enter Try.func11, Try.ntmps11
  go_wp2
  go_ret
  exact ⟨rfl, rfl⟩
set_option maxHeartbeats 400000 in
theorem len_nil (w : World) : Calls Try.prog 11 #[.pointer none] w fun e w' => e = .returned (.int .i64 0) ∧ w = w' := by
  go_enter Try.func11, Try.ntmps11
  go_wp2
  go_ret
  exact ⟨rfl, rfl⟩
end Go.Proofs.Ytegloiojhimoeaa
