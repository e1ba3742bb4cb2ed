/- What a queue holds of a list of numbers. No statement of the seat is proved here. -/
import Derived.Test.YtegloiojhimoeaaQTwo
namespace Go.Proofs.Ytegloiojhimoeaa
open Go.RowKit G

/-- S holds the entries i of a list of places, in that order -/
def HasZ (z : Nat → Nat) (S : List Wt) (is : List Nat) : Prop := S.map (fun x => (x.id, x.pr)) = is.map (fun i : Nat => ((i : Int), z i))
theorem HasZ.push {z : Nat → Nat} {S : List Wt} {is : List Nat} (h : HasZ z S is) (b i t : Nat) : HasZ z (S ++ [⟨b, i, z i, t⟩]) (is ++ [i]) := by
  unfold HasZ at *; simp [h]
theorem HasZ.mem {z : Nat → Nat} {S : List Wt} {is : List Nat} (h : HasZ z S is) {x : Wt} (hx : x ∈ S) : ∃ i, i ∈ is ∧ x.id = (i : Int) ∧ x.pr = z i := by
  have : (x.id, x.pr) ∈ S.map (fun x => (x.id, x.pr)) := List.mem_map.2 ⟨x, hx, rfl⟩
  rw [h] at this
  obtain ⟨j, hj, e2⟩ := List.mem_map.1 this
  simp only [Prod.mk.injEq] at e2
  exact ⟨j, hj, e2.1.symm, e2.2.symm⟩
theorem HasZ.none {z : Nat → Nat} {S : List Wt} {is : List Nat} (h : HasZ z S is) {i : Nat} (hi : i ∉ is) : fnd S (i : Int) = none := by
  rw [fnd_none_iff]
  intro x hx e
  obtain ⟨j, hj, e2, _⟩ := h.mem hx
  have : j = i := by omega
  exact hi (this ▸ hj)
theorem HasZ.some {z : Nat → Nat} {S : List Wt} {is : List Nat} (h : HasZ z S is) {i : Nat} (hi : i ∈ is) : ∃ x, fnd S (i : Int) = some x ∧ x ∈ S ∧ x.id = (i : Int) ∧ x.pr = z i := by
  cases hq : fnd S (i : Int) with
  | none =>
    have : ((i : Int), z i) ∈ is.map (fun i : Nat => ((i : Int), z i)) := List.mem_map.2 ⟨i, hi, rfl⟩
    rw [← h] at this
    obtain ⟨x, hx, e⟩ := List.mem_map.1 this
    simp only [Prod.mk.injEq] at e
    exact absurd e.1 (fnd_none hq x hx)
  | some x =>
    obtain ⟨hx, e⟩ := fnd_some hq
    obtain ⟨j, hj, e2, e3⟩ := h.mem hx
    have : j = i := by omega
    subst this
    exact ⟨x, rfl, hx, e, e3⟩
theorem HasZ.len {z : Nat → Nat} {S : List Wt} {is : List Nat} (h : HasZ z S is) : S.length = is.length := by
  have := congrArg List.length h; simpa using this
theorem put_back {S : List Wt} {id : Int} {q : Nat} (h : ∀ x ∈ S, x.id = id → x.pr = q) (p : Nat) : put (put S id p) id q = S := by
  unfold put
  rw [List.map_map]
  conv => rhs; rw [← List.map_id S]
  refine List.map_congr_left (fun x hx => ?_)
  simp only [Function.comp, id_eq]
  by_cases e : x.id = id
  · rw [if_pos e]
    simp only
    rw [if_pos e, ← h x hx e]
  · rw [if_neg e, if_neg e]
theorem del_len {S : List Wt} {i : Int} (hd : S.Pairwise (fun a b => a.id ≠ b.id)) {x : Wt} (h : fnd S i = some x) : (del S i).length + 1 = S.length := by
  induction S with
  | nil => simp [fnd] at h
  | cons y S ih =>
    rw [List.pairwise_cons] at hd
    unfold fnd at h
    rw [List.find?_cons] at h
    by_cases e : y.id = i
    · have hall : del S i = S := List.filter_eq_self.2 (fun a ha => by have := hd.1 a ha; simp; rw [← e]; exact fun h => this h.symm)
      unfold del at *
      rw [List.filter_cons, if_neg (by simp [e]), hall, List.length_cons]
    · simp [e] at h
      have := ih hd.2 h
      unfold del at *
      rw [List.filter_cons]
      simp [e]
      simpa using this
/-- A row of entries whose block is one of X. -/
def OwnX (X : Nat → Prop) (w : World) (v : Value) (M : List Wt) : Prop := OwnE 0 w v M ∧ ∀ k, v.ownBlock = some k → X k
theorem OwnX.kp {X : Nat → Prop} {w w' : World} {v : Value} {M : List Wt} (h : OwnX X w v M) (kp : Kp X w w') : OwnX X w' v M :=
  ⟨ownsRow_keep h.1 (fun k hk => by
    obtain ⟨_, h2⟩ := World.ownsRow.lt h.1 k hk
    have e : w.heap[k]? = some w.heap[k] := Array.getElem?_eq_getElem h2
    rw [kp.keep k _ (h.2 k hk) e, e]), h.2⟩
theorem OwnX.below {X : Nat → Prop} {w w' : World} {v : Value} {M : List Wt} (h : OwnX X w v M) (hb : Below w.heap.size w w') : OwnX X w' v M := ⟨h.1.below hb, h.2⟩
theorem OwnE.x {X : Nat → Prop} {base : Nat} {w : World} {v : Value} {M : List Wt} (h : OwnE base w v M) (hX : ∀ k, base ≤ k → k < w.heap.size → X k) : OwnX X w v M :=
  ⟨ownsRow_base h (fun _ _ => Nat.zero_le _), fun k hk => by obtain ⟨h1, h2⟩ := World.ownsRow.lt h k hk; exact hX k h1 h2⟩
theorem QAt.prb {X : Nat → Prop} {w : World} {qb : Nat} {S : List Wt} {pu N : Nat} (h : QAt X w qb S pu N) : ∀ x ∈ S, x.pr < 18446744073709551616 := fun x hx => by
  obtain ⟨mv, L, l, -, pm, -⟩ := h.ex
  obtain ⟨i, hi, rfl⟩ := mem_at (pm.mem_iff.2 hx)
  exact (l.ok i hi).1
theorem key_low (b : Nat) : -9218868437227405313 ≤ key b := by
  by_cases hn : nan b = true
  · rw [key_nan hn]; decide
  · exact (key_le (by simpa using hn)).2
theorem cmp_zero {a b : Nat} (h : key a = key b) : cmpB a b = 0 := by unfold cmpB cmpI; rw [h]; simp
theorem sorted_at {M : List Wt} (h : M.Pairwise (fun a b => a.ky < b.ky)) {i j : Nat} (hij : i < j) (hj : j < M.length) : (at' M i).ky < (at' M j).ky := by
  have := List.pairwise_iff_getElem.1 h i j (by omega) hj hij
  rw [at_eq (by omega), at_eq hj]; exact this
end Go.Proofs.Ytegloiojhimoeaa
