/- Two objects beside one another; lists that are sorted alike; an element of two cells. No statement of the seat is proved here. -/
import Derived.Test.YtegloiojhimoeaaQList
import Derived.Test.YtegloiojhimoeaaQArgs
namespace Go.Proofs.Ytegloiojhimoeaa
open Go.RowKit

/-- What another object's call leaves of a queue. -/
theorem QAt.other {X Y : Nat → Prop} {w w' : World} {qb : Nat} {S : List Wt} {pu N : Nat} (h : QAt X w qb S pu N) (kp : Kp Y w w') (hc : ∀ k, k < w.heap.size → Y k ∨ X k) : QAt (fun k => X k ∨ (w.heap.size ≤ k ∧ k < w'.heap.size)) w' qb S pu N :=
  h.keep (fun k o hx ho => kp.keep k o ((hc k (lt_of_heap ho)).resolve_right hx) ho) (fun k hk e => by rcases e with e | e; exact e; omega) (fun k e => by rcases e with e | e; exact Nat.lt_of_lt_of_le (h.lt k e) kp.size; exact e.2) kp.size
theorem cover_other {X Y : Nat → Prop} {w w' : World} (hc : ∀ k, k < w.heap.size → Y k ∨ X k) : ∀ k, k < w'.heap.size → Y k ∨ (X k ∨ (w.heap.size ≤ k ∧ k < w'.heap.size)) := fun k hk => by
  by_cases h : k < w.heap.size
  · rcases hc k h with e | e
    · exact Or.inl e
    · exact Or.inr (Or.inl e)
  · exact Or.inr (Or.inr ⟨by omega, hk⟩)
theorem uniq_sorted {α : Type} {A B : List α} (f : α → Int) (hp : A.Perm B) (ha : A.Pairwise (fun a b => f a < f b)) (hb : B.Pairwise (fun a b => f a < f b)) : A = B :=
  hp.eq_of_pairwise (fun a b _ _ h1 h2 => by omega) ha hb
theorem exec_indexAddrS {P : Program} {w : World} {ρ : Operand → Value} {o : Oper} {t e : TypeId} {x ix : Operand} {b off len cap : Nat} {k s : Nat} (ho : o.op = .indexAddr t x ix) (hx : ρ x = .slice (some ⟨b, off, none⟩) len cap) (hi : ρ ix = .int .i64 k) (hk : k < len)
    (hu : P.underlying t = some (.slice e)) (hs : (P.info? e).map (·.size) = some s) : (execOp ρ o).run P w = .ok (.value (.pointer (some ⟨b, off + k * s, none⟩))) w := by
  cases hq : P.info? e with
  | none => simp [hq] at hs
  | some i =>
    have h1 : i.size = s := by simpa [hq] using hs
    have e2 : (⟨b, off, none⟩ : Addr).add (k * s) = ⟨b, off + k * s, none⟩ := by unfold Addr.add; split <;> simp_all
    unfold execOp
    simp [ho, hx, hi, Instr.indexAt, asIntOf, run_underlying hu, hk, sizeOf, typeInfo, hq, h1, e2]
theorem exec_intneq {P : Program} {w : World} {ρ : Operand → Value} {o : Oper} {t t' : TypeId} {x y : Operand} {k : IntKind} {a b : Int} (ho : o.op = .binOp .neq t x y t') (hx : ρ x = .int k a) (hy : ρ y = .int k b) (h : a = b) : (execOp ρ o).run P w = .ok (.value (.bool false)) w := by
  subst h
  unfold execOp
  simp only [ho, hx, hy, Sem.run_bind]
  have e1 : (eqGuard .neq t x y (.int k a) (.int k a)).run P w = .ok () w := by simp [eqGuard]
  have e2 : (binOp .neq t (.int k a) (.int k a)).run P w = .ok (.bool false) w := by simp [go_sem]
  rw [e1, Result.andThen_ok, e2]; rfl
theorem OwnE.get2 {base : Nat} {w : World} {ao : Option Addr} {n cap : Nat} {M : List Wt} (h : OwnE base w (.slice ao n cap) M) {k : Nat} (hk : k < M.length) : ∃ b, ao = some ⟨b, 0, none⟩ ∧ base ≤ b ∧ w.cell? ⟨b, k * 2, none⟩ = some (.int .i64 (at' M k).id) ∧ w.cell? ⟨b, k * 2 + 1, none⟩ = some (.float .f64 (at' M k).pr) := by
  obtain ⟨b, h1, h2, h3, h4⟩ := h.get hk
  rw [Nat.mul_comm 2 k] at h3 h4
  exact ⟨b, h1, h2, h3, h4⟩
theorem zs_lt {zs : List Nat} (h : ∀ z ∈ zs, z < 18446744073709551616) (i : Nat) : zs.getD i 0 < 18446744073709551616 := by
  rw [List.getD_eq_getElem?_getD]
  cases hq : zs[i]? with
  | none => decide
  | some z => exact h z (List.mem_of_getElem? hq)
end Go.Proofs.Ytegloiojhimoeaa
