/- The contracts of the queue's remove, Drop, Pop. No statement of the seat is proved here. -/
import Derived.Test.YtegloiojhimoeaaQPu
namespace Go.Proofs.Ytegloiojhimoeaa
open Go.RowKit

theorem exec_delete {P : Program} {w w1 : World} {ρ : Operand → Value} {o : Oper} {t k : TypeId} {m x : Operand} {mv key : Value} (ho : o.op = .call { callee := .builtin .delete, args := #[m, x], argTypes := #[t, k] }) (hm : ρ m = mv) (hx : ρ x = key)
    (hrun : (Builtin.delete_ #[t, k] o.type #[mv, key]).run P w = .ok (.tuple #[]) w1) : (execOp ρ o).run P w = .ok (.value (.tuple #[])) w1 := by
  unfold execOp
  simp only [ho, resolve, invoke, builtin, Sem.run_bind, Sem.run_pure, Result.andThen_ok, List.map_toArray, List.map_cons, List.map_nil, hm, hx, hrun]
theorem del_perm {L' L S : List Wt} {x : Wt} (h : (L' ++ [x]).Perm L) (hp : L.Perm S) (ids : S.Pairwise (fun a b => a.id ≠ b.id)) : L'.Perm (del S x.id) := by
  have h1 := h.trans hp
  have h2 : ((L' ++ [x]).filter (fun y => decide (y.id ≠ x.id))).Perm (del S x.id) := h1.filter _
  have h3 : (L' ++ [x]).Pairwise (fun a b => a.id ≠ b.id) := (h1.pairwise_iff (fun {a b} h => Ne.symm h)).2 ids
  have h4 : (L' ++ [x]).filter (fun y => decide (y.id ≠ x.id)) = L' := by
    rw [List.filter_append]
    have e1 : L'.filter (fun y => decide (y.id ≠ x.id)) = L' := List.filter_eq_self.2 (fun a ha => by
      have := (List.pairwise_append.1 h3).2.2 a ha x (by simp)
      simpa using this)
    have e2 : [x].filter (fun y => decide (y.id ≠ x.id)) = [] := by simp
    rw [e1, e2, List.append_nil]
  rw [h4] at h2
  exact h2
def RemvPost (X : Nat → Prop) (w : World) (qb : Nat) (S : List Wt) (pu N : Nat) (x : Wt) (w' : World) : Prop := QAt X w' qb (del S x.id) pu N ∧ Kp X w w'
theorem remv_post {X : Nat → Prop} {w w1 w2 : World} {qb mb i : Nat} {S L : List Wt} {pu N : Nat} {e : Ending} (h : QAt X w qb S pu N) (hp : L.Perm S) (hmb : ¬ X mb) (hr : RemPost (XM X (.map (some mb))) w qb (.map (some mb)) pu L i e w1) (hm2 : MapQ X w2 (.map (some mb)) N (fun j => if j = (at' L i).id then none else fnd S j)) (hg : w1.grownBy w2 (some mb)) : RemvPost X w qb S pu N (at' L i) w2 := by
  obtain ⟨v, L', rfl, h1, p1, a1, k1, -⟩ := hr
  refine ⟨⟨⟨_, L', h1.grown hg (Or.inr rfl), ?_, del_perm p1 hp h.ids, a1⟩, ?_, ?_, fun x hx => h.tu x (List.mem_filter.1 hx).1, fun x hx => h.rng x (List.mem_filter.1 hx).1⟩, (k1.mono (fun k e => Or.inl e)).grown hg (fun k e => by cases e; exact hmb)⟩
  · have e : (fun j => if j = (at' L i).id then none else fnd S j) = fnd (del S (at' L i).id) := by funext j; rw [fnd_del]
    rw [← e]; exact hm2
  · exact h.srt.filter _
  · exact h.ids.filter _

set_option maxRecDepth 20000 in
set_option maxHeartbeats 3200000 in
theorem remove_any {X : Nat → Prop} {w : World} {qb : Nat} {S : List Wt} {pu N : Nat} (h : QAt X w qb S pu N) {x : Wt} (hx : x ∈ S) : Calls Try.prog 34 #[.pointer (some ⟨qb, 0, none⟩), .pointer (some ⟨x.blk, 0, none⟩)] w fun e w' => e = .returned (.tuple #[]) ∧ RemvPost X w qb S pu N x w' := by
  obtain ⟨mv, L, h1, h2, hp, hh⟩ := h.ex
  obtain ⟨i, hi, rfl⟩ := mem_at (hp.mem_iff.2 hx)
  rcases h2 with ⟨rfl, hz⟩ | ⟨mb, D, rfl, hmb, hown, him, hat⟩
  · exact absurd (hz (at' L i).id) (by rw [fnd_mem h.ids hx]; simp)
  have c3 : w.cell? ⟨(at' L i).blk, 3, none⟩ = some (.int .i64 i) := cell_row (h1.wt i hi).2 3 rfl
  have R := Lib.hid (heapRemove_any (w := w.drew) (h1.drewN 1) hi hh)
  have P := Lib.hid (fun (e : Ending) (w1 w2 : World) (hr : RemPost (XM X (.map (some mb))) w qb (.map (some mb)) pu L i e w1) hm2 hg => remv_post (w2 := w2) h hp hmb hr hm2 hg)
  have hfx := h.rng _ hx
  have MK := Lib.hid (And.intro hmb (And.intro hown (And.intro him hat)))
  clear h hx h1 hp hh hmb hown him hat hi
  generalize hxe : at' L i = x at *
  have HXE := Lib.hid hxe
  clear hxe
  obtain ⟨xb, xi, xp, xt⟩ := x
  simp only at c3 hfx
  go_enter Try.func34, Try.ntmps34
  go_wp2_with fail
  refine wp_region_held_drew (S := fun _ => True) mixed trivial (fun hS => ?_)
  show wpAnyH _ _ _ _ _ 9 (Array.replicate 9 false) _ _
  refine wpAnyH_take_d 0 (some 4) (.pointer (some ⟨qb, 0, none⟩)) rfl (by kernel_rfl) (by kernel_rfl) (by kernel_rfl) (by kernel_rfl) rfl (fun _ _ _ h => h) (fun _ _ => by kernel_rfl) (by exact hS) ?_
  simp only [Act.put, List.setIfInBounds_toArray, List.set_cons_succ, List.set_cons_zero]
  refine wpAnyH_take_d 1 (some 5) (.pointer (some ⟨qb, 0, none⟩)) rfl (by kernel_rfl) (by kernel_rfl) (by kernel_rfl) (by kernel_rfl) rfl (fun _ _ _ h => h) (fun _ _ => by kernel_rfl) (by exact hS) ?_
  simp only [Act.put, List.setIfInBounds_toArray, List.set_cons_succ, List.set_cons_zero]
  refine wpAnyH_take_d 2 (some 6) (.pointer (some ⟨qb, 0, none⟩)) rfl (by kernel_rfl) (by kernel_rfl) (by kernel_rfl) (by kernel_rfl) rfl (fun _ _ _ h => h) (fun _ _ => by kernel_rfl) (by exact hS) ?_
  simp only [Act.put, List.setIfInBounds_toArray, List.set_cons_succ, List.set_cons_zero]
  refine wpAnyH_take_d 3 (some 7) (lineI qb) rfl (by kernel_rfl) (by kernel_rfl) (by kernel_rfl) (by kernel_rfl) rfl (fun _ _ _ h => h) (fun _ _ => by kernel_rfl) (by exact hS) ?_
  simp only [Act.put, List.setIfInBounds_toArray, List.set_cons_succ, List.set_cons_zero]
  refine wpAnyH_take_d 4 (some 8) (.pointer (some ⟨xb, 0, none⟩)) rfl (by kernel_rfl) (by kernel_rfl) (by kernel_rfl) (by kernel_rfl) rfl (fun _ _ _ h => h) (fun _ _ => by kernel_rfl) (by exact hS) ?_
  simp only [Act.put, List.setIfInBounds_toArray, List.set_cons_succ, List.set_cons_zero]
  refine wpAnyH_take_d 5 (some 9) (.pointer (some ⟨xb, 0, none⟩)) rfl (by kernel_rfl) (by kernel_rfl) (by kernel_rfl) (by kernel_rfl) rfl (fun _ _ _ h => h) (fun _ _ => by kernel_rfl) (by exact hS) ?_
  simp only [Act.put, List.setIfInBounds_toArray, List.set_cons_succ, List.set_cons_zero]
  refine wpAnyH_take_d 6 (some 10) (.pointer (some ⟨xb, 3, none⟩)) rfl (by kernel_rfl) (by kernel_rfl) (by kernel_rfl) (by kernel_rfl) rfl (fun _ _ _ h => h) (fun _ _ => by kernel_rfl) (by exact hS) ?_
  simp only [Act.put, List.setIfInBounds_toArray, List.set_cons_succ, List.set_cons_zero]
  refine wpAnyH_one 7 (some 11) (.int .i64 i) rfl (by kernel_rfl) (by kernel_rfl) rfl (exec_load_cell rfl rfl c3 Try.underlying3 rfl) (by exact hS) ?_
  simp only [Act.put, List.setIfInBounds_toArray, List.set_cons_succ, List.set_cons_zero]
  refine wpAnyH_call 8 (some 12) 50 #[lineI qb, .int .i64 i] rfl (by kernel_rfl) (by kernel_rfl) rfl (by kernel_rfl) R.out ?_
  intro e w1 hr0
  have hr : RemPost (XM X (.map (some mb))) w qb (.map (some mb)) pu L i e w1 := by
    obtain ⟨v, L', e1, e2, e3, e4, e5, e6⟩ := hr0
    exact ⟨v, L', e1, e2, e3, e4, ⟨e5.os, e5.tape, e5.output, e5.size, e5.keep⟩, e6⟩
  have HR := Lib.hid hr
  obtain ⟨v, L', rfl, h1, -, -, k1, c0⟩ := hr
  rw [HXE.out] at c0
  refine ⟨v, rfl, trivial, ?_⟩
  simp only [Act.put, List.setIfInBounds_toArray, List.set_cons_succ, List.set_cons_zero]
  refine wpAnyH_done (by kernel_rfl) ?_ _
  have cm := h1.cells.1
  obtain ⟨hmb, hown, him, hat⟩ := MK.out
  have hown1 : w1.drew.ownsMap Try.prog 3 vR mb N D := by
    obtain ⟨es, c, hb, r⟩ := hown
    exact ⟨es, c, k1.keep _ _ (Or.inr rfl) hb, r⟩
  obtain ⟨w2, hrun, hmq, hg⟩ := map_del (X := X) (w := w1.drew) hmb hown1 hat hfx 0
  have FIN := Lib.hid (P.out _ w1 w2 HR.out hmq ⟨hg.os, hg.tape, hg.output, hg.size, hg.block⟩)
  have d0 : w2.cell? ⟨xb, 0, none⟩ = some (.int .i64 xi) := by
    have := World.block_lt_of_cell? _ _ c0
    have hmx : xb ≠ mb := by
      rintro rfl
      obtain ⟨es, c, hb, _⟩ := hown1
      have hb' : w1.heap[xb]? = some (.map es c) := hb
      simp [World.cell?, hb'] at c0
    rw [World.cell?_of_block (w := w1.drew) (a := ⟨xb, 0, none⟩) (hg.block xb this (fun e => by cases e; exact hmx rfl))]; exact c0
  have dm : w2.cell? ⟨qb, 1, none⟩ = some (.map (some mb)) := by
    have := World.block_lt_of_cell? _ _ cm
    have hmx : qb ≠ mb := by
      rintro rfl
      obtain ⟨es, c, hb, _⟩ := hown1
      have hb' : w1.heap[qb]? = some (.map es c) := hb
      simp [World.cell?, hb'] at cm
    rw [World.cell?_of_block (w := w1.drew) (a := ⟨qb, 1, none⟩) (hg.block qb this (fun e => by cases e; exact hmx rfl))]; exact cm
  clear hr0 HR P MK R h1 k1 hown hown1 him hat hmq hg c3 hfx HXE hS
  go_wp2_with fail
  have hS : w1.drew.cell? ⟨qb, 1, none⟩ = some (.map (some mb)) ∧ w1.drew.cell? ⟨xb, 0, none⟩ = some (.int .i64 xi) := ⟨cm, c0⟩
  refine wp_region_held_drew (S := fun w' => w'.cell? ⟨qb, 1, none⟩ = some (.map (some mb)) ∧ w'.cell? ⟨xb, 0, none⟩ = some (.int .i64 xi)) mixed hS (fun _ => ?_)
  show wpAnyH _ _ _ _ _ 10 (Array.replicate 10 false) _ _
  refine wpAnyH_take_d 0 (some 13) (.pointer (some ⟨qb, 0, none⟩)) rfl (by kernel_rfl) (by kernel_rfl) (by kernel_rfl) (by kernel_rfl) rfl (fun _ _ _ h => h) (fun _ _ => by kernel_rfl) (by exact hS) ?_
  simp only [Act.put, List.setIfInBounds_toArray, List.set_cons_succ, List.set_cons_zero]
  refine wpAnyH_take_d 1 (some 14) (.pointer (some ⟨qb, 0, none⟩)) rfl (by kernel_rfl) (by kernel_rfl) (by kernel_rfl) (by kernel_rfl) rfl (fun _ _ _ h => h) (fun _ _ => by kernel_rfl) (by exact hS) ?_
  simp only [Act.put, List.setIfInBounds_toArray, List.set_cons_succ, List.set_cons_zero]
  refine wpAnyH_take_d 2 (some 15) (.pointer (some ⟨qb, 1, none⟩)) rfl (by kernel_rfl) (by kernel_rfl) (by kernel_rfl) (by kernel_rfl) rfl (fun _ _ _ h => h) (fun _ _ => by kernel_rfl) (by exact hS) ?_
  simp only [Act.put, List.setIfInBounds_toArray, List.set_cons_succ, List.set_cons_zero]
  refine wpAnyH_take_d 3 (some 16) (.map (some mb)) rfl (by kernel_rfl) (by kernel_rfl) (by kernel_rfl) (by kernel_rfl) rfl (fun _ _ _ h => h) (fun w' h => exec_load_cell rfl rfl h.1 Try.underlying57 rfl) (by exact hS) ?_
  simp only [Act.put, List.setIfInBounds_toArray, List.set_cons_succ, List.set_cons_zero]
  refine wpAnyH_take_d 4 (some 17) (.pointer (some ⟨xb, 0, none⟩)) rfl (by kernel_rfl) (by kernel_rfl) (by kernel_rfl) (by kernel_rfl) rfl (fun _ _ _ h => h) (fun _ _ => by kernel_rfl) (by exact hS) ?_
  simp only [Act.put, List.setIfInBounds_toArray, List.set_cons_succ, List.set_cons_zero]
  refine wpAnyH_take_d 5 (some 18) (.pointer (some ⟨xb, 0, none⟩)) rfl (by kernel_rfl) (by kernel_rfl) (by kernel_rfl) (by kernel_rfl) rfl (fun _ _ _ h => h) (fun _ _ => by kernel_rfl) (by exact hS) ?_
  simp only [Act.put, List.setIfInBounds_toArray, List.set_cons_succ, List.set_cons_zero]
  refine wpAnyH_take_d 6 (some 19) (.pointer (some ⟨xb, 0, none⟩)) rfl (by kernel_rfl) (by kernel_rfl) (by kernel_rfl) (by kernel_rfl) rfl (fun _ _ _ h => h) (fun _ _ => by kernel_rfl) (by exact hS) ?_
  simp only [Act.put, List.setIfInBounds_toArray, List.set_cons_succ, List.set_cons_zero]
  refine wpAnyH_take_d 7 (some 20) (.pointer (some ⟨xb, 0, none⟩)) rfl (by kernel_rfl) (by kernel_rfl) (by kernel_rfl) (by kernel_rfl) rfl (fun _ _ _ h => h) (fun _ _ => by kernel_rfl) (by exact hS) ?_
  simp only [Act.put, List.setIfInBounds_toArray, List.set_cons_succ, List.set_cons_zero]
  refine wpAnyH_take_d 8 (some 21) (.int .i64 xi) rfl (by kernel_rfl) (by kernel_rfl) (by kernel_rfl) (by kernel_rfl) rfl (fun _ _ _ h => h) (fun w' h => exec_load_cell rfl rfl h.2 Try.underlying3 rfl) (by exact hS) ?_
  simp only [Act.put, List.setIfInBounds_toArray, List.set_cons_succ, List.set_cons_zero]
  have hS : w2.cell? ⟨qb, 1, none⟩ = some (.map (some mb)) ∧ w2.cell? ⟨xb, 0, none⟩ = some (.int .i64 xi) := ⟨dm, d0⟩
  refine wpAnyH_one 9 none (.tuple #[]) rfl (by kernel_rfl) (by kernel_rfl) rfl (exec_delete rfl rfl rfl hrun) (by exact hS) ?_
  simp only [Act.put, List.setIfInBounds_toArray, List.set_cons_succ, List.set_cons_zero]
  refine wpAnyH_done (by kernel_rfl) ?_ _
  clear hrun hS d0 dm cm c0
  go_wp2
  go_end0
  exact ⟨rfl, FIN.out⟩
end Go.Proofs.Ytegloiojhimoeaa
