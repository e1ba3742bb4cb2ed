/- The contract of the store's Delete. No statement of the seat is proved here. -/
import Derived.Test.YtcbbppgleclndaaBGet
namespace Go.Proofs.Ytcbbppgleclndaa
open Go.RowKit

theorem exec_delete {P : Program} {w w1 : World} {ρ : Operand → Value} {o : Oper} {t k : TypeId} {m x : Operand} {mv key : Value} (ho : o.op = .call { callee := .builtin .delete, args := #[m, x], argTypes := #[t, k] }) (hm : ρ m = mv) (hx : ρ x = key)
    (hrun : (Builtin.delete_ #[t, k] o.type #[mv, key]).run P w = .ok (.tuple #[]) w1) : (execOp ρ o).run P w = .ok (.value (.tuple #[])) w1 := by
  unfold execOp
  simp only [ho, resolve, invoke, builtin, Sem.run_bind, Sem.run_pure, Result.andThen_ok, List.map_toArray, List.map_cons, List.map_nil, hm, hx, hrun]
def delF (f : List UInt8 → Option (List UInt8)) (k : List UInt8) : List UInt8 → Option (List UInt8) := fun k' => if k' = k then none else f k'
/-- What the deletion from the map makes of the store. -/
theorem del_end {X : Nat → Prop} {w : World} {sb : Nat} {s : Sto} {N : Nat} {mv ov : Value} (lt : ∀ k, X k → k < w.heap.size) (out : ¬ X sb) (rng : ∀ z ∈ s.outs, -9223372036854775808 ≤ z ∧ z ≤ 9223372036854775807)
    (h1 : w.heap[sb]? = some (.cells #[mv, .int .i64 s.version, .string s.root, ov, .int .i64 s.calls] 55 (0, 0))) (hmap : MapIs X w mv N s.blobs) (hov : OutsIs X w ov s.outs) {name : ByteArray} (hn : name.size ≤ maxLen) (ty : TypeId) :
    ∃ w', (Builtin.delete_ #[53, 9] ty #[mv, .string name]).run Try.prog w = .ok (.tuple #[]) w' ∧ StoAt X w' sb { s with blobs := delF s.blobs name.data.toList } N ∧ Kp X w w' ∧ ∀ (k : Nat) cs t f, w.heap[k]? = some (.cells cs t f) → w'.heap[k]? = some (.cells cs t f) := by
  rcases hmap with ⟨rfl, hz⟩ | ⟨mb, D, rfl, hX, ho, hm, hat⟩
  · refine ⟨w, Maps.drop_nil keyed9 Try.underlying53 (key_str hn) ty, ⟨lt, out, rng, .map none, ov, h1, Or.inl ⟨rfl, fun k => ?_⟩, hov⟩, Kp.refl _ _, fun _ _ _ _ h => h⟩
    show delF s.blobs name.data.toList k = none
    unfold delF
    split
    · rfl
    · exact hz k
  · have hes : ∃ es c, w.heap[mb]? = some (.map es c) := by obtain ⟨es, c, h, _⟩ := ho; exact ⟨es, c, h⟩
    obtain ⟨es, c, hes⟩ := hes
    obtain ⟨w', hrun, ho', ht⟩ := ho.drop keyed9 Try.underlying53 (key_str hn) ty
    have hg := ht.grown
    have hk : ∀ (k : Nat) cs t f, w.heap[k]? = some (.cells cs t f) → w'.heap[k]? = some (.cells cs t f) := fun k cs t f hh =>
      (hg.block k (lt_of_heap hh) (fun e => by cases e; rw [hes] at hh; cases hh)).trans hh
    refine ⟨w', hrun, ⟨fun k e => Nat.lt_of_lt_of_le (lt k e) hg.size, out, rng, .map (some mb), ov, hk _ _ _ _ h1, Or.inr ⟨mb, _, rfl, hX, ho', ho'.isMap, fun k => ?_⟩, ?_⟩, (Kp.refl _ _).grown hg (fun k e => by cases e; exact hX), hk⟩
    · show BlobAt _ _ _ _ (delF s.blobs name.data.toList k)
      unfold delF
      by_cases e : k = name.data.toList
      · subst e
        rw [if_pos rfl]
        exact Maps.has_del_same
      · rw [if_neg e]
        have hne : (Lit.string k) ≠ Lit.string name.data.toList := by simpa using e
        have := hat k
        cases hf : s.blobs k with
        | none => rw [hf] at this; exact (Maps.has_del_other hne).trans this
        | some bs' =>
          rw [hf] at this
          obtain ⟨g1, u, g2, ao, cap, g3, g4, g5⟩ := this
          refine ⟨(Maps.has_del_other hne).trans g1, u, fun z => (Maps.atKey_del_other hne _).trans (g2 z), ao, cap, g3, g4, fun h0 => ?_⟩
          obtain ⟨b, off, cs, fz, e1, e2, e3, e4⟩ := g5 h0
          exact ⟨b, off, cs, fz, e1, e2, hk _ _ _ _ e3, e4⟩
    · obtain ⟨ao, cap, g3, g4, g5, g6⟩ := hov
      refine ⟨ao, cap, g3, g4, g5, g6.imp_right ?_⟩
      rintro ⟨b, off, cs, e1, e2, e3, e4⟩
      exact ⟨b, off, cs, e1, e2, hk _ _ _ _ e3, e4⟩

set_option maxHeartbeats 400000 in
theorem delete1_any {X : Nat → Prop} {w : World} {sb : Nat} {s : Sto} {N : Nat} (h : StoAt X w sb s N) {p1 p2 : Addr} {name : ByteArray} (hn : name.size ≤ maxLen)
    (x1 : X p1.block) (c1 : w.cell? p1 = some (.pointer (some ⟨sb, 0, none⟩))) (x2 : X p2.block) (c2 : w.cell? p2 = some (.string name)) :
    Calls Try.prog 37 #[.pointer (some p1), .pointer (some p2)] w fun e w' => e = .returned (.int .i64 0) ∧ StoAt X w' sb { s with blobs := delF s.blobs name.data.toList } N ∧ Kp X w w' := by
  obtain ⟨lt, out, rng, mv, ov, b1, m1, o1⟩ := h.drew
  have d0 : w.drew.cell? ⟨sb, 0, none⟩ = some mv := cell_row b1 0 rfl
  obtain ⟨w6, hrun6, hst6, hkp6, hcs6⟩ := del_end lt out rng b1 m1 o1 hn 0
  have e0 : w6.cell? ⟨sb, 0, none⟩ = some mv := cell_row (hcs6 _ _ _ _ b1) 0 rfl
  have e1 : w6.cell? p1 = some (.pointer (some ⟨sb, 0, none⟩)) := hkp6.cell x1 c1
  have e2 : w6.cell? p2 = some (.string name) := hkp6.cell x2 c2
  have FIN := Lib.hid (And.intro hst6 ((Kp.refl X w).drew.trans hkp6))
  clear lt out rng b1 m1 o1 hst6 hkp6 hcs6 h
  go_enter Try.func37, Try.ntmps37
  go_wp2_with fail
  have hS : w.drew.cell? p1 = some (.pointer (some ⟨sb, 0, none⟩)) ∧ w.drew.cell? ⟨sb, 0, none⟩ = some mv ∧ w.drew.cell? p2 = some (.string name) := ⟨c1, d0, c2⟩
  refine wp_region_held_drew (S := fun w' => w'.cell? p1 = some (.pointer (some ⟨sb, 0, none⟩)) ∧ w'.cell? ⟨sb, 0, none⟩ = some mv ∧ w'.cell? p2 = some (.string name)) mixed hS (fun _ => ?_)
  show wpAnyH _ _ _ _ _ 6 (Array.replicate 6 false) _ _
  refine wpAnyH_take_d 0 (some 3) (.pointer (some ⟨sb, 0, none⟩)) rfl (by kernel_rfl) (by kernel_rfl) (by kernel_rfl) (by kernel_rfl) rfl (fun _ _ _ h => h) (fun w' h => exec_load_cell rfl rfl h.1 Try.underlying24 rfl) (by exact hS) ?_
  simp only [Act.put, List.setIfInBounds_toArray, List.set_cons_succ, List.set_cons_zero]
  refine wpAnyH_take_d 1 (some 4) (.pointer (some ⟨sb, 0, none⟩)) rfl (by kernel_rfl) (by kernel_rfl) (by kernel_rfl) (by kernel_rfl) rfl (fun _ _ _ h => h) (fun _ _ => by kernel_rfl) (by exact hS) ?_
  simp only [Act.put, List.setIfInBounds_toArray, List.set_cons_succ, List.set_cons_zero]
  refine wpAnyH_take_d 2 (some 5) (.pointer (some ⟨sb, 0, none⟩)) rfl (by kernel_rfl) (by kernel_rfl) (by kernel_rfl) (by kernel_rfl) rfl (fun _ _ _ h => h) (fun _ _ => by kernel_rfl) (by exact hS) ?_
  simp only [Act.put, List.setIfInBounds_toArray, List.set_cons_succ, List.set_cons_zero]
  refine wpAnyH_take_d 3 (some 6) (mv) rfl (by kernel_rfl) (by kernel_rfl) (by kernel_rfl) (by kernel_rfl) rfl (fun _ _ _ h => h) (fun w' h => exec_load_cell rfl rfl h.2.1 Try.underlying53 rfl) (by exact hS) ?_
  simp only [Act.put, List.setIfInBounds_toArray, List.set_cons_succ, List.set_cons_zero]
  refine wpAnyH_take_d 4 (some 7) (.string name) rfl (by kernel_rfl) (by kernel_rfl) (by kernel_rfl) (by kernel_rfl) rfl (fun _ _ _ h => h) (fun w' h => exec_load_cell rfl rfl h.2.2 Try.underlying9 rfl) (by exact hS) ?_
  simp only [Act.put, List.setIfInBounds_toArray, List.set_cons_succ, List.set_cons_zero]
  have hS : w6.cell? p1 = some (.pointer (some ⟨sb, 0, none⟩)) ∧ w6.cell? ⟨sb, 0, none⟩ = some mv ∧ w6.cell? p2 = some (.string name) := ⟨e1, e0, e2⟩
  refine wpAnyH_one 5 none (.tuple #[]) rfl (by kernel_rfl) (by kernel_rfl) rfl (exec_delete rfl rfl rfl hrun6) (by exact hS) ?_
  simp only [Act.put, List.setIfInBounds_toArray, List.set_cons_succ, List.set_cons_zero]
  refine wpAnyH_done (by kernel_rfl) ?_ _
  clear hrun6 hS e0 e1 e2 c1 c2 d0
  go_wp2
  go_ret
  exact ⟨rfl, FIN.out⟩

theorem two_boxes (w : World) (v1 v2 : Value) (t1 t2 : TypeId) {w3 : World} (h : (w.alloc (.cells #[v1] t1)).alloc (.cells #[v2] t2) = w3) :
    Below w.heap.size w w3 ∧ w3.heap.size = w.heap.size + 2 ∧ w3.cell? ⟨w.heap.size, 0, none⟩ = some v1 ∧ w3.cell? ⟨w.heap.size + 1, 0, none⟩ = some v2 := by
  subst h
  have s1 : (w.alloc (.cells #[v1] t1)).heap.size = w.heap.size + 1 := by simp
  refine ⟨((Below.refl _ _).alloc (Nat.le_refl _) _).alloc (by simp) _, by simp, box_old _ (box_new _ _ _), ?_⟩
  have := box_new (w.alloc (.cells #[v1] t1)) v2 t2; rw [s1] at this; exact this
def Sto.del (s : Sto) (name : ByteArray) : Sto := if nameB name.data.toList then s.after { s.took with blobs := delF s.blobs name.data.toList } else s
def Sto.delE (s : Sto) (name : ByteArray) : Int := if nameB name.data.toList then errOf s.out 0 else 6
set_option maxRecDepth 20000 in
set_option maxHeartbeats 400000 in
theorem delete_any {X : Nat → Prop} {w : World} {sb : Nat} {s : Sto} {N : Nat} (h : StoAt X w sb s N) (hc : s.calls < 4611686018427387904) (name : ByteArray) (hn : name.size ≤ maxLen) :
    Calls Try.prog 21 #[.pointer (some ⟨sb, 0, none⟩), .string name] w fun e w' => e = .returned (.int .i64 (s.delE name)) ∧ StoAt X w' sb (s.del name) N ∧ Kp X w w' := by
  obtain ⟨b, hb⟩ : ∃ b, nameB name.data.toList = b := ⟨_, rfl⟩
  have HR : Hid (refuseN name = if b then 0 else 6) := by show _ = _; unfold refuseN; rw [hb]
  have HE : Hid (s.delE name = if b then errOf s.out 0 else 6) := by show _ = _; unfold Sto.delE; rw [hb]
  have HA : Hid (s.del name = if b then s.after { s.took with blobs := delF s.blobs name.data.toList } else s) := by show _ = _; unfold Sto.del; rw [hb]
  clear hb
  go_enter Try.func21, Try.ntmps21
  go_wp2_with fail
  refine (refuse_any name hn).mono ?_
  rintro e w3 ⟨rfl, hw3⟩
  obtain ⟨hbl, hsz, c1, c2⟩ := two_boxes _ _ _ _ _ hw3
  clear hw3
  rw [HR.out]
  cases b
  · have H := Lib.hid h
    have HB := Lib.hid hbl
    clear h hbl
    go_wp2
    go_ret
    exact ⟨by rw [HE.out]; rfl, by rw [HA.out]; exact H.out.below HB.out, Kp.of_below HB.out⟩
  · have h3 := h.wd hbl
    rw [hsz] at h3
    have ch := change_any (w := w3) (t := { s.took with blobs := delF s.blobs name.data.toList }) (N' := N) h3 hc (Nat.le_refl _) (f := 37) (caps := #[.pointer (some ⟨w.heap.size, 0, none⟩), .pointer (some ⟨w.heap.size + 1, 0, none⟩)]) (en := 0) (fun w1 => by kernel_rfl)
      (fun w1 hs1 hk1 => delete1_any hs1 hn (p1 := ⟨w.heap.size, 0, none⟩) (p2 := ⟨w.heap.size + 1, 0, none⟩)
        (wd_in (k := w.heap.size) (by omega) (by omega)) (hk1.cell (wd_in (k := w.heap.size) (by omega) (by omega)) c1) (wd_in (k := w.heap.size + 1) (by omega) (by omega)) (hk1.cell (wd_in (k := w.heap.size + 1) (by omega) (by omega)) c2))
    have CH := Lib.hid ch
    have HB := Lib.hid hbl
    clear ch hbl h3 h hsz
    go_wp2_with fail
    refine CH.out.mono ?_
    rintro e w4 ⟨rfl, h4, k4⟩
    go_wp2
    go_ret
    exact ⟨by rw [HE.out]; rfl, by rw [HA.out]; exact h4.unwd, (Kp.of_below HB.out).trans k4.unwd⟩
end Go.Proofs.Ytcbbppgleclndaa
