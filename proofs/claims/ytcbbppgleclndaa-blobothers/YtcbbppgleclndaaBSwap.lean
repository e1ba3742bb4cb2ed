/- The contracts of the store's change and Swap. No statement of the seat is proved here. -/
import Derived.Test.YtcbbppgleclndaaBScript
namespace Go.Proofs.Ytcbbppgleclndaa
open Go.RowKit

/-- What a call that changes answers, and what it leaves. -/
def errOf (o e : Int) : Int := if o = 0 then e else 15
def Sto.after (s t : Sto) : Sto := if s.out = 1 then s.took else t

set_option maxHeartbeats 400000 in
theorem change_any {X : Nat → Prop} {w : World} {sb : Nat} {s t : Sto} {N N' : Nat} (h : StoAt X w sb s N) (hc : s.calls < 4611686018427387904) (hN : N ≤ N') {f : FuncId} {caps : Array Value} {en : Int} (hcf : ∀ w1, (callFunc f caps).run Try.prog w1 = .ok (.enter f caps) w1)
    (hdo : ∀ w1, StoAt X w1 sb s.took N → Kp X w w1 → Calls Try.prog f caps w1 fun e w2 => e = .returned (.int .i64 en) ∧ StoAt X w2 sb t N' ∧ Kp X w1 w2) :
    Calls Try.prog 34 #[.pointer (some ⟨sb, 0, none⟩), .func (.func f) #[] caps] w fun e w' => e = .returned (.int .i64 (errOf s.out en)) ∧ StoAt X w' sb (s.after t) N' ∧ Kp X w w' := by
  go_enter Try.func34, Try.ntmps34
  go_wp2_with fail
  refine (take_any h hc).mono ?_
  rintro e w1 ⟨rfl, h1, k1⟩
  have HD := Lib.hid (hdo w1 h1 k1)
  have H1 := Lib.hid h1
  have K1 := Lib.hid k1
  have HCF := Lib.hid (hcf w1)
  clear hdo h1 k1 h hcf
  rcases out_range s with hq | hq | hq
  · have he : errOf s.out en = en := by unfold errOf; rw [hq]; rfl
    have ha : s.after t = t := by unfold Sto.after; rw [hq]; rfl
    have HE := Lib.hid he
    have HA := Lib.hid ha
    clear he ha
    rw [hq]
    go_wp2_with fail
    rw [HCF.out, Oper.upon_enter]
    refine HD.out.mono ?_
    rintro e w2 ⟨rfl, h2, k2⟩
    go_wp2
    go_ret
    exact ⟨by rw [HE.out]; rfl, by rw [HA.out]; exact h2, K1.out.trans k2⟩
  · have he : errOf s.out en = 15 := by unfold errOf; rw [hq]; rfl
    have ha : s.after t = s.took := by unfold Sto.after; rw [hq]; rfl
    have HE := Lib.hid he
    have HA := Lib.hid ha
    clear he ha
    rw [hq]
    go_wp2
    go_ret
    exact ⟨by rw [HE.out]; rfl, by rw [HA.out]; exact H1.out.more hN, K1.out⟩
  · have he : errOf s.out en = 15 := by unfold errOf; rw [hq]; rfl
    have ha : s.after t = t := by unfold Sto.after; rw [hq]; rfl
    have HE := Lib.hid he
    have HA := Lib.hid ha
    clear he ha
    rw [hq]
    go_wp2_with fail
    rw [HCF.out, Oper.upon_enter]
    refine HD.out.mono ?_
    rintro e w2 ⟨rfl, h2, k2⟩
    go_wp2
    go_ret
    exact ⟨by rw [HE.out]; rfl, by rw [HA.out]; exact h2, K1.out.trans k2⟩

/-! ### Swap -/
def Sto.swapped (s : Sto) (v : Int) (name : ByteArray) : Sto := if v = s.version then { s with version := s.version + 1, root := name } else s
def swapErr (s : Sto) (v : Int) : Int := if v = s.version then 0 else 17
set_option maxHeartbeats 400000 in
theorem swap1_any {X : Nat → Prop} {w : World} {sb : Nat} {s : Sto} {N : Nat} (h : StoAt X w sb s N) (hv : s.version < 4611686018427387904) {p1 p2 p3 : Addr} {v : Int} {name : ByteArray} (hn : name.size ≤ maxLen)
    (x1 : X p1.block) (c1 : w.cell? p1 = some (.int .i64 v)) (x2 : X p2.block) (c2 : w.cell? p2 = some (.pointer (some ⟨sb, 0, none⟩))) (x3 : X p3.block) (c3 : w.cell? p3 = some (.string name)) :
    Calls Try.prog 36 #[.pointer (some p1), .pointer (some p2), .pointer (some p3)] w fun e w' => e = .returned (.int .i64 (swapErr s v)) ∧ StoAt X w' sb (s.swapped v name) N ∧ Kp X w w' := by
  obtain ⟨mv, ov, b1, -, o1⟩ := h.box'
  have d1 : w.cell? ⟨sb, 1, none⟩ = some (.int .i64 s.version) := cell_row b1 1 rfl
  have n2 : p2 ≠ ⟨sb, 1, none⟩ := fun e => h.out (by rw [e] at x2; exact x2)
  have n3 : p3 ≠ ⟨sb, 1, none⟩ := fun e => h.out (by rw [e] at x3; exact x3)
  have n2' := n2.symm
  have n3' := n3.symm
  by_cases hq : v = s.version
  · have hb : ((v : Int) != (s.version : Int)) = false := by simp [hq]
    have E1 := Lib.hid (show swapErr s v = 0 by simp [swapErr, hq])
    have E2 := Lib.hid (show s.swapped v name = { s with version := s.version + 1, root := name } by simp [Sto.swapped, hq])
    obtain ⟨s1, k1⟩ := h.set (s' := { s with version := s.version + 1 }) b1 1 (.int .i64 ((s.version : Int) + 1)) ov (by simp) rfl h.rng o1
    have b2 := heap_setCell_same w sb 1 _ _ (.int .i64 ((s.version : Int) + 1)) b1
    have b2' : (w.setCell ⟨sb, 1, none⟩ (.int .i64 ((s.version : Int) + 1))).heap[sb]? = some (.cells #[mv, .int .i64 ((s.version + 1 : Nat) : Int), .string s.root, ov, .int .i64 s.calls] 55 (0, 0)) := by rw [b2]; simp
    obtain ⟨s2, k2⟩ := s1.set (s' := { s with version := s.version + 1, root := name }) b2' 2 (.string name) ov (by simp) rfl h.rng (o1.set b1 1 _)
    have FIN := Lib.hid (And.intro s2.drew (k1.trans k2).drew)
    have d2 : w.cell? ⟨sb, 2, none⟩ = some (.string s.root) := cell_row b1 2 rfl
    have f1 := free_row b1 1
    have f2 := free_row b1 2
    have HW := Lib.hid (wrap_calls hv)
    clear s1 k1 b2 b2' s2 k2 b1 o1 h
    go_enter Try.func36, Try.ntmps36
    go_wp2_with fail
    have hS : w.drew = w.drew := rfl
    refine wp_region_held_drew (S := fun w' => w' = w.drew) mixed hS (fun _ => ?_)
    show wpAnyH _ _ _ _ _ 6 (Array.replicate 6 false) _ _
    refine wpAnyH_take_d 0 (some 4) (.int .i64 v) rfl (by kernel_rfl) (by kernel_rfl) (by kernel_rfl) (by kernel_rfl) rfl (fun _ _ _ h => h) (fun w' h => by subst h; exact exec_load_cell rfl rfl c1 Try.underlying3 rfl) (by exact hS) ?_
    simp only [Act.put, List.setIfInBounds_toArray, List.set_cons_succ, List.set_cons_zero]
    refine wpAnyH_take_d 1 (some 5) (.pointer (some ⟨sb, 0, none⟩)) rfl (by kernel_rfl) (by kernel_rfl) (by kernel_rfl) (by kernel_rfl) rfl (fun _ _ _ h => h) (fun w' h => by subst h; exact exec_load_cell rfl rfl c2 Try.underlying24 rfl) (by exact hS) ?_
    simp only [Act.put, List.setIfInBounds_toArray, List.set_cons_succ, List.set_cons_zero]
    refine wpAnyH_take_d 2 (some 6) (.pointer (some ⟨sb, 0, none⟩)) rfl (by kernel_rfl) (by kernel_rfl) (by kernel_rfl) (by kernel_rfl) rfl (fun _ _ _ h => h) (fun _ _ => by kernel_rfl) (by exact hS) ?_
    simp only [Act.put, List.setIfInBounds_toArray, List.set_cons_succ, List.set_cons_zero]
    refine wpAnyH_take_d 3 (some 7) (.pointer (some ⟨sb, 1, none⟩)) rfl (by kernel_rfl) (by kernel_rfl) (by kernel_rfl) (by kernel_rfl) rfl (fun _ _ _ h => h) (fun _ _ => by kernel_rfl) (by exact hS) ?_
    simp only [Act.put, List.setIfInBounds_toArray, List.set_cons_succ, List.set_cons_zero]
    refine wpAnyH_take_d 4 (some 8) (.int .i64 s.version) rfl (by kernel_rfl) (by kernel_rfl) (by kernel_rfl) (by kernel_rfl) rfl (fun _ _ _ h => h) (fun w' h => by subst h; exact exec_load_cell rfl rfl d1 Try.underlying3 rfl) (by exact hS) ?_
    simp only [Act.put, List.setIfInBounds_toArray, List.set_cons_succ, List.set_cons_zero]
    refine wpAnyH_take_d 5 (some 9) (.bool (v != (s.version : Int))) rfl (by kernel_rfl) (by kernel_rfl) (by kernel_rfl) (by kernel_rfl) rfl (fun _ _ _ h => h) (fun _ _ => by kernel_rfl) (by exact hS) ?_
    simp only [Act.put, List.setIfInBounds_toArray, List.set_cons_succ, List.set_cons_zero]
    refine wpAnyH_done (by kernel_rfl) ?_ _
    rw [hb]
    clear hb
    subst hq
    go_wp2
    go_ret
    exact ⟨by rw [E1.out]; rfl, by rw [E2.out]; exact FIN.out⟩
  · have hb : ((v : Int) != (s.version : Int)) = true := by simp [hq]
    have E1 := Lib.hid (show swapErr s v = 17 by simp [swapErr, hq])
    have E2 := Lib.hid (show s.swapped v name = s by simp [Sto.swapped, hq])
    have H := Lib.hid h
    clear h b1 o1 hq
    go_enter Try.func36, Try.ntmps36
    go_wp2_with fail
    have hS : w.drew = w.drew := rfl
    refine wp_region_held_drew (S := fun w' => w' = w.drew) mixed hS (fun _ => ?_)
    show wpAnyH _ _ _ _ _ 6 (Array.replicate 6 false) _ _
    refine wpAnyH_take_d 0 (some 4) (.int .i64 v) rfl (by kernel_rfl) (by kernel_rfl) (by kernel_rfl) (by kernel_rfl) rfl (fun _ _ _ h => h) (fun w' h => by subst h; exact exec_load_cell rfl rfl c1 Try.underlying3 rfl) (by exact hS) ?_
    simp only [Act.put, List.setIfInBounds_toArray, List.set_cons_succ, List.set_cons_zero]
    refine wpAnyH_take_d 1 (some 5) (.pointer (some ⟨sb, 0, none⟩)) rfl (by kernel_rfl) (by kernel_rfl) (by kernel_rfl) (by kernel_rfl) rfl (fun _ _ _ h => h) (fun w' h => by subst h; exact exec_load_cell rfl rfl c2 Try.underlying24 rfl) (by exact hS) ?_
    simp only [Act.put, List.setIfInBounds_toArray, List.set_cons_succ, List.set_cons_zero]
    refine wpAnyH_take_d 2 (some 6) (.pointer (some ⟨sb, 0, none⟩)) rfl (by kernel_rfl) (by kernel_rfl) (by kernel_rfl) (by kernel_rfl) rfl (fun _ _ _ h => h) (fun _ _ => by kernel_rfl) (by exact hS) ?_
    simp only [Act.put, List.setIfInBounds_toArray, List.set_cons_succ, List.set_cons_zero]
    refine wpAnyH_take_d 3 (some 7) (.pointer (some ⟨sb, 1, none⟩)) rfl (by kernel_rfl) (by kernel_rfl) (by kernel_rfl) (by kernel_rfl) rfl (fun _ _ _ h => h) (fun _ _ => by kernel_rfl) (by exact hS) ?_
    simp only [Act.put, List.setIfInBounds_toArray, List.set_cons_succ, List.set_cons_zero]
    refine wpAnyH_take_d 4 (some 8) (.int .i64 s.version) rfl (by kernel_rfl) (by kernel_rfl) (by kernel_rfl) (by kernel_rfl) rfl (fun _ _ _ h => h) (fun w' h => by subst h; exact exec_load_cell rfl rfl d1 Try.underlying3 rfl) (by exact hS) ?_
    simp only [Act.put, List.setIfInBounds_toArray, List.set_cons_succ, List.set_cons_zero]
    refine wpAnyH_take_d 5 (some 9) (.bool (v != (s.version : Int))) rfl (by kernel_rfl) (by kernel_rfl) (by kernel_rfl) (by kernel_rfl) rfl (fun _ _ _ h => h) (fun _ _ => by kernel_rfl) (by exact hS) ?_
    simp only [Act.put, List.setIfInBounds_toArray, List.set_cons_succ, List.set_cons_zero]
    refine wpAnyH_done (by kernel_rfl) ?_ _
    rw [hb]
    go_wp2
    go_ret
    exact ⟨by rw [E1.out]; rfl, by rw [E2.out]; exact H.out.drew, (Kp.refl _ _).drew⟩

/-- Behind a call's own new blocks: the wider set of what stays. -/
def Wd (X : Nat → Prop) (n m : Nat) : Nat → Prop := fun k => X k ∨ (n ≤ k ∧ k < m)
theorem StoAt.wd {X : Nat → Prop} {w w' : World} {sb : Nat} {s : Sto} {N : Nat} (h : StoAt X w sb s N) (hb : Below w.heap.size w w') : StoAt (Wd X w.heap.size w'.heap.size) w' sb s N := h.wider hb
theorem StoAt.unwd {X : Nat → Prop} {n m : Nat} {w : World} {sb : Nat} {s : Sto} {N : Nat} (h : StoAt (Wd X n m) w sb s N) : StoAt X w sb s N := h.less (fun _ => Or.inl)
theorem Kp.unwd {X : Nat → Prop} {n m : Nat} {w w' : World} (h : Kp (Wd X n m) w w') : Kp X w w' := h.mono (fun _ => Or.inl)

theorem wd_in {X : Nat → Prop} {n m k : Nat} (h1 : n ≤ k) (h2 : k < m) : Wd X n m k := Or.inr ⟨h1, h2⟩
theorem box_new (w : World) (v : Value) (t : TypeId) : (w.alloc (.cells #[v] t)).cell? ⟨w.heap.size, 0, none⟩ = some v := cell_row (heap_alloc_new w _) 0 rfl
theorem box_old {w : World} {p : Addr} {v : Value} (o : Obj) (h : w.cell? p = some v) : (w.alloc o).cell? p = some v := (World.cell?_alloc_lt _ _ _ (World.block_lt_of_cell? w p h)).trans h
/-- Three boxes of a call's own. -/
theorem three_boxes (w : World) (v1 v2 v3 : Value) (t1 t2 t3 : TypeId) {w3 : World} (h : ((w.alloc (.cells #[v1] t1)).alloc (.cells #[v2] t2)).alloc (.cells #[v3] t3) = w3) :
    Below w.heap.size w w3 ∧ w3.heap.size = w.heap.size + 3 ∧ w3.cell? ⟨w.heap.size, 0, none⟩ = some v1 ∧ w3.cell? ⟨w.heap.size + 1, 0, none⟩ = some v2 ∧ w3.cell? ⟨w.heap.size + 1 + 1, 0, none⟩ = some v3 := by
  subst h
  have s1 : (w.alloc (.cells #[v1] t1)).heap.size = w.heap.size + 1 := by simp
  have s2 : ((w.alloc (.cells #[v1] t1)).alloc (.cells #[v2] t2)).heap.size = w.heap.size + 1 + 1 := by simp
  refine ⟨(((Below.refl _ _).alloc (Nat.le_refl _) _).alloc (by simp) _).alloc (by simp; omega) _, by simp, box_old _ (box_old _ (box_new _ _ _)), box_old _ ?_, ?_⟩
  · have := box_new (w.alloc (.cells #[v1] t1)) v2 t2; rw [s1] at this; exact this
  · have := box_new ((w.alloc (.cells #[v1] t1)).alloc (.cells #[v2] t2)) v3 t3; rw [s2] at this; exact this
def Sto.swap (s : Sto) (v : Int) (name : ByteArray) : Sto := if nameB name.data.toList then s.after (s.took.swapped v name) else s
def Sto.swapE (s : Sto) (v : Int) (name : ByteArray) : Int := if nameB name.data.toList then errOf s.out (swapErr s v) else 6
set_option maxRecDepth 20000 in
set_option maxHeartbeats 400000 in
theorem swap_any {X : Nat → Prop} {w : World} {sb : Nat} {s : Sto} {N : Nat} (h : StoAt X w sb s N) (hc : s.calls < 4611686018427387904) (hv : s.version < 4611686018427387904) (v : Int) (name : ByteArray) (hn : name.size ≤ maxLen) :
    Calls Try.prog 18 #[.pointer (some ⟨sb, 0, none⟩), .int .i64 v, .string name] w fun e w' => e = .returned (.int .i64 (s.swapE v name)) ∧ StoAt X w' sb (s.swap v name) N ∧ Kp X w w' := by
  obtain ⟨b, hb⟩ : ∃ b, nameB name.data.toList = b := ⟨_, rfl⟩
  have HR : Hid (refuseN name = if b then 0 else 6) := by show _ = _; unfold refuseN; rw [hb]
  have HE : Hid (s.swapE v name = if b then errOf s.out (swapErr s v) else 6) := by show _ = _; unfold Sto.swapE; rw [hb]
  have HA : Hid (s.swap v name = if b then s.after (s.took.swapped v name) else s) := by show _ = _; unfold Sto.swap; rw [hb]
  clear hb
  go_enter Try.func18, Try.ntmps18
  go_wp2_with fail
  refine (refuse_any name hn).mono ?_
  rintro e w3 ⟨rfl, hw3⟩
  obtain ⟨hbl, hsz, c1, c2, c3⟩ := three_boxes _ _ _ _ _ _ _ hw3
  clear hw3
  rw [HR.out]
  cases b
  · have H := Lib.hid h
    have HB := Lib.hid hbl
    clear h hbl
    go_wp2
    go_ret
    exact ⟨by rw [HE.out]; rfl, by rw [HA.out]; exact H.out.below HB.out, Kp.of_below HB.out⟩
  · have h3 := h.wd hbl
    rw [hsz] at h3
    have ch := change_any (w := w3) (t := s.took.swapped v name) (N' := N) h3 hc (Nat.le_refl _) (f := 36) (caps := #[.pointer (some ⟨w.heap.size + 1, 0, none⟩), .pointer (some ⟨w.heap.size, 0, none⟩), .pointer (some ⟨w.heap.size + 1 + 1, 0, none⟩)]) (en := swapErr s v) (fun w1 => by kernel_rfl)
      (fun w1 hs1 hk1 => swap1_any hs1 hv hn (p1 := ⟨w.heap.size + 1, 0, none⟩) (p2 := ⟨w.heap.size, 0, none⟩) (p3 := ⟨w.heap.size + 1 + 1, 0, none⟩)
        (wd_in (k := w.heap.size + 1) (by omega) (by omega)) (hk1.cell (wd_in (k := w.heap.size + 1) (by omega) (by omega)) c2) (wd_in (k := w.heap.size) (by omega) (by omega)) (hk1.cell (wd_in (k := w.heap.size) (by omega) (by omega)) c1)
        (wd_in (k := w.heap.size + 1 + 1) (by omega) (by omega)) (hk1.cell (wd_in (k := w.heap.size + 1 + 1) (by omega) (by omega)) c3))
    have CH := Lib.hid ch
    have HB := Lib.hid hbl
    clear ch hbl h3 h hsz
    go_wp2_with fail
    refine CH.out.mono ?_
    rintro e w4 ⟨rfl, h4, k4⟩
    go_wp2
    go_ret
    exact ⟨by rw [HE.out]; rfl, by rw [HA.out]; exact h4.unwd, (Kp.of_below HB.out).trans k4.unwd⟩
set_option maxHeartbeats 400000 in
theorem swap_nil (w : World) (v : Int) (name : ByteArray) : Calls Try.prog 18 #[.pointer none, .int .i64 v, .string name] w fun e w' => e = .returned (.int .i64 1) ∧ Below w.heap.size w w' := by
  go_enter Try.func18, Try.ntmps18
  go_wp2_with fail
  refine (refuse_nil _ _).mono ?_
  rintro e w3 ⟨rfl, hw3⟩
  obtain ⟨hbl, hsz, c1, c2, c3⟩ := three_boxes _ _ _ _ _ _ _ hw3
  clear hw3
  go_wp2
  go_ret
  exact ⟨rfl, hbl⟩
end Go.Proofs.Ytcbbppgleclndaa
