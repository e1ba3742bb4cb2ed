/- The contracts of EncodeSuper, EncodeLog, EncodeHome. No statement of the seat is proved here. -/
import Derived.Test.YtmkomhdlcbimoaaRForm
import Derived.Test.YtmkomhdlcbimoaaRSec
namespace Go.Proofs.Ytmkomhdlcbimoaa
set_option maxRecDepth 20000
open Go.RowKit

theorem cell_new (w : World) (cs : Array Value) (t : TypeId) (j : Nat) (u : Value) (h : cs[j]? = some u) : (w.alloc (.cells cs t)).cell? ⟨w.heap.size, j, none⟩ = some u := by
  rw [cell_of_row _ _ _ _ _ _ (heap_alloc_new w _)]; exact h
theorem OwnB.base' {b b' : Nat} {w : World} {v : Value} {bs : List UInt8} (h : OwnB b w v bs) (hb : b' ≤ b) : OwnB b' w v bs :=
  ownsRow_base h (fun k hk => Nat.le_trans hb (World.ownsRow.lt h k hk).1)
section
variable {P : Program} {w w1 : World}
theorem exec_append3 {ρ : Operand → Value} {o : Oper} {t u : TypeId} {s x : Operand} {v0 v1 v : Value} (ho : o.op = .call { callee := .builtin .append, args := #[s, x], argTypes := #[t, u] }) (hs : ρ s = v0) (hx : ρ x = v1)
    (hrun : (Builtin.append_ #[t, u] o.type #[v0, v1]).run P w = .ok v w1) : (execOp ρ o).run P w = .ok (.value v) w1 := by
  unfold execOp
  simp only [ho, resolve, invoke, builtin, Sem.run_bind, Sem.run_pure, Result.andThen_ok, List.map_toArray, List.map_cons, List.map_nil, hs, hx, hrun]
theorem exec_b1 {ρ : Operand → Value} {o : Oper} {t : TypeId} {x : Operand} {u v : Value} (ho : o.op = .buildSlice t 1 #[(0, x)]) (hx : ρ x = u) (hrun : (Instr.buildSlice t 1 #[(0, u)]).run P w = .ok v w1) : (execOp ρ o).run P w = .ok (.value v) w1 := by
  unfold execOp
  simp [ho, hx, hrun]
theorem exec_b2 {ρ : Operand → Value} {o : Oper} {t : TypeId} {x y : Operand} {u u' v : Value} (ho : o.op = .buildSlice t 2 #[(0, x), (1, y)]) (hx : ρ x = u) (hy : ρ y = u') (hrun : (Instr.buildSlice t 2 #[(0, u), (1, u')]).run P w = .ok v w1) : (execOp ρ o).run P w = .ok (.value v) w1 := by
  unfold execOp
  simp [ho, hx, hy, hrun]
end
def esupE (g e t : Int) : Int := if superOk g e t then 0 else 2
def esupR (g e t : Int) : List UInt8 := if superOk g e t then sectB (superI g e t) else []
set_option maxHeartbeats 800000 in
theorem encodeSuper_any (g e t : Int) (h1 : inI g) (h2 : inI e) (h3 : inI t) (w : World) : Calls Try.prog 13 #[superV g e t] w (OwnRetE w.heap.size w (esupR g e t) (esupE g e t)) := by
  have hf := superFormed_any g e t (w.alloc (.cells #[.int .i64 g, .int .i64 e, .int .i64 t] 23))
  have B0 := below_new w (.cells #[.int .i64 g, .int .i64 e, .int .i64 t] 23)
  have c0 := cell_new w #[.int .i64 g, .int .i64 e, .int .i64 t] 23 0 _ rfl
  have c1 := cell_new w #[.int .i64 g, .int .i64 e, .int .i64 t] 23 1 _ rfl
  have c2 := cell_new w #[.int .i64 g, .int .i64 e, .int .i64 t] 23 2 _ rfl
  unfold esupR esupE
  cases hs : superOk g e t
  · rw [hs] at hf
    clear c0 c1 c2 hs
    go_enter Try.func13, Try.ntmps13
    go_wp2_with fail
    refine Calls.mono hf ?_
    rintro x w1 ⟨rfl, b1⟩
    clear hf
    go_wp2
    go_ret2
    exact ⟨_, rfl, OwnB.nil _ _, B0.trans (b1.mono B0.size)⟩
  · rw [hs] at hf
    clear hs
    go_enter Try.func13, Try.ntmps13
    go_wp2_with fail
    refine Calls.mono hf ?_
    rintro x w1 ⟨rfl, b1⟩
    have d0 := (b1.cell (by simp)).trans c0
    have d1 := (b1.cell (by simp)).trans c1
    have d2 := (b1.cell (by simp)).trans c2
    have BB := B0.trans (b1.mono B0.size)
    have hn := numbers_any (intc_new w1 [1, g, e, t] (by simp)) (by intro z hz; simp only [List.mem_cons, List.not_mem_nil, or_false] at hz; rcases hz with rfl | rfl | rfl | rfl <;> first | assumption | exact ⟨by decide, by decide⟩)
    have B2 := BB.trans ((below_new w1 (.cells #[.int .i64 1, .int .i64 g, .int .i64 e, .int .i64 t] 3)).mono BB.size)
    clear hf c0 c1 c2 b1 B0 BB
    go_wp2_with fail
    refine Calls.mono hn ?_
    rintro x w2 ⟨v2, rfl, h4, b2⟩
    have B3 := B2.trans (b2.mono B2.size)
    have hsec := sector_any (h4.items (superI_ok h1 h2 h3)) (encE_super g e t) (by show (packB (superI g e t)).length ≤ 250; rw [superI_len]; omega)
    obtain ⟨ao, m, cap, hv, hm⟩ := h4.form'
    subst hv
    clear hn h4 b2 d0 d1 d2
    go_wp2_with fail
    refine Calls.mono hsec ?_
    rintro x w3 ⟨v3, rfl, h5, b3⟩
    have B4 := B3.trans (b3.mono B3.size)
    obtain ⟨ao3, m3, cap3, hv3, hm3⟩ := h5.form'
    subst hv3
    clear hsec
    go_wp2
    go_ret2
    exact ⟨_, rfl, h5.base' B3.size, B4⟩

def elogE (l : Lg) : Int := if logOk l then 0 else 2
def elogR (l : Lg) : List UInt8 := if logOk l then sectB (logI l) else []
theorem txt_build (w : World) (s : ByteArray) : (Instr.buildSlice 74 1 #[(0, .agg #[.int .i64 2, .int .i64 0, .string s])]).run Try.prog w = .ok (.slice (some ⟨w.heap.size, 0, none⟩) 1 1) (w.alloc (.cells #[.int .i64 2, .int .i64 0, .string s] 77)) := build_slice_one w (txtI s)
set_option maxHeartbeats 1600000 in
theorem encodeLog_any (l : Lg) (hl : l.ok) (w : World) : Calls Try.prog 15 #[logVal l] w (OwnRetE w.heap.size w (elogR l) (elogE l)) := by
  have hf := logFormed_any l hl (w.alloc (.cells #[.int .i64 l.kind, .int .i64 l.epoch, .int .i64 l.seq, .int .i64 l.tx, .int .i64 l.index, .int .i64 l.count, .int .i64 l.page, .string l.data] 25))
  have hs0 : logOk l = true → l.data.size ≤ 160 := logOk_size
  have hok := logI_ok hl
  have hin : ∀ z ∈ [(2 : Int), l.kind, l.epoch, l.seq, l.tx, l.index, l.count, l.page], inI z := by
    obtain ⟨h1, h2, h3, h4, h5, h6, h7, h8⟩ := hl
    intro z hz; simp only [List.mem_cons, List.not_mem_nil, or_false] at hz
    rcases hz with rfl | rfl | rfl | rfl | rfl | rfl | rfl | rfl <;> first | assumption | exact ⟨by decide, by decide⟩
  have hd8 : l.data.size ≤ maxLen := hl.2.2.2.2.2.2.2
  clear hl
  unfold elogR elogE
  cases hs : logOk l
  · rw [hs] at hf
    clear hs hs0 hok hin
    obtain ⟨a, b, c, d, e, f, g, s⟩ := l
    have B0 := below_new w (.cells #[.int .i64 a, .int .i64 b, .int .i64 c, .int .i64 d, .int .i64 e, .int .i64 f, .int .i64 g, .string s] 25)
    go_enter Try.func15, Try.ntmps15
    go_wp2_with fail
    refine Calls.mono hf ?_
    rintro x w1 ⟨rfl, b1⟩
    clear hf
    go_wp2
    go_ret2
    exact ⟨_, rfl, OwnB.nil _ _, B0.trans (b1.mono B0.size)⟩
  · rw [hs] at hf
    have hsz := hs0 hs
    have hE := encE_log hsz
    have hP : (packB (logI l)).length ≤ 250 := by rw [logI_len]; omega
    have hsp : logI l = [2, l.kind, l.epoch, l.seq, l.tx, l.index, l.count, l.page].map numI ++ [txtI l.data] := rfl
    clear hs hs0 hsz
    generalize hL : logI l = L at *
    obtain ⟨a, b, c, d, e, f, g, s⟩ := l
    simp only at hsp hd8 hin
    have B0 := below_new w (.cells #[.int .i64 a, .int .i64 b, .int .i64 c, .int .i64 d, .int .i64 e, .int .i64 f, .int .i64 g, .string s] 25)
    have c0 := fun j u h => cell_new w #[.int .i64 a, .int .i64 b, .int .i64 c, .int .i64 d, .int .i64 e, .int .i64 f, .int .i64 g, .string s] 25 j u h
    have HO := Lib.hid hok
    have HI := Lib.hid hin
    clear hok hin hL
    go_enter Try.func15, Try.ntmps15
    go_wp2_with fail
    refine Calls.mono hf ?_
    rintro x w1 ⟨rfl, b1⟩
    have d0 := fun j u h => (b1.cell (p := ⟨w.heap.size, j, none⟩) (by simp)).trans (c0 j u h)
    have e0 := d0 0 _ rfl
    have e1 := d0 1 _ rfl
    have e2 := d0 2 _ rfl
    have e3 := d0 3 _ rfl
    have e4 := d0 4 _ rfl
    have e5 := d0 5 _ rfl
    have e6 := d0 6 _ rfl
    have e7 := d0 7 _ rfl
    have BB := B0.trans (b1.mono B0.size)
    have hn := numbers_any (intc_new w1 [2, a, b, c, d, e, f, g] (by simp)) HI.out
    have b2 := below_new w1 (.cells #[.int .i64 2, .int .i64 a, .int .i64 b, .int .i64 c, .int .i64 d, .int .i64 e, .int .i64 f, .int .i64 g] 3)
    have B2 := BB.trans (b2.mono BB.size)
    have hw1 : w.heap.size < w1.heap.size := by have := b1.size; simp at this; omega
    clear hf c0 b1 B0 BB d0
    go_wp2_with fail
    refine Calls.mono hn ?_
    rintro x w2 ⟨v2, rfl, h4, b3⟩
    have e7' := (((b2.trans (b3.mono b2.size)).cell (p := ⟨w.heap.size, 7, none⟩) hw1)).trans e7
    have B3 := B2.trans (b3.mono B2.size)
    have h4 := h4.base B2.size
    have ht := textOf_any s w2
    obtain ⟨ao, m, cap, hv, hm⟩ := h4.form'
    subst hv
    clear hn b2 b3 e0 e1 e2 e3 e4 e5 e6 e7 B2
    go_wp2_with fail
    refine Calls.mono ht ?_
    rintro x w3 ⟨rfl, b4⟩
    have B4 := B3.trans (b4.mono B3.size)
    have hbs := txt_build w3 s
    have hit := items_one w3 (txtI s) (txtI_ok hd8)
    have h5 := (h4.below b4).alloc (.cells #[.int .i64 2, .int .i64 0, .string s] 77)
    have B5 := B4.alloc B4.size (.cells #[.int .i64 2, .int .i64 0, .string s] 77)
    obtain ⟨v6, w6, hr6, h6, b6, s6⟩ := own_append_items h5 hit (by simp) B5.size 74
    have B6 := B5.trans b6
    rw [← hsp] at h6
    have hsec := sector_any (h6.items HO.out) hE hP
    obtain ⟨ao6, m6, cap6, hv6, hm6⟩ := h6.form'
    subst hv6
    have HR6 := Lib.hid hr6
    clear ht hr6 h6 h5 h4 hit b4 b6 s6 hsp
    go_wp2_with (with_reducible refine wpList_append_eq rfl (.tmp 24) (.tmp 28) 74 74 rfl (.slice ao m cap) (.slice (some ⟨w3.heap.size, 0, none⟩) 1 1) (.slice ao6 m6 cap6) rfl rfl HR6.out ?_)
    refine Calls.mono hsec ?_
    rintro x w7 ⟨v7, rfl, h7, b7⟩
    have B7 := B6.trans (b7.mono B6.size)
    obtain ⟨ao7, m7, cap7, hv7, hm7⟩ := h7.form'
    subst hv7
    clear hsec
    go_wp2
    go_ret2
    exact ⟨_, rfl, h7.base' B6.size, B7⟩
def ehomE (p : Int) (d : ByteArray) : Int := if homeOk p d then 0 else 2
def ehomR (p : Int) (d : ByteArray) : List UInt8 := if homeOk p d then sectB (homeI p d) else []
set_option maxHeartbeats 1600000 in
theorem encodeHome_any (p : Int) (d : ByteArray) (hp : inI p) (hd : d.size ≤ maxLen) (w : World) : Calls Try.prog 17 #[homeV p d] w (OwnRetE w.heap.size w (ehomR p d) (ehomE p d)) := by
  have hf := homeFormed_any p d hd (w.alloc (.cells #[.int .i64 p, .string d] 27))
  have B0 := below_new w (.cells #[.int .i64 p, .string d] 27)
  unfold ehomR ehomE
  cases hs : homeOk p d
  · rw [hs] at hf
    clear hs
    go_enter Try.func17, Try.ntmps17
    go_wp2_with fail
    refine Calls.mono hf ?_
    rintro x w1 ⟨rfl, b1⟩
    clear hf
    go_wp2
    go_ret2
    exact ⟨_, rfl, OwnB.nil _ _, B0.trans (b1.mono B0.size)⟩
  · rw [hs] at hf
    have hE := encE_home (p := p) (homeOk_size hs)
    have hP : (packB (homeI p d)).length ≤ 250 := by have := homeOk_size hs; rw [homeI_len]; omega
    have hok := homeI_ok hp hd
    have c0 := cell_new w #[.int .i64 p, .string d] 27 0 _ rfl
    have c1 := cell_new w #[.int .i64 p, .string d] 27 1 _ rfl
    clear hs
    go_enter Try.func17, Try.ntmps17
    go_wp2_with fail
    refine Calls.mono hf ?_
    rintro x w1 ⟨rfl, b1⟩
    have hw1 : w.heap.size < w1.heap.size := by have := b1.size; simp at this; omega
    have d0 := (b1.cell (by simp)).trans c0
    have d1 := (b1.cell (by simp)).trans c1
    have B1 := B0.trans (b1.mono B0.size)
    clear hf c0 c1 b1 B0
    go_wp2_with fail
    have hS : Below w1.heap.size w1 w1.drew := (Below.refl _ _).drew
    refine wp_region_held_drew (S := fun w' => Below w1.heap.size w1 w') mixed hS (fun _ => ?_)
    show wpAnyH _ _ _ _ _ 14 (Array.replicate 14 false) _ _
    refine wpAnyH_take_d 0 (some 7) (.pointer (some ⟨w.heap.size, 0, none⟩)) rfl (by kernel_rfl) (by kernel_rfl) (by kernel_rfl) (by kernel_rfl) rfl (fun _ _ _ h => h) (fun _ _ => by kernel_rfl) (by exact hS) ?_
    simp only [Act.put, List.setIfInBounds_toArray, List.set_cons_succ, List.set_cons_zero]
    refine wpAnyH_take_d 1 (some 8) (.int .i64 p) rfl (by kernel_rfl) (by kernel_rfl) (by kernel_rfl) (by kernel_rfl) rfl (fun _ _ _ h => h) (fun w' h => exec_load_cell rfl rfl ((h.cell hw1).trans d0) Try.underlying3 rfl) (by exact hS) ?_
    simp only [Act.put, List.setIfInBounds_toArray, List.set_cons_succ, List.set_cons_zero]
    refine wpAnyH_take_d 4 (some 11) (.pointer (some ⟨w.heap.size, 1, none⟩)) rfl (by kernel_rfl) (by kernel_rfl) (by kernel_rfl) (by kernel_rfl) rfl (fun _ _ _ h => h) (fun _ _ => by kernel_rfl) (by exact hS) ?_
    simp only [Act.put, List.setIfInBounds_toArray, List.set_cons_succ, List.set_cons_zero]
    refine wpAnyH_take_d 5 (some 12) (.string d) rfl (by kernel_rfl) (by kernel_rfl) (by kernel_rfl) (by kernel_rfl) rfl (fun _ _ _ h => h) (fun w' h => exec_load_cell rfl rfl ((h.cell hw1).trans d1) Try.underlying9 rfl) (by exact hS) ?_
    simp only [Act.put, List.setIfInBounds_toArray, List.set_cons_succ, List.set_cons_zero]
    generalize w1.drew = w2 at hS ⊢
    have rC : (Instr.buildSlice 32 2 #[(0, .int .i64 3), (1, .int .i64 p)]).run Try.prog w2 = .ok (.slice (some ⟨w2.heap.size, 0, none⟩) 2 2) (w2.alloc (.cells #[.int .i64 3, .int .i64 p] 3)) := by kernel_rfl
    have hn := numbers_any (intc_new w2 [3, p] (by simp)) (by intro z hz; simp only [List.mem_cons, List.not_mem_nil, or_false] at hz; rcases hz with rfl | rfl <;> first | assumption | exact ⟨by decide, by decide⟩)
    have hS : Below w1.heap.size w1 (w2.alloc (.cells #[.int .i64 3, .int .i64 p] 3)) := hS.alloc hS.size _
    refine wpAnyH_one 2 (some 9) (.slice (some ⟨w2.heap.size, 0, none⟩) 2 2) rfl (by kernel_rfl) (by kernel_rfl) rfl (exec_b2 rfl rfl rfl rC) (by exact hS) ?_
    simp only [Act.put, List.setIfInBounds_toArray, List.set_cons_succ, List.set_cons_zero]
    refine wpAnyH_call 3 (some 10) 32 #[.slice (some ⟨w2.heap.size, 0, none⟩) 2 2] rfl (by kernel_rfl) (by kernel_rfl) rfl (by kernel_rfl) hn ?_
    rintro e w3 ⟨v3, rfl, h3, b3⟩
    have h3 := h3.base hS.size
    have hS : Below w1.heap.size w1 w3 := hS.trans (b3.mono hS.size)
    obtain ⟨ao, m, cap, hv, hm⟩ := h3.form'
    subst hv
    refine ⟨_, rfl, hS, ?_⟩
    simp only [Act.put, List.setIfInBounds_toArray, List.set_cons_succ, List.set_cons_zero]
    have ht := textOf_any d w3
    refine wpAnyH_call 6 (some 13) 34 #[.string d] rfl (by kernel_rfl) (by kernel_rfl) rfl (by kernel_rfl) ht ?_
    rintro e w4 ⟨rfl, b4⟩
    have h4 := h3.below b4
    have hS : Below w1.heap.size w1 w4 := hS.trans (b4.mono hS.size)
    refine ⟨_, rfl, hS, ?_⟩
    simp only [Act.put, List.setIfInBounds_toArray, List.set_cons_succ, List.set_cons_zero]
    have hbs := txt_build w4 d
    have hit := items_one w4 (txtI d) (txtI_ok hd)
    have hS : Below w1.heap.size w1 (w4.alloc (.cells #[.int .i64 2, .int .i64 0, .string d] 77)) := hS.alloc hS.size _
    refine wpAnyH_one 7 (some 14) (.slice (some ⟨w4.heap.size, 0, none⟩) 1 1) rfl (by kernel_rfl) (by kernel_rfl) rfl (exec_b1 rfl rfl hbs) (by exact hS) ?_
    simp only [Act.put, List.setIfInBounds_toArray, List.set_cons_succ, List.set_cons_zero]
    have h5 := h4.alloc (.cells #[.int .i64 2, .int .i64 0, .string d] 77)
    obtain ⟨v6, w6, hr6, h6, b6, s6⟩ := own_append_items h5 hit (by simp) hS.size 74
    have hS : Below w1.heap.size w1 w6 := hS.trans b6
    have h6 : OwnI w1.heap.size w6 v6 (homeI p d) := h6
    have hsec := sector_any (h6.items hok) hE hP
    obtain ⟨ao6, m6, cap6, hv6, hm6⟩ := h6.form'
    subst hv6
    refine wpAnyH_one 8 (some 15) (.slice ao6 m6 cap6) rfl (by kernel_rfl) (by kernel_rfl) rfl (exec_append3 rfl rfl rfl hr6) (by exact hS) ?_
    simp only [Act.put, List.setIfInBounds_toArray, List.set_cons_succ, List.set_cons_zero]
    refine wpAnyH_call 9 (some 16) 31 #[.slice ao6 m6 cap6] rfl (by kernel_rfl) (by kernel_rfl) rfl (by kernel_rfl) hsec ?_
    rintro e w7 ⟨v7, rfl, h7, b7⟩
    have h7 := h7.base' hS.size
    have hS : Below w1.heap.size w1 w7 := hS.trans (b7.mono hS.size)
    obtain ⟨ao7, m7, cap7, hv7, hm7⟩ := h7.form'
    subst hv7
    refine ⟨_, rfl, hS, ?_⟩
    simp only [Act.put, List.setIfInBounds_toArray, List.set_cons_succ, List.set_cons_zero]
    refine wpAnyH_take_d 10 (some 17) (.slice ao7 m7 cap7) rfl (by kernel_rfl) (by kernel_rfl) (by kernel_rfl) (by kernel_rfl) rfl (fun _ _ _ h => h) (fun _ _ => by kernel_rfl) (by exact hS) ?_
    simp only [Act.put, List.setIfInBounds_toArray, List.set_cons_succ, List.set_cons_zero]
    refine wpAnyH_take_d 11 (some 18) (.int .i64 0) rfl (by kernel_rfl) (by kernel_rfl) (by kernel_rfl) (by kernel_rfl) rfl (fun _ _ _ h => h) (fun _ _ => by kernel_rfl) (by exact hS) ?_
    simp only [Act.put, List.setIfInBounds_toArray, List.set_cons_succ, List.set_cons_zero]
    refine wpAnyH_take_d 12 (some 2) (.slice ao7 m7 cap7) rfl (by kernel_rfl) (by kernel_rfl) (by kernel_rfl) (by kernel_rfl) rfl (fun _ _ _ h => h) (fun _ _ => by kernel_rfl) (by exact hS) ?_
    simp only [Act.put, List.setIfInBounds_toArray, List.set_cons_succ, List.set_cons_zero]
    refine wpAnyH_take_d 13 (some 3) (.int .i64 0) rfl (by kernel_rfl) (by kernel_rfl) (by kernel_rfl) (by kernel_rfl) rfl (fun _ _ _ h => h) (fun _ _ => by kernel_rfl) (by exact hS) ?_
    simp only [Act.put, List.setIfInBounds_toArray, List.set_cons_succ, List.set_cons_zero]
    refine wpAnyH_done (by kernel_rfl) ?_ _
    go_wp2
    go_ret2
    exact ⟨_, rfl, h7.base' B1.size, B1.trans (hS.mono B1.size)⟩
end Go.Proofs.Ytmkomhdlcbimoaa
