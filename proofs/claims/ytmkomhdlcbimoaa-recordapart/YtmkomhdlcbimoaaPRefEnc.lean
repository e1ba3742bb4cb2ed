/- The contracts of the document's own Encode and DocEncode. No statement of the seat is proved here. -/
import Derived.Test.YtmkomhdlcbimoaaPChk
import Derived.Test.YtmkomhdlcbimoaaPSums0
namespace Go.Proofs.Ytmkomhdlcbimoaa
set_option maxRecDepth 20000
open Go.RowKit

section
variable {P : Program} {w w1 : World}
theorem exec_append2 {ρ : Operand → Value} {o : Oper} {t u : TypeId} {s x : Operand} {v0 v1 v : Value} (ho : o.op = .call { callee := .builtin .append, args := #[s, x], argTypes := #[t, u] }) (hs : ρ s = v0) (hx : ρ x = v1)
    (hrun : (Builtin.append_ #[t, u] o.type #[v0, v1]).run P w = .ok v w1) : (execOp ρ o).run P w = .ok (.value v) w1 := by
  unfold execOp
  simp only [ho, resolve, invoke, builtin, Sem.run_bind, Sem.run_pure, Result.andThen_ok, List.map_toArray, List.map_cons, List.map_nil, hs, hx, hrun]
theorem exec_build1 {ρ : Operand → Value} {o : Oper} {t : TypeId} {x : Operand} {u v : Value} (ho : o.op = .buildSlice t 1 #[(0, x)]) (hx : ρ x = u) (hrun : (Instr.buildSlice t 1 #[(0, u)]).run P w = .ok v w1) : (execOp ρ o).run P w = .ok (.value v) w1 := by
  unfold execOp
  simp [ho, hx, hrun]
theorem exec_indexAddr3 {ρ : Operand → Value} {o : Oper} {t e : TypeId} {x ix : Operand} {b off len cap : Nat} {k : Nat} (ho : o.op = .indexAddr t x ix) (hx : ρ x = .slice (some ⟨b, off, none⟩) len cap) (hi : ρ ix = .int .i64 k) (hk : k < len)
    (hu : P.underlying t = some (.slice e)) (hs : (P.info? e).map (·.size) = some 3) : (execOp ρ o).run P w = .ok (.value (.pointer (some ⟨b, off + k * 3, none⟩))) w := by
  cases hq : P.info? e with
  | none => simp [hq] at hs
  | some i =>
    have h1 : i.size = 3 := by simpa [hq] using hs
    have e1 : (0 : Int) ≤ (k : Int) ∧ (k : Int) < (len : Int) := by omega
    have e2 : (⟨b, off, none⟩ : Addr).add (k * 3) = ⟨b, off + k * 3, none⟩ := by unfold Addr.add; split <;> simp_all
    unfold execOp
    simp [ho, hx, hi, Instr.indexAt, asIntOf, run_underlying hu, hk, sizeOf, typeInfo, hq, h1, e2]
end
theorem build_byte (w : World) (n : Int) : (Instr.buildSlice 36 1 #[(0, .int .u8 n)]).run Try.prog w = .ok (.slice (some ⟨w.heap.size, 0, none⟩) 1 1) (w.alloc (.cells #[.int .u8 n] 5)) := by
  kernel_rfl
theorem szItem : (Try.prog.info? 77).map (·.size) = some 3 := by kernel_rfl
theorem OwnB.to {base : Nat} {w w' : World} {v : Value} {bs : List UInt8} (h : OwnB base w v bs) (hb : Below w.heap.size w w') : OwnB base w' v bs := h.below hb
set_option maxRecDepth 20000 in
set_option maxHeartbeats 3200000 in
theorem refEncode_any {w : World} {v : Value} {l : List It} (h : ItemsAt w.heap.size w v l) (hE : encE l = 0) : Calls Try.prog 52 #[v] w fun e w' => e = .returned (.string (strOf (encR l))) ∧ Below w.heap.size w w' := by
  have hok := encE_ok hE
  obtain ⟨lo, lcap, rfl, h1, h2, h3, h4⟩ := h
  have hlen : l.length ≤ 4000 := by
    have hbig := hok.1
    unfold bigB at hbig; rw [Bool.or_eq_false_iff] at hbig
    have := hbig.1; simp at this; exact this
  have hlong : ∀ j, j < l.length → longB (itAt l j) = false := fun j hj => by
    have hbig := hok.1
    unfold bigB at hbig; rw [Bool.or_eq_false_iff] at hbig
    have := List.any_eq_false.1 hbig.2 _ (itAt_mem hj)
    simpa using this
  have hform : ∀ j, j < l.length → formB (itAt l j) = true := fun j hj => List.all_eq_true.1 hok.2 _ (itAt_mem hj)
  have hK : ∀ k, k ≤ l.length → (encK l k).length ≤ k * 50003 := fun k hk => encK_len l (fun j hj h5 h6 => item_len (form_size h5 h6)) k hk (fun j hj => hform j (by omega)) hlong
  have HEND : Hid (strOf (encR l) = strOf (encK l l.length)) := Lib.hid (by unfold encR encK; rw [if_pos hE, List.take_length])
  have HK := Lib.hid hK
  have HLONG := Lib.hid hlong
  have HFORM := Lib.hid hform
  clear hok hlong hform hK hE
  rw [HEND.out]
  clear HEND
  go_enter Try.func52, Try.ntmps52
  go_wp2
  go_loopw [3, 4] (fun ov iv wr => ∃ k : Nat, k ≤ l.length ∧ iv = .int .i64 k ∧ OwnB w.heap.size wr ov (encK l k) ∧ Below w.heap.size w wr) (fun _ iv _ => l.length - (intOf iv).toNat)
  case atStart => exact ⟨0, Nat.zero_le _, rfl, OwnB.nil _ _, Below.refl _ _⟩
  case round =>
    obtain ⟨k, hk, rfl, ho, hbel⟩ := hrel
    obtain ⟨ao, m, cap, hform, hm⟩ := ho.form'
    subst hform
    by_cases hlt : k < l.length
    · obtain ⟨b, off, rfl, hB, hc⟩ := h4 (by omega)
      obtain ⟨d1, d2, d3⟩ := hc k hlt
      have hfk := HFORM.out k hlt
      have hsz := form_size hfk (HLONG.out k hlt)
      have hN := Lib.hid (encK_succ l k hlt)
      have hl9 := HK.out k hk
      generalize encK l k = bs at ho hN hl9 hm
      generalize itAt l k = x at d1 d2 d3 hfk hsz hN
      obtain ⟨xk, xn, xs⟩ := x
      simp only at d1 d2 d3 hsz
      have d1' := (hbel.cell (p := ⟨b, off + k * 3, none⟩) hB).trans d1
      clear hc h4 HK HLONG HFORM
      by_cases q1 : xk = 1
      · subst q1
        rw [itemB_one rfl] at hN
        have hcv : ∀ {w' : World}, (convert 3 68 (.int .i64 xn)).run Try.prog w' = .ok (.int .u64 (u64 xn : Nat)) w' := by intro w'; simp [go_sem, wrap_u64' xn]
        clear hfk
        go_wp2_with fail
        have hS : Below w.heap.size w wr.drew := hbel.drew
        have o0 := ho.to ((Below.refl wr.heap.size wr).drew)
        have z0 : w.heap.size ≤ wr.drew.heap.size := hbel.size
        refine wp_region_held_drew (S := fun w' => Below w.heap.size w w') mixed hS (fun _ => ?_)
        show wpAnyH _ _ _ _ _ 12 (Array.replicate 12 false) _ _
        refine wpAnyH_take_d 0 (some 17) (.slice ao m cap) rfl (by kernel_rfl) (by kernel_rfl) (by kernel_rfl) (by kernel_rfl) rfl (fun _ _ _ h => h) (fun _ _ => by kernel_rfl) (by exact hS) ?_
        simp only [Act.put, List.setIfInBounds_toArray, List.set_cons_succ, List.set_cons_zero]
        refine wpAnyH_take_d 3 (some 20) (.slice (some ⟨b, off, none⟩) l.length lcap) rfl (by kernel_rfl) (by kernel_rfl) (by kernel_rfl) (by kernel_rfl) rfl (fun _ _ _ h => h) (fun _ _ => by kernel_rfl) (by exact hS) ?_
        simp only [Act.put, List.setIfInBounds_toArray, List.set_cons_succ, List.set_cons_zero]
        refine wpAnyH_take_d 4 (some 21) (.int .i64 (k : Nat)) rfl (by kernel_rfl) (by kernel_rfl) (by kernel_rfl) (by kernel_rfl) rfl (fun _ _ _ h => h) (fun _ _ => by kernel_rfl) (by exact hS) ?_
        simp only [Act.put, List.setIfInBounds_toArray, List.set_cons_succ, List.set_cons_zero]
        refine wpAnyH_take_d 5 (some 22) (.pointer (some ⟨b, off + k * 3, none⟩)) rfl (by kernel_rfl) (by kernel_rfl) (by kernel_rfl) (by kernel_rfl) rfl (fun _ _ _ h => h) (fun w' h => exec_indexAddr3 rfl rfl rfl hlt Try.underlying74 szItem) (by exact hS) ?_
        simp only [Act.put, List.setIfInBounds_toArray, List.set_cons_succ, List.set_cons_zero]
        refine wpAnyH_take_d 6 (some 23) (.pointer (some ⟨b, off + k * 3 + 1, none⟩)) rfl (by kernel_rfl) (by kernel_rfl) (by kernel_rfl) (by kernel_rfl) rfl (fun _ _ _ h => h) (fun _ _ => by kernel_rfl) (by exact hS) ?_
        simp only [Act.put, List.setIfInBounds_toArray, List.set_cons_succ, List.set_cons_zero]
        refine wpAnyH_take_d 7 (some 24) (.int .i64 xn) rfl (by kernel_rfl) (by kernel_rfl) (by kernel_rfl) (by kernel_rfl) rfl (fun _ _ _ h => h) (fun w' h => exec_load_cell rfl rfl ((h.cell hB).trans d2) Try.underlying3 rfl) (by exact hS) ?_
        simp only [Act.put, List.setIfInBounds_toArray, List.set_cons_succ, List.set_cons_zero]
        refine wpAnyH_take_d 8 (some 25) (.int .u64 (u64 xn : Nat)) rfl (by kernel_rfl) (by kernel_rfl) (by kernel_rfl) (by kernel_rfl) rfl (fun _ _ _ h => h) (fun w' h => exec_convert rfl rfl hcv) (by exact hS) ?_
        simp only [Act.put, List.setIfInBounds_toArray, List.set_cons_succ, List.set_cons_zero]
        generalize wr.drew = w0 at hS o0 z0 ⊢
        have rC := build_byte w0 1
        have yC := bytes_one' w0 1 1 rfl w0.heap.size rfl
        have hS : Below w.heap.size w (w0.alloc (.cells #[.int .u8 1] 5)) := hS.alloc z0 _
        have oC := o0.alloc (.cells #[.int .u8 1] 5)
        have zC : w.heap.size ≤ (w0.alloc (.cells #[.int .u8 1] 5)).heap.size := by simp; omega
        refine wpAnyH_one 1 (some 18) (.slice (some ⟨w0.heap.size, 0, none⟩) 1 1) rfl (by kernel_rfl) (by kernel_rfl) rfl (exec_build1 rfl rfl rC) (by exact hS) ?_
        simp only [Act.put, List.setIfInBounds_toArray, List.set_cons_succ, List.set_cons_zero]
        obtain ⟨vE, wE, qE, oE, bE, sE, -⟩ := own_append oC yC (by simp; omega) zC 36
        have hS : Below w.heap.size w wE := hS.trans bE
        have zE : w.heap.size ≤ wE.heap.size := by omega
        obtain ⟨aoE, mE, capE, hvE, hmE⟩ := oE.form'
        subst hvE
        refine wpAnyH_one 2 (some 19) (.slice aoE mE capE) rfl (by kernel_rfl) (by kernel_rfl) rfl (exec_append2 rfl rfl rfl qE) (by exact hS) ?_
        simp only [Act.put, List.setIfInBounds_toArray, List.set_cons_succ, List.set_cons_zero]
        refine wpAnyH_call 9 (some 26) 66 #[.int .u64 (u64 xn : Nat), .int .i64 8] rfl (by kernel_rfl) (by kernel_rfl) rfl (by kernel_rfl) (little_any (u64 xn) 8 (u64_lt xn) (by decide) wE) ?_
        rintro e w1 ⟨rfl, b1⟩
        have hS : Below w.heap.size w w1 := hS.trans (b1.mono zE)
        have oD := oE.to b1
        have zD : w.heap.size ≤ w1.heap.size := by have := b1.size; omega
        refine ⟨_, rfl, hS, ?_⟩
        simp only [Act.put, List.setIfInBounds_toArray, List.set_cons_succ, List.set_cons_zero]
        obtain ⟨vDp10, wDp10, qDp10, oDp10, bDp10, sDp10⟩ := own_append_str oD (strOf (low (u64 xn) 8)) (by simp [strOf_size, low_length]; omega) zD 36
        have hS : Below w.heap.size w wDp10 := hS.trans bDp10
        have zDp10 : w.heap.size ≤ wDp10.heap.size := by omega
        obtain ⟨aoDp10, mDp10, capDp10, hvDp10, hmDp10⟩ := oDp10.form'
        subst hvDp10
        refine wpAnyH_one 10 (some 27) (.slice aoDp10 mDp10 capDp10) rfl (by kernel_rfl) (by kernel_rfl) rfl (exec_append2 rfl rfl rfl qDp10) (by exact hS) ?_
        simp only [Act.put, List.setIfInBounds_toArray, List.set_cons_succ, List.set_cons_zero]
        refine wpAnyH_take_d 11 (some 3) (.slice aoDp10 mDp10 capDp10) rfl (by kernel_rfl) (by kernel_rfl) (by kernel_rfl) (by kernel_rfl) rfl (fun _ _ _ h => h) (fun _ _ => by kernel_rfl) (by exact hS) ?_
        simp only [Act.put, List.setIfInBounds_toArray, List.set_cons_succ, List.set_cons_zero]
        refine wpAnyH_done (by kernel_rfl) ?_ _
        go_wp2
        go_roundw
        case rel => exact ⟨k + 1, by omega, by go_num, by rw [hN.out]; simpa [strOf] using oDp10, hS⟩
        case measure => simp [intOf]; omega
      · obtain rfl : xk = 2 := by rcases form_kind hfk with e | e; exact absurd e q1; exact e
        rw [itemB_two rfl] at hN
        have hcv : ∀ {w' : World}, (convert 3 68 (.int .i64 (xs.size : Nat))).run Try.prog w' = .ok (.int .u64 (xs.size : Nat)) w' := by intro w'; have := wrap_nat xs.size (by omega); simp [go_sem, this]
        clear hfk q1
        go_wp2_with fail
        have hS : Below w.heap.size w wr.drew := hbel.drew
        have o0 := ho.to ((Below.refl wr.heap.size wr).drew)
        have z0 : w.heap.size ≤ wr.drew.heap.size := hbel.size
        refine wp_region_held_drew (S := fun w' => Below w.heap.size w w') mixed hS (fun _ => ?_)
        show wpAnyH _ _ _ _ _ 19 (Array.replicate 19 false) _ _
        refine wpAnyH_take_d 0 (some 28) (.slice ao m cap) rfl (by kernel_rfl) (by kernel_rfl) (by kernel_rfl) (by kernel_rfl) rfl (fun _ _ _ h => h) (fun _ _ => by kernel_rfl) (by exact hS) ?_
        simp only [Act.put, List.setIfInBounds_toArray, List.set_cons_succ, List.set_cons_zero]
        refine wpAnyH_take_d 3 (some 31) (.slice (some ⟨b, off, none⟩) l.length lcap) rfl (by kernel_rfl) (by kernel_rfl) (by kernel_rfl) (by kernel_rfl) rfl (fun _ _ _ h => h) (fun _ _ => by kernel_rfl) (by exact hS) ?_
        simp only [Act.put, List.setIfInBounds_toArray, List.set_cons_succ, List.set_cons_zero]
        refine wpAnyH_take_d 4 (some 32) (.int .i64 (k : Nat)) rfl (by kernel_rfl) (by kernel_rfl) (by kernel_rfl) (by kernel_rfl) rfl (fun _ _ _ h => h) (fun _ _ => by kernel_rfl) (by exact hS) ?_
        simp only [Act.put, List.setIfInBounds_toArray, List.set_cons_succ, List.set_cons_zero]
        refine wpAnyH_take_d 5 (some 33) (.pointer (some ⟨b, off + k * 3, none⟩)) rfl (by kernel_rfl) (by kernel_rfl) (by kernel_rfl) (by kernel_rfl) rfl (fun _ _ _ h => h) (fun w' h => exec_indexAddr3 rfl rfl rfl hlt Try.underlying74 szItem) (by exact hS) ?_
        simp only [Act.put, List.setIfInBounds_toArray, List.set_cons_succ, List.set_cons_zero]
        refine wpAnyH_take_d 6 (some 34) (.pointer (some ⟨b, off + k * 3 + 2, none⟩)) rfl (by kernel_rfl) (by kernel_rfl) (by kernel_rfl) (by kernel_rfl) rfl (fun _ _ _ h => h) (fun _ _ => by kernel_rfl) (by exact hS) ?_
        simp only [Act.put, List.setIfInBounds_toArray, List.set_cons_succ, List.set_cons_zero]
        refine wpAnyH_take_d 7 (some 35) (.string xs) rfl (by kernel_rfl) (by kernel_rfl) (by kernel_rfl) (by kernel_rfl) rfl (fun _ _ _ h => h) (fun w' h => exec_load_cell rfl rfl ((h.cell hB).trans d3) Try.underlying9 rfl) (by exact hS) ?_
        simp only [Act.put, List.setIfInBounds_toArray, List.set_cons_succ, List.set_cons_zero]
        refine wpAnyH_take_d 8 (some 36) (.int .i64 (xs.size : Nat)) rfl (by kernel_rfl) (by kernel_rfl) (by kernel_rfl) (by kernel_rfl) rfl (fun _ _ _ h => h) (fun _ _ => by kernel_rfl) (by exact hS) ?_
        simp only [Act.put, List.setIfInBounds_toArray, List.set_cons_succ, List.set_cons_zero]
        refine wpAnyH_take_d 9 (some 37) (.int .u64 (xs.size : Nat)) rfl (by kernel_rfl) (by kernel_rfl) (by kernel_rfl) (by kernel_rfl) rfl (fun _ _ _ h => h) (fun w' h => exec_convert rfl rfl hcv) (by exact hS) ?_
        simp only [Act.put, List.setIfInBounds_toArray, List.set_cons_succ, List.set_cons_zero]
        refine wpAnyH_take_d 12 (some 40) (.slice (some ⟨b, off, none⟩) l.length lcap) rfl (by kernel_rfl) (by kernel_rfl) (by kernel_rfl) (by kernel_rfl) rfl (fun _ _ _ h => h) (fun _ _ => by kernel_rfl) (by exact hS) ?_
        simp only [Act.put, List.setIfInBounds_toArray, List.set_cons_succ, List.set_cons_zero]
        refine wpAnyH_take_d 13 (some 41) (.int .i64 (k : Nat)) rfl (by kernel_rfl) (by kernel_rfl) (by kernel_rfl) (by kernel_rfl) rfl (fun _ _ _ h => h) (fun _ _ => by kernel_rfl) (by exact hS) ?_
        simp only [Act.put, List.setIfInBounds_toArray, List.set_cons_succ, List.set_cons_zero]
        refine wpAnyH_take_d 14 (some 42) (.pointer (some ⟨b, off + k * 3, none⟩)) rfl (by kernel_rfl) (by kernel_rfl) (by kernel_rfl) (by kernel_rfl) rfl (fun _ _ _ h => h) (fun w' h => exec_indexAddr3 rfl rfl rfl hlt Try.underlying74 szItem) (by exact hS) ?_
        simp only [Act.put, List.setIfInBounds_toArray, List.set_cons_succ, List.set_cons_zero]
        refine wpAnyH_take_d 15 (some 43) (.pointer (some ⟨b, off + k * 3 + 2, none⟩)) rfl (by kernel_rfl) (by kernel_rfl) (by kernel_rfl) (by kernel_rfl) rfl (fun _ _ _ h => h) (fun _ _ => by kernel_rfl) (by exact hS) ?_
        simp only [Act.put, List.setIfInBounds_toArray, List.set_cons_succ, List.set_cons_zero]
        refine wpAnyH_take_d 16 (some 44) (.string xs) rfl (by kernel_rfl) (by kernel_rfl) (by kernel_rfl) (by kernel_rfl) rfl (fun _ _ _ h => h) (fun w' h => exec_load_cell rfl rfl ((h.cell hB).trans d3) Try.underlying9 rfl) (by exact hS) ?_
        simp only [Act.put, List.setIfInBounds_toArray, List.set_cons_succ, List.set_cons_zero]
        generalize wr.drew = w0 at hS o0 z0 ⊢
        have rC := build_byte w0 2
        have yC := bytes_one' w0 2 2 rfl w0.heap.size rfl
        have hS : Below w.heap.size w (w0.alloc (.cells #[.int .u8 2] 5)) := hS.alloc z0 _
        have oC := o0.alloc (.cells #[.int .u8 2] 5)
        have zC : w.heap.size ≤ (w0.alloc (.cells #[.int .u8 2] 5)).heap.size := by simp; omega
        refine wpAnyH_one 1 (some 29) (.slice (some ⟨w0.heap.size, 0, none⟩) 1 1) rfl (by kernel_rfl) (by kernel_rfl) rfl (exec_build1 rfl rfl rC) (by exact hS) ?_
        simp only [Act.put, List.setIfInBounds_toArray, List.set_cons_succ, List.set_cons_zero]
        obtain ⟨vE, wE, qE, oE, bE, sE, -⟩ := own_append oC yC (by simp; omega) zC 36
        have hS : Below w.heap.size w wE := hS.trans bE
        have zE : w.heap.size ≤ wE.heap.size := by omega
        obtain ⟨aoE, mE, capE, hvE, hmE⟩ := oE.form'
        subst hvE
        refine wpAnyH_one 2 (some 30) (.slice aoE mE capE) rfl (by kernel_rfl) (by kernel_rfl) rfl (exec_append2 rfl rfl rfl qE) (by exact hS) ?_
        simp only [Act.put, List.setIfInBounds_toArray, List.set_cons_succ, List.set_cons_zero]
        refine wpAnyH_call 10 (some 38) 66 #[.int .u64 (xs.size : Nat), .int .i64 2] rfl (by kernel_rfl) (by kernel_rfl) rfl (by kernel_rfl) (little_any xs.size 2 (by omega) (by decide) wE) ?_
        rintro e w1 ⟨rfl, b1⟩
        have hS : Below w.heap.size w w1 := hS.trans (b1.mono zE)
        have oD := oE.to b1
        have zD : w.heap.size ≤ w1.heap.size := by have := b1.size; omega
        refine ⟨_, rfl, hS, ?_⟩
        simp only [Act.put, List.setIfInBounds_toArray, List.set_cons_succ, List.set_cons_zero]
        obtain ⟨vDp11, wDp11, qDp11, oDp11, bDp11, sDp11⟩ := own_append_str oD (strOf (low xs.size 2)) (by simp [strOf_size, low_length]; omega) zD 36
        have hS : Below w.heap.size w wDp11 := hS.trans bDp11
        have zDp11 : w.heap.size ≤ wDp11.heap.size := by omega
        obtain ⟨aoDp11, mDp11, capDp11, hvDp11, hmDp11⟩ := oDp11.form'
        subst hvDp11
        refine wpAnyH_one 11 (some 39) (.slice aoDp11 mDp11 capDp11) rfl (by kernel_rfl) (by kernel_rfl) rfl (exec_append2 rfl rfl rfl qDp11) (by exact hS) ?_
        simp only [Act.put, List.setIfInBounds_toArray, List.set_cons_succ, List.set_cons_zero]
        obtain ⟨vDp11p17, wDp11p17, qDp11p17, oDp11p17, bDp11p17, sDp11p17⟩ := own_append_str oDp11 (xs) (by simp [strOf_size, low_length]; omega) zDp11 36
        have hS : Below w.heap.size w wDp11p17 := hS.trans bDp11p17
        have zDp11p17 : w.heap.size ≤ wDp11p17.heap.size := by omega
        obtain ⟨aoDp11p17, mDp11p17, capDp11p17, hvDp11p17, hmDp11p17⟩ := oDp11p17.form'
        subst hvDp11p17
        refine wpAnyH_one 17 (some 45) (.slice aoDp11p17 mDp11p17 capDp11p17) rfl (by kernel_rfl) (by kernel_rfl) rfl (exec_append2 rfl rfl rfl qDp11p17) (by exact hS) ?_
        simp only [Act.put, List.setIfInBounds_toArray, List.set_cons_succ, List.set_cons_zero]
        refine wpAnyH_take_d 18 (some 3) (.slice aoDp11p17 mDp11p17 capDp11p17) rfl (by kernel_rfl) (by kernel_rfl) (by kernel_rfl) (by kernel_rfl) rfl (fun _ _ _ h => h) (fun _ _ => by kernel_rfl) (by exact hS) ?_
        simp only [Act.put, List.setIfInBounds_toArray, List.set_cons_succ, List.set_cons_zero]
        refine wpAnyH_done (by kernel_rfl) ?_ _
        go_wp2
        go_roundw
        case rel => exact ⟨k + 1, by omega, by go_num, by rw [hN.out]; simpa [strOf] using oDp11p17, hS⟩
        case measure => simp [intOf]; omega
    · have hst := run_string ho
      have hkc : Hid (k = l.length) := Lib.hid (by omega)
      clear ho
      go_wp2
      go_ret
      exact ⟨by rw [← hkc.out]; rfl, hbel⟩
end Go.Proofs.Ytmkomhdlcbimoaa
