/- cisternlaw07.RecordDecodes returns true at every input: for all bytes the records of sectors are what the document says. -/
import Derived.Test.YtmkomhdlcbimoaaRSame
namespace Go.Proofs.Ytmkomhdlcbimoaa.recordDecodes
set_option maxRecDepth 20000
open Go.RowKit Go.ChangeShapes Go.WideShapes Go.ChangeAt

theorem own : ownKnob Try.prog.godebug = none := by kernel_rfl
theorem exec_inteqb {P : Program} {w : World} {ρ : Operand → Value} {o : Oper} {t t' : TypeId} {x y : Operand} {k : IntKind} {a b : Int} {c : Bool} (ho : o.op = .binOp .eql t x y t') (hx : ρ x = .int k a) (hy : ρ y = .int k b) (h : (a == b) = c) : (execOp ρ o).run P w = .ok (.value (.bool c)) w := by
  subst h
  unfold execOp
  simp only [ho, hx, hy, Sem.run_bind]
  have e1 : (eqGuard .eql t x y (.int k a) (.int k b)).run P w = .ok () w := by simp [eqGuard]
  have e2 : (binOp .eql t (.int k a) (.int k b)).run P w = .ok (.bool (a == b)) w := by simp [go_sem]
  rw [e1, Result.andThen_ok, e2]; rfl
theorem exec_load_row {P : Program} {w : World} {ρ : Operand → Value} {o : Oper} {ty t : TypeId} {x : Operand} {g : Nat} {fz : Nat × Nat} {cs : Array Value} {d : TypeDesc} (ho : o.op = .load ty x) (hx : ρ x = .pointer (some ⟨g, 0, none⟩)) (hg : w.heap[g]? = some (.cells cs t fz)) (hu : P.underlying ty = some d) (hd : d.isRow = true) (hi : (P.info? ty).map (·.size) = some cs.size) : (execOp ρ o).run P w = .ok (.value (.agg cs)) w := by
  have hrun := run_loadVar_row (P := P) w g t ty cs fz d hg hu (by cases d <;> simp_all) hi
  unfold execOp
  simp only [ho, hx, Instr.loadAt, Instr.sureAddr, Sem.run_bind, Sem.run_pure, Result.andThen_ok, hrun]
set_option maxRecDepth 20000 in
set_option maxHeartbeats 6400000 in
theorem walk (v : Value) (bs : List UInt8) (W : World) (hv : BytesArg W v bs) : Calls Try.prog 4 #[v] W fun x w' => x = .returned (.bool true) ∧ Below W.heap.size W w' := by
  obtain ⟨hb, hcap, hlen⟩ := hv
  have hlen : bs.length ≤ 140737488355328 := by omega
  obtain ⟨ao, m, cap, hvf, hm⟩ : ∃ ao m cap, v = .slice ao m cap ∧ Hid (m = bs.length) := by
    obtain ⟨ao, cap, hv, _⟩ := hb
    exact ⟨ao, _, cap, hv, Lib.hid rfl⟩
  subst hvf
  go_enter Try.func4, Try.ntmps4
  go_wp2_with fail
  refine (known_any _).mono ?_
  rintro e wa ⟨rfl, BA⟩
  have hba := hb.below BA
  have hde := decodeSuper_any hba hcap
  have hdd := dd_super bs
  by_cases e0 : supE bs = 0
  · have hz := hdd.2 e0
    have hE := hdd.1
    rw [e0] at hde hE
    have hdo := fun w => docDecRec_any bs hlen 1 (by decide) w
    have ek : ddk bs 1 = 1 := if_pos hE
    rw [hE, hz.1, hz.2, ek] at hdo
    have HDO := Lib.hid hdo
    clear hdd hE hz ek hdo e0
    go_wp2_with fail
    refine Calls.mono hde ?_
    rintro e wb ⟨rfl, bb⟩
    have gs := heap_alloc_new wb (.cells #[.int .i64 (supG bs 1), .int .i64 (supG bs 2), .int .i64 (supG bs 3)] 23)
    have bb' := bb.alloc bb.size (.cells #[.int .i64 (supG bs 1), .int .i64 (supG bs 2), .int .i64 (supG bs 3)] 23)
    have BB := BA.trans (bb'.mono BA.size)
    have hst := run_string_c (hb.below BB)
    have hdo := HDO.out (wb.alloc (.cells #[.int .i64 (supG bs 1), .int .i64 (supG bs 2), .int .i64 (supG bs 3)] 23))
    clear hde HDO bb bb' BA hba
    go_wp2_with fail
    refine Calls.mono hdo ?_
    clear hdo hst
    generalize hsb : wb.heap.size = sb at gs ⊢
    generalize wb.alloc (.cells #[.int .i64 (supG bs 1), .int .i64 (supG bs 2), .int .i64 (supG bs 3)] 23) = wc at gs BB ⊢
    have hsw := lt_of_heap gs
    rintro e wd ⟨nv, rfl, hI, bd, hob⟩
    have gs := (bd.block sb hsw).trans gs
    have BA := BB.trans (bd.mono BB.size)
    obtain ⟨nao0, ncap0, hnv, -⟩ := id hI
    subst hnv
    clear hsb BB hsw
    have g5 := heap_alloc_new wd (.cells #[.int .i64 1, .slice nao0 3 ncap0, .string ByteArray.empty] 34)
    have be := below_new wd (.cells #[.int .i64 1, .slice nao0 3 ncap0, .string ByteArray.empty] 34)
    have gs := (be.block sb (lt_of_heap gs)).trans gs
    have BAD := BA
    have BA := BA.trans (be.mono BA.size)
    have hI := hI.below be
    have h5W : W.heap.size ≤ wd.heap.size := BAD.size
    clear bd be hob BAD
    go_wp2_with fail
    generalize wd.heap.size = b5 at g5 h5W ⊢
    generalize wd.alloc (.cells #[.int .i64 1, .slice nao0 3 ncap0, .string ByteArray.empty] 34) = wx at g5 gs BA hI ⊢
    have hsx := lt_of_heap gs
    have h5x := lt_of_heap g5
    generalize hnv : Value.slice nao0 3 ncap0 = nv at hI g5 ⊢
    have hS : Below wx.heap.size wx wx.drew := (Below.refl _ _).drew
    refine wp_region_held_drew (S := fun w' => Below wx.heap.size wx w') mixed hS (fun _ => ?_)
    show wpAnyH _ _ _ _ _ 23 (Array.replicate 23 false) _ _
    refine wpAnyH_take_d 0 (some 22) (.int .i64 0) rfl (by kernel_rfl) (by kernel_rfl) (by kernel_rfl) (by kernel_rfl) rfl (fun _ _ _ h => h) (fun _ _ => by kernel_rfl) (by exact hS) ?_
    simp only [Act.put, List.setIfInBounds_toArray, List.set_cons_succ, List.set_cons_zero]
    refine wpAnyH_take_d 1 (some 23) (.int .i64 0) rfl (by kernel_rfl) (by kernel_rfl) (by kernel_rfl) (by kernel_rfl) rfl (fun _ _ _ h => h) (fun _ _ => by kernel_rfl) (by exact hS) ?_
    simp only [Act.put, List.setIfInBounds_toArray, List.set_cons_succ, List.set_cons_zero]
    refine wpAnyH_take_d 2 (some 24) (.bool false) rfl (by kernel_rfl) (by kernel_rfl) (by kernel_rfl) (by kernel_rfl) rfl (fun _ _ _ h => h) (fun _ _ => by kernel_rfl) (by exact hS) ?_
    simp only [Act.put, List.setIfInBounds_toArray, List.set_cons_succ, List.set_cons_zero]
    refine wpAnyH_take_d 3 (some 25) (.bool false) rfl (by kernel_rfl) (by kernel_rfl) (by kernel_rfl) (by kernel_rfl) rfl (fun _ _ _ h => h) (fun _ _ => by kernel_rfl) (by exact hS) ?_
    simp only [Act.put, List.setIfInBounds_toArray, List.set_cons_succ, List.set_cons_zero]
    refine wpAnyH_take_d 4 (some 26) (.int .i64 0) rfl (by kernel_rfl) (by kernel_rfl) (by kernel_rfl) (by kernel_rfl) rfl (fun _ _ _ h => h) (fun _ _ => by kernel_rfl) (by exact hS) ?_
    simp only [Act.put, List.setIfInBounds_toArray, List.set_cons_succ, List.set_cons_zero]
    refine wpAnyH_take_d 5 (some 27) (.bool true) rfl (by kernel_rfl) (by kernel_rfl) (by kernel_rfl) (by kernel_rfl) rfl (fun _ _ _ h => h) (fun _ _ => by kernel_rfl) (by exact hS) ?_
    simp only [Act.put, List.setIfInBounds_toArray, List.set_cons_succ, List.set_cons_zero]
    refine wpAnyH_take_d 6 (some 28) (.bool true) rfl (by kernel_rfl) (by kernel_rfl) (by kernel_rfl) (by kernel_rfl) rfl (fun _ _ _ h => h) (fun _ _ => by kernel_rfl) (by exact hS) ?_
    simp only [Act.put, List.setIfInBounds_toArray, List.set_cons_succ, List.set_cons_zero]
    refine wpAnyH_take_d 7 (some 29) (.agg #[.int .i64 (supG bs 1), .int .i64 (supG bs 2), .int .i64 (supG bs 3)]) rfl (by kernel_rfl) (by kernel_rfl) (by kernel_rfl) (by kernel_rfl) rfl (fun _ _ _ h => h) (fun w' h => exec_load_row rfl rfl ((h.block sb (by omega)).trans gs) Try.underlying23 rfl (by kernel_rfl)) (by exact hS) ?_
    simp only [Act.put, List.setIfInBounds_toArray, List.set_cons_succ, List.set_cons_zero]
    refine wpAnyH_take_d 9 (some 31) (recV 1 nv (ByteArray.empty)) rfl (by kernel_rfl) (by kernel_rfl) (by kernel_rfl) (by kernel_rfl) rfl (fun _ _ _ h => h) (fun w' h => exec_load_row rfl rfl ((h.block b5 (by omega)).trans g5) Try.underlying34 rfl (by kernel_rfl)) (by exact hS) ?_
    simp only [Act.put, List.setIfInBounds_toArray, List.set_cons_succ, List.set_cons_zero]
    generalize wx.drew = wy at hS ⊢
    refine wpAnyH_call 8 (some 30) 12 #[.agg #[.int .i64 (supG bs 1), .int .i64 (supG bs 2), .int .i64 (supG bs 3)]] rfl (by kernel_rfl) (by kernel_rfl) rfl (by kernel_rfl) (superRec_any (supG bs 1) (supG bs 2) (supG bs 3) wy) ?_
    rintro e wz ⟨nw, rfl, hIw, bz⟩
    have i1 := (hI.below hS).below bz
    have hS : Below wx.heap.size wx wz := hS.trans (bz.mono hS.size)
    obtain ⟨nao, ncap, hnw, -⟩ := id hIw
    subst hnw
    refine ⟨_, rfl, hS, ?_⟩
    simp only [Act.put, List.setIfInBounds_toArray, List.set_cons_succ, List.set_cons_zero]
    have hsm := same_eq hIw i1 1 (ByteArray.empty)
    refine wpAnyH_call 10 (some 32) 20 #[recV 1 _ (ByteArray.empty), recV 1 nv (ByteArray.empty)] rfl (by kernel_rfl) (by kernel_rfl) rfl (by kernel_rfl) hsm ?_
    rintro e wv ⟨rfl, bv⟩
    have hS : Below wx.heap.size wx wv := hS.trans (bv.mono hS.size)
    refine ⟨_, rfl, hS, ?_⟩
    simp only [Act.put, List.setIfInBounds_toArray, List.set_cons_succ, List.set_cons_zero]
    refine wpAnyH_take_d 11 (some 33) (.bool false) rfl (by kernel_rfl) (by kernel_rfl) (by kernel_rfl) (by kernel_rfl) rfl (fun _ _ _ h => h) (fun _ _ => by kernel_rfl) (by exact hS) ?_
    simp only [Act.put, List.setIfInBounds_toArray, List.set_cons_succ, List.set_cons_zero]
    refine wpAnyH_take_d 12 (some 34) (.bool false) rfl (by kernel_rfl) (by kernel_rfl) (by kernel_rfl) (by kernel_rfl) rfl (fun _ _ _ h => h) (fun _ _ => by kernel_rfl) (by exact hS) ?_
    simp only [Act.put, List.setIfInBounds_toArray, List.set_cons_succ, List.set_cons_zero]
    refine wpAnyH_take_d 13 (some 35) (.bool false) rfl (by kernel_rfl) (by kernel_rfl) (by kernel_rfl) (by kernel_rfl) rfl (fun _ _ _ h => h) (fun _ _ => by kernel_rfl) (by exact hS) ?_
    simp only [Act.put, List.setIfInBounds_toArray, List.set_cons_succ, List.set_cons_zero]
    refine wpAnyH_take_d 14 (some 36) (.bool false) rfl (by kernel_rfl) (by kernel_rfl) (by kernel_rfl) (by kernel_rfl) rfl (fun _ _ _ h => h) (fun _ _ => by kernel_rfl) (by exact hS) ?_
    simp only [Act.put, List.setIfInBounds_toArray, List.set_cons_succ, List.set_cons_zero]
    refine wpAnyH_take_d 15 (some 37) (.int .i64 0) rfl (by kernel_rfl) (by kernel_rfl) (by kernel_rfl) (by kernel_rfl) rfl (fun _ _ _ h => h) (fun _ _ => by kernel_rfl) (by exact hS) ?_
    simp only [Act.put, List.setIfInBounds_toArray, List.set_cons_succ, List.set_cons_zero]
    refine wpAnyH_take_d 16 (some 38) (.bool false) rfl (by kernel_rfl) (by kernel_rfl) (by kernel_rfl) (by kernel_rfl) rfl (fun _ _ _ h => h) (fun _ _ => by kernel_rfl) (by exact hS) ?_
    simp only [Act.put, List.setIfInBounds_toArray, List.set_cons_succ, List.set_cons_zero]
    refine wpAnyH_take_d 17 (some 39) (.bool false) rfl (by kernel_rfl) (by kernel_rfl) (by kernel_rfl) (by kernel_rfl) rfl (fun _ _ _ h => h) (fun _ _ => by kernel_rfl) (by exact hS) ?_
    simp only [Act.put, List.setIfInBounds_toArray, List.set_cons_succ, List.set_cons_zero]
    refine wpAnyH_skip_d 18 (some 40) rfl (by kernel_rfl) (by kernel_rfl) (by kernel_rfl) (by kernel_rfl) rfl (fun _ _ _ h => h) (by exact hS) ?_
    simp only [Act.put, List.setIfInBounds_toArray, List.set_cons_succ, List.set_cons_zero]
    refine wpAnyH_skip_d 19 (some 41) rfl (by kernel_rfl) (by kernel_rfl) (by kernel_rfl) (by kernel_rfl) rfl (fun _ _ _ h => h) (by exact hS) ?_
    simp only [Act.put, List.setIfInBounds_toArray, List.set_cons_succ, List.set_cons_zero]
    refine wpAnyH_skip_d 20 (some 42) rfl (by kernel_rfl) (by kernel_rfl) (by kernel_rfl) (by kernel_rfl) rfl (fun _ _ _ h => h) (by exact hS) ?_
    simp only [Act.put, List.setIfInBounds_toArray, List.set_cons_succ, List.set_cons_zero]
    refine wpAnyH_take_d 21 (some 43) (.bool false) rfl (by kernel_rfl) (by kernel_rfl) (by kernel_rfl) (by kernel_rfl) rfl (fun _ _ _ h => h) (fun _ _ => by kernel_rfl) (by exact hS) ?_
    simp only [Act.put, List.setIfInBounds_toArray, List.set_cons_succ, List.set_cons_zero]
    refine wpAnyH_take_d 22 (some 44) (.bool false) rfl (by kernel_rfl) (by kernel_rfl) (by kernel_rfl) (by kernel_rfl) rfl (fun _ _ _ h => h) (fun _ _ => by kernel_rfl) (by exact hS) ?_
    simp only [Act.put, List.setIfInBounds_toArray, List.set_cons_succ, List.set_cons_zero]
    refine wpAnyH_done (by kernel_rfl) ?_ _
    have BA := BA.trans (hS.mono BA.size)
    have g5 := (hS.block b5 h5x).trans g5
    clear hS gs hI hsx h5x
    generalize wv = wa at BA g5 ⊢
    obtain ⟨y0, y1, y2, hy⟩ : ∃ y0 y1 y2, #[.int .i64 1, nv, .string (ByteArray.empty)] = #[y0, y1, y2] := ⟨_, _, _, rfl⟩
    rw [hy] at g5
    clear hy
    have hba := hb.below BA
    have hde := decodeLog_any hba hcap
    have hdd := dd_log bs
    by_cases e0 : logE bs = 0
    · have hz := hdd.2 e0
      have hE := hdd.1
      rw [e0] at hde hE
      have hdo := fun w => docDecRec_any bs hlen 2 (by decide) w
      have ek : ddk bs 2 = 2 := if_pos hE
      rw [hE, hz.1, hz.2, ek] at hdo
      have HDO := Lib.hid hdo
      clear hdd hE hz ek hdo e0
      go_wp2_with fail
      refine Calls.mono hde ?_
      rintro e wb ⟨rfl, bb⟩
      have gs := heap_alloc_new wb (.cells #[.int .i64 (logV bs).kind, .int .i64 (logV bs).epoch, .int .i64 (logV bs).seq, .int .i64 (logV bs).tx, .int .i64 (logV bs).index, .int .i64 (logV bs).count, .int .i64 (logV bs).page, .string (logV bs).data] 25)
      have bb' := bb.alloc bb.size (.cells #[.int .i64 (logV bs).kind, .int .i64 (logV bs).epoch, .int .i64 (logV bs).seq, .int .i64 (logV bs).tx, .int .i64 (logV bs).index, .int .i64 (logV bs).count, .int .i64 (logV bs).page, .string (logV bs).data] 25)
      have BB := BA.trans (bb'.mono BA.size)
      have hst := run_string_c (hb.below BB)
      have hdo := HDO.out (wb.alloc (.cells #[.int .i64 (logV bs).kind, .int .i64 (logV bs).epoch, .int .i64 (logV bs).seq, .int .i64 (logV bs).tx, .int .i64 (logV bs).index, .int .i64 (logV bs).count, .int .i64 (logV bs).page, .string (logV bs).data] 25))
      have h5s : b5 < wb.heap.size := Nat.lt_of_lt_of_le (lt_of_heap g5) bb.size
      have g5 := (bb'.block b5 (lt_of_heap g5)).trans g5
      clear hde HDO bb bb' BA hba
      go_wp2_with fail
      refine Calls.mono hdo ?_
      clear hdo hst
      generalize hsb : wb.heap.size = sb at gs h5s ⊢
      generalize wb.alloc (.cells #[.int .i64 (logV bs).kind, .int .i64 (logV bs).epoch, .int .i64 (logV bs).seq, .int .i64 (logV bs).tx, .int .i64 (logV bs).index, .int .i64 (logV bs).count, .int .i64 (logV bs).page, .string (logV bs).data] 25) = wc at gs BB g5 ⊢
      have hsw := lt_of_heap gs
      have h5c := lt_of_heap g5
      rintro e wd ⟨nv, rfl, hI, bd, hob⟩
      have gs := (bd.block sb hsw).trans gs
      have BA := BB.trans (bd.mono BB.size)
      obtain ⟨nao0, ncap0, hnv, -⟩ := id hI
      subst hnv
      clear hsb BB hsw
      have g5 := (bd.block b5 (lt_of_heap g5)).trans g5
      have K1 : StoreOk 34 #[y0, y1, y2] #[.int .i64 2, .slice nao0 7 ncap0, .string (logV bs).data] := ⟨by kernel_rfl, rfl, by simp [Value.oneCell']⟩
      go_wp2_with (with_reducible refine wpList_store_row2 rfl 34 (.tmp 5) (.tmp 54) rfl b5 #[.int .i64 2, .slice nao0 7 ncap0, .string (logV bs).data] rfl rfl 34 #[y0, y1, y2] g5 K1 ?_)
      have gs := (setRow_other wd b5 sb #[.int .i64 2, .slice nao0 7 ncap0, .string (logV bs).data] (by omega)).trans gs
      have BA := below_setRow BA h5W #[.int .i64 2, .slice nao0 7 ncap0, .string (logV bs).data]
      have hI : IntC (wd.setRow b5 #[.int .i64 2, .slice nao0 7 ncap0, .string (logV bs).data]) (.slice nao0 7 ncap0) [(logV bs).kind, (logV bs).epoch, (logV bs).seq, (logV bs).tx, (logV bs).index, (logV bs).count, (logV bs).page] := hI.keep fun k hk => setRow_other wd b5 k _ (by have := hob k hk; omega)
      have g5 := setRow_heap wd b5 _ #[.int .i64 2, .slice nao0 7 ncap0, .string (logV bs).data] _ _ g5
      generalize wd.setRow b5 #[.int .i64 2, .slice nao0 7 ncap0, .string (logV bs).data] = wx at g5 gs BA hI ⊢
      clear bd K1 hob h5c h5s
      go_wp2_with fail
      have hsx := lt_of_heap gs
      have h5x := lt_of_heap g5
      generalize hnv : Value.slice nao0 7 ncap0 = nv at hI g5 ⊢
      have hS : Below wx.heap.size wx wx.drew := (Below.refl _ _).drew
      refine wp_region_held_drew (S := fun w' => Below wx.heap.size wx w') mixed hS (fun _ => ?_)
      show wpAnyH _ _ _ _ _ 23 (Array.replicate 23 false) _ _
      refine wpAnyH_take_d 0 (some 56) (.int .i64 0) rfl (by kernel_rfl) (by kernel_rfl) (by kernel_rfl) (by kernel_rfl) rfl (fun _ _ _ h => h) (fun _ _ => by kernel_rfl) (by exact hS) ?_
      simp only [Act.put, List.setIfInBounds_toArray, List.set_cons_succ, List.set_cons_zero]
      refine wpAnyH_take_d 1 (some 57) (.int .i64 0) rfl (by kernel_rfl) (by kernel_rfl) (by kernel_rfl) (by kernel_rfl) rfl (fun _ _ _ h => h) (fun _ _ => by kernel_rfl) (by exact hS) ?_
      simp only [Act.put, List.setIfInBounds_toArray, List.set_cons_succ, List.set_cons_zero]
      refine wpAnyH_take_d 2 (some 58) (.bool false) rfl (by kernel_rfl) (by kernel_rfl) (by kernel_rfl) (by kernel_rfl) rfl (fun _ _ _ h => h) (fun _ _ => by kernel_rfl) (by exact hS) ?_
      simp only [Act.put, List.setIfInBounds_toArray, List.set_cons_succ, List.set_cons_zero]
      refine wpAnyH_take_d 3 (some 59) (.bool false) rfl (by kernel_rfl) (by kernel_rfl) (by kernel_rfl) (by kernel_rfl) rfl (fun _ _ _ h => h) (fun _ _ => by kernel_rfl) (by exact hS) ?_
      simp only [Act.put, List.setIfInBounds_toArray, List.set_cons_succ, List.set_cons_zero]
      refine wpAnyH_take_d 4 (some 60) (.int .i64 0) rfl (by kernel_rfl) (by kernel_rfl) (by kernel_rfl) (by kernel_rfl) rfl (fun _ _ _ h => h) (fun _ _ => by kernel_rfl) (by exact hS) ?_
      simp only [Act.put, List.setIfInBounds_toArray, List.set_cons_succ, List.set_cons_zero]
      refine wpAnyH_take_d 5 (some 61) (.bool true) rfl (by kernel_rfl) (by kernel_rfl) (by kernel_rfl) (by kernel_rfl) rfl (fun _ _ _ h => h) (fun _ _ => by kernel_rfl) (by exact hS) ?_
      simp only [Act.put, List.setIfInBounds_toArray, List.set_cons_succ, List.set_cons_zero]
      refine wpAnyH_take_d 6 (some 62) (.bool true) rfl (by kernel_rfl) (by kernel_rfl) (by kernel_rfl) (by kernel_rfl) rfl (fun _ _ _ h => h) (fun _ _ => by kernel_rfl) (by exact hS) ?_
      simp only [Act.put, List.setIfInBounds_toArray, List.set_cons_succ, List.set_cons_zero]
      refine wpAnyH_take_d 7 (some 63) (.agg #[.int .i64 (logV bs).kind, .int .i64 (logV bs).epoch, .int .i64 (logV bs).seq, .int .i64 (logV bs).tx, .int .i64 (logV bs).index, .int .i64 (logV bs).count, .int .i64 (logV bs).page, .string (logV bs).data]) rfl (by kernel_rfl) (by kernel_rfl) (by kernel_rfl) (by kernel_rfl) rfl (fun _ _ _ h => h) (fun w' h => exec_load_row rfl rfl ((h.block sb (by omega)).trans gs) Try.underlying25 rfl (by kernel_rfl)) (by exact hS) ?_
      simp only [Act.put, List.setIfInBounds_toArray, List.set_cons_succ, List.set_cons_zero]
      refine wpAnyH_take_d 9 (some 65) (recV 2 nv ((logV bs).data)) rfl (by kernel_rfl) (by kernel_rfl) (by kernel_rfl) (by kernel_rfl) rfl (fun _ _ _ h => h) (fun w' h => exec_load_row rfl rfl ((h.block b5 (by omega)).trans g5) Try.underlying34 rfl (by kernel_rfl)) (by exact hS) ?_
      simp only [Act.put, List.setIfInBounds_toArray, List.set_cons_succ, List.set_cons_zero]
      generalize wx.drew = wy at hS ⊢
      refine wpAnyH_call 8 (some 64) 14 #[.agg #[.int .i64 (logV bs).kind, .int .i64 (logV bs).epoch, .int .i64 (logV bs).seq, .int .i64 (logV bs).tx, .int .i64 (logV bs).index, .int .i64 (logV bs).count, .int .i64 (logV bs).page, .string (logV bs).data]] rfl (by kernel_rfl) (by kernel_rfl) rfl (by kernel_rfl) (logRec_any (logV bs).kind (logV bs).epoch (logV bs).seq (logV bs).tx (logV bs).index (logV bs).count (logV bs).page (logV bs).data wy) ?_
      rintro e wz ⟨nw, rfl, hIw, bz⟩
      have i1 := (hI.below hS).below bz
      have hS : Below wx.heap.size wx wz := hS.trans (bz.mono hS.size)
      obtain ⟨nao, ncap, hnw, -⟩ := id hIw
      subst hnw
      refine ⟨_, rfl, hS, ?_⟩
      simp only [Act.put, List.setIfInBounds_toArray, List.set_cons_succ, List.set_cons_zero]
      have hsm := same_eq hIw i1 2 ((logV bs).data)
      refine wpAnyH_call 10 (some 66) 20 #[recV 2 _ ((logV bs).data), recV 2 nv ((logV bs).data)] rfl (by kernel_rfl) (by kernel_rfl) rfl (by kernel_rfl) hsm ?_
      rintro e wv ⟨rfl, bv⟩
      have hS : Below wx.heap.size wx wv := hS.trans (bv.mono hS.size)
      refine ⟨_, rfl, hS, ?_⟩
      simp only [Act.put, List.setIfInBounds_toArray, List.set_cons_succ, List.set_cons_zero]
      refine wpAnyH_take_d 11 (some 67) (.bool false) rfl (by kernel_rfl) (by kernel_rfl) (by kernel_rfl) (by kernel_rfl) rfl (fun _ _ _ h => h) (fun _ _ => by kernel_rfl) (by exact hS) ?_
      simp only [Act.put, List.setIfInBounds_toArray, List.set_cons_succ, List.set_cons_zero]
      refine wpAnyH_take_d 12 (some 68) (.bool false) rfl (by kernel_rfl) (by kernel_rfl) (by kernel_rfl) (by kernel_rfl) rfl (fun _ _ _ h => h) (fun _ _ => by kernel_rfl) (by exact hS) ?_
      simp only [Act.put, List.setIfInBounds_toArray, List.set_cons_succ, List.set_cons_zero]
      refine wpAnyH_take_d 13 (some 69) (.bool false) rfl (by kernel_rfl) (by kernel_rfl) (by kernel_rfl) (by kernel_rfl) rfl (fun _ _ _ h => h) (fun _ _ => by kernel_rfl) (by exact hS) ?_
      simp only [Act.put, List.setIfInBounds_toArray, List.set_cons_succ, List.set_cons_zero]
      refine wpAnyH_take_d 14 (some 70) (.bool false) rfl (by kernel_rfl) (by kernel_rfl) (by kernel_rfl) (by kernel_rfl) rfl (fun _ _ _ h => h) (fun _ _ => by kernel_rfl) (by exact hS) ?_
      simp only [Act.put, List.setIfInBounds_toArray, List.set_cons_succ, List.set_cons_zero]
      refine wpAnyH_take_d 15 (some 71) (.int .i64 0) rfl (by kernel_rfl) (by kernel_rfl) (by kernel_rfl) (by kernel_rfl) rfl (fun _ _ _ h => h) (fun _ _ => by kernel_rfl) (by exact hS) ?_
      simp only [Act.put, List.setIfInBounds_toArray, List.set_cons_succ, List.set_cons_zero]
      refine wpAnyH_take_d 16 (some 72) (.bool false) rfl (by kernel_rfl) (by kernel_rfl) (by kernel_rfl) (by kernel_rfl) rfl (fun _ _ _ h => h) (fun _ _ => by kernel_rfl) (by exact hS) ?_
      simp only [Act.put, List.setIfInBounds_toArray, List.set_cons_succ, List.set_cons_zero]
      refine wpAnyH_take_d 17 (some 73) (.bool false) rfl (by kernel_rfl) (by kernel_rfl) (by kernel_rfl) (by kernel_rfl) rfl (fun _ _ _ h => h) (fun _ _ => by kernel_rfl) (by exact hS) ?_
      simp only [Act.put, List.setIfInBounds_toArray, List.set_cons_succ, List.set_cons_zero]
      refine wpAnyH_skip_d 18 (some 74) rfl (by kernel_rfl) (by kernel_rfl) (by kernel_rfl) (by kernel_rfl) rfl (fun _ _ _ h => h) (by exact hS) ?_
      simp only [Act.put, List.setIfInBounds_toArray, List.set_cons_succ, List.set_cons_zero]
      refine wpAnyH_skip_d 19 (some 75) rfl (by kernel_rfl) (by kernel_rfl) (by kernel_rfl) (by kernel_rfl) rfl (fun _ _ _ h => h) (by exact hS) ?_
      simp only [Act.put, List.setIfInBounds_toArray, List.set_cons_succ, List.set_cons_zero]
      refine wpAnyH_skip_d 20 (some 76) rfl (by kernel_rfl) (by kernel_rfl) (by kernel_rfl) (by kernel_rfl) rfl (fun _ _ _ h => h) (by exact hS) ?_
      simp only [Act.put, List.setIfInBounds_toArray, List.set_cons_succ, List.set_cons_zero]
      refine wpAnyH_take_d 21 (some 77) (.bool false) rfl (by kernel_rfl) (by kernel_rfl) (by kernel_rfl) (by kernel_rfl) rfl (fun _ _ _ h => h) (fun _ _ => by kernel_rfl) (by exact hS) ?_
      simp only [Act.put, List.setIfInBounds_toArray, List.set_cons_succ, List.set_cons_zero]
      refine wpAnyH_take_d 22 (some 78) (.bool false) rfl (by kernel_rfl) (by kernel_rfl) (by kernel_rfl) (by kernel_rfl) rfl (fun _ _ _ h => h) (fun _ _ => by kernel_rfl) (by exact hS) ?_
      simp only [Act.put, List.setIfInBounds_toArray, List.set_cons_succ, List.set_cons_zero]
      refine wpAnyH_done (by kernel_rfl) ?_ _
      have BA := BA.trans (hS.mono BA.size)
      have g5 := (hS.block b5 h5x).trans g5
      clear hS gs hI hsx h5x
      generalize wv = wa at BA g5 ⊢
      obtain ⟨y0, y1, y2, hy⟩ : ∃ y0 y1 y2, #[.int .i64 2, nv, .string ((logV bs).data)] = #[y0, y1, y2] := ⟨_, _, _, rfl⟩
      rw [hy] at g5
      clear hy
      have hba := hb.below BA
      have hde := decodeHome_any hba hcap
      have hdd := dd_home bs
      by_cases e0 : homE bs = 0
      · have hz := hdd.2 e0
        have hE := hdd.1
        rw [e0] at hde hE
        have hdo := fun w => docDecRec_any bs hlen 3 (by decide) w
        have ek : ddk bs 3 = 3 := if_pos hE
        rw [hE, hz.1, hz.2, ek] at hdo
        have HDO := Lib.hid hdo
        clear hdd hE hz ek hdo e0
        go_wp2_with fail
        refine Calls.mono hde ?_
        rintro e wb ⟨rfl, bb⟩
        have gs := heap_alloc_new wb (.cells #[.int .i64 (homP bs), .string (homD bs)] 27)
        have bb' := bb.alloc bb.size (.cells #[.int .i64 (homP bs), .string (homD bs)] 27)
        have BB := BA.trans (bb'.mono BA.size)
        have hst := run_string_c (hb.below BB)
        have hdo := HDO.out (wb.alloc (.cells #[.int .i64 (homP bs), .string (homD bs)] 27))
        have h5s : b5 < wb.heap.size := Nat.lt_of_lt_of_le (lt_of_heap g5) bb.size
        have g5 := (bb'.block b5 (lt_of_heap g5)).trans g5
        clear hde HDO bb bb' BA hba
        go_wp2_with fail
        refine Calls.mono hdo ?_
        clear hdo hst
        generalize hsb : wb.heap.size = sb at gs h5s ⊢
        generalize wb.alloc (.cells #[.int .i64 (homP bs), .string (homD bs)] 27) = wc at gs BB g5 ⊢
        have hsw := lt_of_heap gs
        have h5c := lt_of_heap g5
        rintro e wd ⟨nv, rfl, hI, bd, hob⟩
        have gs := (bd.block sb hsw).trans gs
        have BA := BB.trans (bd.mono BB.size)
        obtain ⟨nao0, ncap0, hnv, -⟩ := id hI
        subst hnv
        clear hsb BB hsw
        have g5 := (bd.block b5 (lt_of_heap g5)).trans g5
        have K1 : StoreOk 34 #[y0, y1, y2] #[.int .i64 3, .slice nao0 1 ncap0, .string (homD bs)] := ⟨by kernel_rfl, rfl, by simp [Value.oneCell']⟩
        go_wp2_with (with_reducible refine wpList_store_row2 rfl 34 (.tmp 5) (.tmp 88) rfl b5 #[.int .i64 3, .slice nao0 1 ncap0, .string (homD bs)] rfl rfl 34 #[y0, y1, y2] g5 K1 ?_)
        have gs := (setRow_other wd b5 sb #[.int .i64 3, .slice nao0 1 ncap0, .string (homD bs)] (by omega)).trans gs
        have BA := below_setRow BA h5W #[.int .i64 3, .slice nao0 1 ncap0, .string (homD bs)]
        have hI : IntC (wd.setRow b5 #[.int .i64 3, .slice nao0 1 ncap0, .string (homD bs)]) (.slice nao0 1 ncap0) [homP bs] := hI.keep fun k hk => setRow_other wd b5 k _ (by have := hob k hk; omega)
        have g5 := setRow_heap wd b5 _ #[.int .i64 3, .slice nao0 1 ncap0, .string (homD bs)] _ _ g5
        generalize wd.setRow b5 #[.int .i64 3, .slice nao0 1 ncap0, .string (homD bs)] = wx at g5 gs BA hI ⊢
        clear bd K1 hob h5c h5s
        go_wp2_with fail
        have hsx := lt_of_heap gs
        have h5x := lt_of_heap g5
        generalize hnv : Value.slice nao0 1 ncap0 = nv at hI g5 ⊢
        have hS : Below wx.heap.size wx wx.drew := (Below.refl _ _).drew
        refine wp_region_held_drew (S := fun w' => Below wx.heap.size wx w') mixed hS (fun _ => ?_)
        show wpAnyH _ _ _ _ _ 23 (Array.replicate 23 false) _ _
        refine wpAnyH_take_d 0 (some 90) (.int .i64 0) rfl (by kernel_rfl) (by kernel_rfl) (by kernel_rfl) (by kernel_rfl) rfl (fun _ _ _ h => h) (fun _ _ => by kernel_rfl) (by exact hS) ?_
        simp only [Act.put, List.setIfInBounds_toArray, List.set_cons_succ, List.set_cons_zero]
        refine wpAnyH_take_d 1 (some 91) (.int .i64 0) rfl (by kernel_rfl) (by kernel_rfl) (by kernel_rfl) (by kernel_rfl) rfl (fun _ _ _ h => h) (fun _ _ => by kernel_rfl) (by exact hS) ?_
        simp only [Act.put, List.setIfInBounds_toArray, List.set_cons_succ, List.set_cons_zero]
        refine wpAnyH_take_d 2 (some 92) (.bool true) rfl (by kernel_rfl) (by kernel_rfl) (by kernel_rfl) (by kernel_rfl) rfl (fun _ _ _ h => h) (fun _ _ => by kernel_rfl) (by exact hS) ?_
        simp only [Act.put, List.setIfInBounds_toArray, List.set_cons_succ, List.set_cons_zero]
        refine wpAnyH_take_d 3 (some 93) (.bool true) rfl (by kernel_rfl) (by kernel_rfl) (by kernel_rfl) (by kernel_rfl) rfl (fun _ _ _ h => h) (fun _ _ => by kernel_rfl) (by exact hS) ?_
        simp only [Act.put, List.setIfInBounds_toArray, List.set_cons_succ, List.set_cons_zero]
        refine wpAnyH_take_d 4 (some 94) (.int .i64 0) rfl (by kernel_rfl) (by kernel_rfl) (by kernel_rfl) (by kernel_rfl) rfl (fun _ _ _ h => h) (fun _ _ => by kernel_rfl) (by exact hS) ?_
        simp only [Act.put, List.setIfInBounds_toArray, List.set_cons_succ, List.set_cons_zero]
        refine wpAnyH_take_d 5 (some 95) (.bool false) rfl (by kernel_rfl) (by kernel_rfl) (by kernel_rfl) (by kernel_rfl) rfl (fun _ _ _ h => h) (fun _ _ => by kernel_rfl) (by exact hS) ?_
        simp only [Act.put, List.setIfInBounds_toArray, List.set_cons_succ, List.set_cons_zero]
        refine wpAnyH_take_d 6 (some 96) (.bool false) rfl (by kernel_rfl) (by kernel_rfl) (by kernel_rfl) (by kernel_rfl) rfl (fun _ _ _ h => h) (fun _ _ => by kernel_rfl) (by exact hS) ?_
        simp only [Act.put, List.setIfInBounds_toArray, List.set_cons_succ, List.set_cons_zero]
        refine wpAnyH_take_d 7 (some 97) (.agg #[.int .i64 (homP bs), .string (homD bs)]) rfl (by kernel_rfl) (by kernel_rfl) (by kernel_rfl) (by kernel_rfl) rfl (fun _ _ _ h => h) (fun w' h => exec_load_row rfl rfl ((h.block sb (by omega)).trans gs) Try.underlying27 rfl (by kernel_rfl)) (by exact hS) ?_
        simp only [Act.put, List.setIfInBounds_toArray, List.set_cons_succ, List.set_cons_zero]
        refine wpAnyH_take_d 9 (some 99) (recV 3 nv ((homD bs))) rfl (by kernel_rfl) (by kernel_rfl) (by kernel_rfl) (by kernel_rfl) rfl (fun _ _ _ h => h) (fun w' h => exec_load_row rfl rfl ((h.block b5 (by omega)).trans g5) Try.underlying34 rfl (by kernel_rfl)) (by exact hS) ?_
        simp only [Act.put, List.setIfInBounds_toArray, List.set_cons_succ, List.set_cons_zero]
        generalize wx.drew = wy at hS ⊢
        refine wpAnyH_call 8 (some 98) 16 #[.agg #[.int .i64 (homP bs), .string (homD bs)]] rfl (by kernel_rfl) (by kernel_rfl) rfl (by kernel_rfl) (homeRec_any (homP bs) (homD bs) wy) ?_
        rintro e wz ⟨nw, rfl, hIw, bz⟩
        have i1 := (hI.below hS).below bz
        have hS : Below wx.heap.size wx wz := hS.trans (bz.mono hS.size)
        obtain ⟨nao, ncap, hnw, -⟩ := id hIw
        subst hnw
        refine ⟨_, rfl, hS, ?_⟩
        simp only [Act.put, List.setIfInBounds_toArray, List.set_cons_succ, List.set_cons_zero]
        have hsm := same_eq hIw i1 3 ((homD bs))
        refine wpAnyH_call 10 (some 100) 20 #[recV 3 _ ((homD bs)), recV 3 nv ((homD bs))] rfl (by kernel_rfl) (by kernel_rfl) rfl (by kernel_rfl) hsm ?_
        rintro e wv ⟨rfl, bv⟩
        have hS : Below wx.heap.size wx wv := hS.trans (bv.mono hS.size)
        refine ⟨_, rfl, hS, ?_⟩
        simp only [Act.put, List.setIfInBounds_toArray, List.set_cons_succ, List.set_cons_zero]
        refine wpAnyH_take_d 11 (some 101) (.bool true) rfl (by kernel_rfl) (by kernel_rfl) (by kernel_rfl) (by kernel_rfl) rfl (fun _ _ _ h => h) (fun _ _ => by kernel_rfl) (by exact hS) ?_
        simp only [Act.put, List.setIfInBounds_toArray, List.set_cons_succ, List.set_cons_zero]
        refine wpAnyH_take_d 12 (some 102) (.bool true) rfl (by kernel_rfl) (by kernel_rfl) (by kernel_rfl) (by kernel_rfl) rfl (fun _ _ _ h => h) (fun _ _ => by kernel_rfl) (by exact hS) ?_
        simp only [Act.put, List.setIfInBounds_toArray, List.set_cons_succ, List.set_cons_zero]
        refine wpAnyH_take_d 13 (some 103) (.bool true) rfl (by kernel_rfl) (by kernel_rfl) (by kernel_rfl) (by kernel_rfl) rfl (fun _ _ _ h => h) (fun _ _ => by kernel_rfl) (by exact hS) ?_
        simp only [Act.put, List.setIfInBounds_toArray, List.set_cons_succ, List.set_cons_zero]
        refine wpAnyH_take_d 14 (some 104) (.int .i64 0) rfl (by kernel_rfl) (by kernel_rfl) (by kernel_rfl) (by kernel_rfl) rfl (fun _ _ _ h => h) (fun _ _ => by kernel_rfl) (by exact hS) ?_
        simp only [Act.put, List.setIfInBounds_toArray, List.set_cons_succ, List.set_cons_zero]
        refine wpAnyH_take_d 15 (some 105) (.bool true) rfl (by kernel_rfl) (by kernel_rfl) (by kernel_rfl) (by kernel_rfl) rfl (fun _ _ _ h => h) (fun _ _ => by kernel_rfl) (by exact hS) ?_
        simp only [Act.put, List.setIfInBounds_toArray, List.set_cons_succ, List.set_cons_zero]
        refine wpAnyH_take_d 16 (some 106) (.bool true) rfl (by kernel_rfl) (by kernel_rfl) (by kernel_rfl) (by kernel_rfl) rfl (fun _ _ _ h => h) (fun _ _ => by kernel_rfl) (by exact hS) ?_
        simp only [Act.put, List.setIfInBounds_toArray, List.set_cons_succ, List.set_cons_zero]
        refine wpAnyH_skip_d 17 (some 107) rfl (by kernel_rfl) (by kernel_rfl) (by kernel_rfl) (by kernel_rfl) rfl (fun _ _ _ h => h) (by exact hS) ?_
        simp only [Act.put, List.setIfInBounds_toArray, List.set_cons_succ, List.set_cons_zero]
        refine wpAnyH_skip_d 18 (some 108) rfl (by kernel_rfl) (by kernel_rfl) (by kernel_rfl) (by kernel_rfl) rfl (fun _ _ _ h => h) (by exact hS) ?_
        simp only [Act.put, List.setIfInBounds_toArray, List.set_cons_succ, List.set_cons_zero]
        refine wpAnyH_skip_d 19 (some 109) rfl (by kernel_rfl) (by kernel_rfl) (by kernel_rfl) (by kernel_rfl) rfl (fun _ _ _ h => h) (by exact hS) ?_
        simp only [Act.put, List.setIfInBounds_toArray, List.set_cons_succ, List.set_cons_zero]
        refine wpAnyH_take_d 20 (some 110) (.bool true) rfl (by kernel_rfl) (by kernel_rfl) (by kernel_rfl) (by kernel_rfl) rfl (fun _ _ _ h => h) (fun _ _ => by kernel_rfl) (by exact hS) ?_
        simp only [Act.put, List.setIfInBounds_toArray, List.set_cons_succ, List.set_cons_zero]
        refine wpAnyH_take_d 21 (some 111) (.bool true) rfl (by kernel_rfl) (by kernel_rfl) (by kernel_rfl) (by kernel_rfl) rfl (fun _ _ _ h => h) (fun _ _ => by kernel_rfl) (by exact hS) ?_
        simp only [Act.put, List.setIfInBounds_toArray, List.set_cons_succ, List.set_cons_zero]
        refine wpAnyH_take_d 22 (some 2) (.bool true) rfl (by kernel_rfl) (by kernel_rfl) (by kernel_rfl) (by kernel_rfl) rfl (fun _ _ _ h => h) (fun _ _ => by kernel_rfl) (by exact hS) ?_
        simp only [Act.put, List.setIfInBounds_toArray, List.set_cons_succ, List.set_cons_zero]
        refine wpAnyH_done (by kernel_rfl) ?_ _
        have BA := BA.trans (hS.mono BA.size)
        have g5 := (hS.block b5 h5x).trans g5
        clear hS gs hI hsx h5x
        generalize wv = wa at BA g5 ⊢
        clear g5
        go_wp2
        go_ret
        exact ⟨rfl, BA⟩
      · have hE := hdd.1
        have e0' : ¬ ddE bs 3 = 0 := by rw [hE]; exact e0
        have n1 : homP bs = 0 := if_neg e0
        have n2 : homD bs = ByteArray.empty := if_neg e0
        rw [n1, n2] at hde
        have hdo := fun w => docDecRec_any bs hlen 3 (by decide) w
        have ek : ddk bs 3 = 0 := if_neg e0'
        have ez : ddz bs 3 = [] := if_neg e0'
        have et : ddt bs 3 = ByteArray.empty := if_neg e0'
        rw [hE, ek, ez, et] at hdo
        have hq0 : Hid ((homE bs == 0) = false) := Lib.hid (by simpa using e0)
        have hq1 : Hid ((homE bs != 0) = true) := Lib.hid (by simpa using e0)
        clear hdd ek ez et
        generalize homE bs = E at hde hdo hq0 hq1
        have HDO := Lib.hid hdo
        clear e0 e0' hE hdo
        go_wp2_with fail
        refine Calls.mono hde ?_
        rintro e wb ⟨rfl, bb⟩
        have gs := heap_alloc_new wb (.cells #[.int .i64 0, .string ByteArray.empty] 27)
        have bb' := bb.alloc bb.size (.cells #[.int .i64 0, .string ByteArray.empty] 27)
        have BB := BA.trans (bb'.mono BA.size)
        have hst := run_string_c (hb.below BB)
        have hdo := HDO.out (wb.alloc (.cells #[.int .i64 0, .string ByteArray.empty] 27))
        have h5s : b5 < wb.heap.size := Nat.lt_of_lt_of_le (lt_of_heap g5) bb.size
        have g5 := (bb'.block b5 (lt_of_heap g5)).trans g5
        clear hde HDO bb bb' BA hba
        go_wp2_with fail
        refine Calls.mono hdo ?_
        clear hdo hst
        generalize hsb : wb.heap.size = sb at gs h5s ⊢
        generalize wb.alloc (.cells #[.int .i64 0, .string ByteArray.empty] 27) = wc at gs BB g5 ⊢
        have hsw := lt_of_heap gs
        have h5c := lt_of_heap g5
        rintro e wd ⟨nv, rfl, hI, bd, hob⟩
        have gs := (bd.block sb hsw).trans gs
        have BA := BB.trans (bd.mono BB.size)
        obtain ⟨nao0, ncap0, hnv, -⟩ := id hI
        subst hnv
        clear hsb BB hsw
        have g5 := (bd.block b5 (lt_of_heap g5)).trans g5
        have K1 : StoreOk 34 #[y0, y1, y2] #[.int .i64 0, .slice nao0 0 ncap0, .string ByteArray.empty] := ⟨by kernel_rfl, rfl, by simp [Value.oneCell']⟩
        go_wp2_with (with_reducible refine wpList_store_row2 rfl 34 (.tmp 5) (.tmp 88) rfl b5 #[.int .i64 0, .slice nao0 0 ncap0, .string ByteArray.empty] rfl rfl 34 #[y0, y1, y2] g5 K1 ?_)
        have gs := (setRow_other wd b5 sb #[.int .i64 0, .slice nao0 0 ncap0, .string ByteArray.empty] (by omega)).trans gs
        have BA := below_setRow BA h5W #[.int .i64 0, .slice nao0 0 ncap0, .string ByteArray.empty]
        have hI : IntC (wd.setRow b5 #[.int .i64 0, .slice nao0 0 ncap0, .string ByteArray.empty]) (.slice nao0 0 ncap0) [] := hI.keep fun k hk => setRow_other wd b5 k _ (by have := hob k hk; omega)
        have g5 := setRow_heap wd b5 _ #[.int .i64 0, .slice nao0 0 ncap0, .string ByteArray.empty] _ _ g5
        generalize wd.setRow b5 #[.int .i64 0, .slice nao0 0 ncap0, .string ByteArray.empty] = wx at g5 gs BA hI ⊢
        clear bd K1 hob h5c h5s
        go_wp2_with fail
        have hsx := lt_of_heap gs
        have h5x := lt_of_heap g5
        generalize hnv : Value.slice nao0 0 ncap0 = nv at hI g5 ⊢
        have hS : Below wx.heap.size wx wx.drew := (Below.refl _ _).drew
        refine wp_region_held_drew (S := fun w' => Below wx.heap.size wx w') mixed hS (fun _ => ?_)
        show wpAnyH _ _ _ _ _ 23 (Array.replicate 23 false) _ _
        refine wpAnyH_take_d 0 (some 90) (.int .i64 E) rfl (by kernel_rfl) (by kernel_rfl) (by kernel_rfl) (by kernel_rfl) rfl (fun _ _ _ h => h) (fun _ _ => by kernel_rfl) (by exact hS) ?_
        simp only [Act.put, List.setIfInBounds_toArray, List.set_cons_succ, List.set_cons_zero]
        refine wpAnyH_take_d 1 (some 91) (.int .i64 E) rfl (by kernel_rfl) (by kernel_rfl) (by kernel_rfl) (by kernel_rfl) rfl (fun _ _ _ h => h) (fun _ _ => by kernel_rfl) (by exact hS) ?_
        simp only [Act.put, List.setIfInBounds_toArray, List.set_cons_succ, List.set_cons_zero]
        refine wpAnyH_take_d 2 (some 92) (.bool true) rfl (by kernel_rfl) (by kernel_rfl) (by kernel_rfl) (by kernel_rfl) rfl (fun _ _ _ h => h) (fun w' h => exec_inteqb rfl rfl rfl (by simp)) (by exact hS) ?_
        simp only [Act.put, List.setIfInBounds_toArray, List.set_cons_succ, List.set_cons_zero]
        refine wpAnyH_take_d 3 (some 93) (.bool true) rfl (by kernel_rfl) (by kernel_rfl) (by kernel_rfl) (by kernel_rfl) rfl (fun _ _ _ h => h) (fun _ _ => by kernel_rfl) (by exact hS) ?_
        simp only [Act.put, List.setIfInBounds_toArray, List.set_cons_succ, List.set_cons_zero]
        refine wpAnyH_take_d 4 (some 94) (.int .i64 E) rfl (by kernel_rfl) (by kernel_rfl) (by kernel_rfl) (by kernel_rfl) rfl (fun _ _ _ h => h) (fun _ _ => by kernel_rfl) (by exact hS) ?_
        simp only [Act.put, List.setIfInBounds_toArray, List.set_cons_succ, List.set_cons_zero]
        refine wpAnyH_take_d 5 (some 95) (.bool true) rfl (by kernel_rfl) (by kernel_rfl) (by kernel_rfl) (by kernel_rfl) rfl (fun _ _ _ h => h) (fun w' h => exec_intneq rfl rfl rfl hq1.out) (by exact hS) ?_
        simp only [Act.put, List.setIfInBounds_toArray, List.set_cons_succ, List.set_cons_zero]
        refine wpAnyH_take_d 6 (some 96) (.bool true) rfl (by kernel_rfl) (by kernel_rfl) (by kernel_rfl) (by kernel_rfl) rfl (fun _ _ _ h => h) (fun _ _ => by kernel_rfl) (by exact hS) ?_
        simp only [Act.put, List.setIfInBounds_toArray, List.set_cons_succ, List.set_cons_zero]
        refine wpAnyH_skip_d 7 (some 97) rfl (by kernel_rfl) (by kernel_rfl) (by kernel_rfl) (by kernel_rfl) rfl (fun _ _ _ h => h) (by exact hS) ?_
        simp only [Act.put, List.setIfInBounds_toArray, List.set_cons_succ, List.set_cons_zero]
        refine wpAnyH_skip_d 8 (some 98) rfl (by kernel_rfl) (by kernel_rfl) (by kernel_rfl) (by kernel_rfl) rfl (fun _ _ _ h => h) (by exact hS) ?_
        simp only [Act.put, List.setIfInBounds_toArray, List.set_cons_succ, List.set_cons_zero]
        refine wpAnyH_skip_d 9 (some 99) rfl (by kernel_rfl) (by kernel_rfl) (by kernel_rfl) (by kernel_rfl) rfl (fun _ _ _ h => h) (by exact hS) ?_
        simp only [Act.put, List.setIfInBounds_toArray, List.set_cons_succ, List.set_cons_zero]
        refine wpAnyH_skip_d 10 (some 100) rfl (by kernel_rfl) (by kernel_rfl) (by kernel_rfl) (by kernel_rfl) rfl (fun _ _ _ h => h) (by exact hS) ?_
        simp only [Act.put, List.setIfInBounds_toArray, List.set_cons_succ, List.set_cons_zero]
        refine wpAnyH_take_d 11 (some 101) (.bool true) rfl (by kernel_rfl) (by kernel_rfl) (by kernel_rfl) (by kernel_rfl) rfl (fun _ _ _ h => h) (fun _ _ => by kernel_rfl) (by exact hS) ?_
        simp only [Act.put, List.setIfInBounds_toArray, List.set_cons_succ, List.set_cons_zero]
        refine wpAnyH_take_d 12 (some 102) (.bool true) rfl (by kernel_rfl) (by kernel_rfl) (by kernel_rfl) (by kernel_rfl) rfl (fun _ _ _ h => h) (fun _ _ => by kernel_rfl) (by exact hS) ?_
        simp only [Act.put, List.setIfInBounds_toArray, List.set_cons_succ, List.set_cons_zero]
        refine wpAnyH_take_d 13 (some 103) (.bool true) rfl (by kernel_rfl) (by kernel_rfl) (by kernel_rfl) (by kernel_rfl) rfl (fun _ _ _ h => h) (fun _ _ => by kernel_rfl) (by exact hS) ?_
        simp only [Act.put, List.setIfInBounds_toArray, List.set_cons_succ, List.set_cons_zero]
        refine wpAnyH_take_d 14 (some 104) (.int .i64 E) rfl (by kernel_rfl) (by kernel_rfl) (by kernel_rfl) (by kernel_rfl) rfl (fun _ _ _ h => h) (fun _ _ => by kernel_rfl) (by exact hS) ?_
        simp only [Act.put, List.setIfInBounds_toArray, List.set_cons_succ, List.set_cons_zero]
        refine wpAnyH_take_d 15 (some 105) (.bool false) rfl (by kernel_rfl) (by kernel_rfl) (by kernel_rfl) (by kernel_rfl) rfl (fun _ _ _ h => h) (fun w' h => exec_inteqb rfl rfl rfl hq0.out) (by exact hS) ?_
        simp only [Act.put, List.setIfInBounds_toArray, List.set_cons_succ, List.set_cons_zero]
        refine wpAnyH_take_d 16 (some 106) (.bool false) rfl (by kernel_rfl) (by kernel_rfl) (by kernel_rfl) (by kernel_rfl) rfl (fun _ _ _ h => h) (fun _ _ => by kernel_rfl) (by exact hS) ?_
        simp only [Act.put, List.setIfInBounds_toArray, List.set_cons_succ, List.set_cons_zero]
        refine wpAnyH_take_d 17 (some 107) (.agg #[.int .i64 0, .string ByteArray.empty]) rfl (by kernel_rfl) (by kernel_rfl) (by kernel_rfl) (by kernel_rfl) rfl (fun _ _ _ h => h) (fun w' h => exec_load_row rfl rfl ((h.block sb (by omega)).trans gs) Try.underlying27 rfl (by kernel_rfl)) (by exact hS) ?_
        simp only [Act.put, List.setIfInBounds_toArray, List.set_cons_succ, List.set_cons_zero]
        refine wpAnyH_take_d 18 (some 108) (.agg #[.int .i64 0, .string ByteArray.empty]) rfl (by kernel_rfl) (by kernel_rfl) (by kernel_rfl) (by kernel_rfl) rfl (fun _ _ _ h => h) (fun _ _ => by kernel_rfl) (by exact hS) ?_
        simp only [Act.put, List.setIfInBounds_toArray, List.set_cons_succ, List.set_cons_zero]
        refine wpAnyH_take_d 19 (some 109) (.bool true) rfl (by kernel_rfl) (by kernel_rfl) (by kernel_rfl) (by kernel_rfl) rfl (fun _ _ _ h => h) (fun _ _ => by kernel_rfl) (by exact hS) ?_
        simp only [Act.put, List.setIfInBounds_toArray, List.set_cons_succ, List.set_cons_zero]
        refine wpAnyH_take_d 20 (some 110) (.bool true) rfl (by kernel_rfl) (by kernel_rfl) (by kernel_rfl) (by kernel_rfl) rfl (fun _ _ _ h => h) (fun _ _ => by kernel_rfl) (by exact hS) ?_
        simp only [Act.put, List.setIfInBounds_toArray, List.set_cons_succ, List.set_cons_zero]
        refine wpAnyH_take_d 21 (some 111) (.bool true) rfl (by kernel_rfl) (by kernel_rfl) (by kernel_rfl) (by kernel_rfl) rfl (fun _ _ _ h => h) (fun _ _ => by kernel_rfl) (by exact hS) ?_
        simp only [Act.put, List.setIfInBounds_toArray, List.set_cons_succ, List.set_cons_zero]
        refine wpAnyH_take_d 22 (some 2) (.bool true) rfl (by kernel_rfl) (by kernel_rfl) (by kernel_rfl) (by kernel_rfl) rfl (fun _ _ _ h => h) (fun _ _ => by kernel_rfl) (by exact hS) ?_
        simp only [Act.put, List.setIfInBounds_toArray, List.set_cons_succ, List.set_cons_zero]
        refine wpAnyH_done (by kernel_rfl) ?_ _
        have BA := BA.trans (hS.mono BA.size)
        have g5 := (hS.block b5 h5x).trans g5
        clear hS gs hI hsx h5x
        generalize wx.drew = wa at BA g5 ⊢
        clear g5
        go_wp2
        go_ret
        exact ⟨rfl, BA⟩
    · have hE := hdd.1
      have e0' : ¬ ddE bs 2 = 0 := by rw [hE]; exact e0
      have n1 : logV bs = lgNone := if_neg e0
      rw [n1] at hde
      unfold lgNone at hde
      have hdo := fun w => docDecRec_any bs hlen 2 (by decide) w
      have ek : ddk bs 2 = 0 := if_neg e0'
      have ez : ddz bs 2 = [] := if_neg e0'
      have et : ddt bs 2 = ByteArray.empty := if_neg e0'
      rw [hE, ek, ez, et] at hdo
      have hq0 : Hid ((logE bs == 0) = false) := Lib.hid (by simpa using e0)
      have hq1 : Hid ((logE bs != 0) = true) := Lib.hid (by simpa using e0)
      clear hdd ek ez et
      generalize logE bs = E at hde hdo hq0 hq1
      have HDO := Lib.hid hdo
      clear e0 e0' hE hdo
      go_wp2_with fail
      refine Calls.mono hde ?_
      rintro e wb ⟨rfl, bb⟩
      have gs := heap_alloc_new wb (.cells #[.int .i64 0, .int .i64 0, .int .i64 0, .int .i64 0, .int .i64 0, .int .i64 0, .int .i64 0, .string ByteArray.empty] 25)
      have bb' := bb.alloc bb.size (.cells #[.int .i64 0, .int .i64 0, .int .i64 0, .int .i64 0, .int .i64 0, .int .i64 0, .int .i64 0, .string ByteArray.empty] 25)
      have BB := BA.trans (bb'.mono BA.size)
      have hst := run_string_c (hb.below BB)
      have hdo := HDO.out (wb.alloc (.cells #[.int .i64 0, .int .i64 0, .int .i64 0, .int .i64 0, .int .i64 0, .int .i64 0, .int .i64 0, .string ByteArray.empty] 25))
      have h5s : b5 < wb.heap.size := Nat.lt_of_lt_of_le (lt_of_heap g5) bb.size
      have g5 := (bb'.block b5 (lt_of_heap g5)).trans g5
      clear hde HDO bb bb' BA hba
      go_wp2_with fail
      refine Calls.mono hdo ?_
      clear hdo hst
      generalize hsb : wb.heap.size = sb at gs h5s ⊢
      generalize wb.alloc (.cells #[.int .i64 0, .int .i64 0, .int .i64 0, .int .i64 0, .int .i64 0, .int .i64 0, .int .i64 0, .string ByteArray.empty] 25) = wc at gs BB g5 ⊢
      have hsw := lt_of_heap gs
      have h5c := lt_of_heap g5
      rintro e wd ⟨nv, rfl, hI, bd, hob⟩
      have gs := (bd.block sb hsw).trans gs
      have BA := BB.trans (bd.mono BB.size)
      obtain ⟨nao0, ncap0, hnv, -⟩ := id hI
      subst hnv
      clear hsb BB hsw
      have g5 := (bd.block b5 (lt_of_heap g5)).trans g5
      have K1 : StoreOk 34 #[y0, y1, y2] #[.int .i64 0, .slice nao0 0 ncap0, .string ByteArray.empty] := ⟨by kernel_rfl, rfl, by simp [Value.oneCell']⟩
      go_wp2_with (with_reducible refine wpList_store_row2 rfl 34 (.tmp 5) (.tmp 54) rfl b5 #[.int .i64 0, .slice nao0 0 ncap0, .string ByteArray.empty] rfl rfl 34 #[y0, y1, y2] g5 K1 ?_)
      have gs := (setRow_other wd b5 sb #[.int .i64 0, .slice nao0 0 ncap0, .string ByteArray.empty] (by omega)).trans gs
      have BA := below_setRow BA h5W #[.int .i64 0, .slice nao0 0 ncap0, .string ByteArray.empty]
      have hI : IntC (wd.setRow b5 #[.int .i64 0, .slice nao0 0 ncap0, .string ByteArray.empty]) (.slice nao0 0 ncap0) [] := hI.keep fun k hk => setRow_other wd b5 k _ (by have := hob k hk; omega)
      have g5 := setRow_heap wd b5 _ #[.int .i64 0, .slice nao0 0 ncap0, .string ByteArray.empty] _ _ g5
      generalize wd.setRow b5 #[.int .i64 0, .slice nao0 0 ncap0, .string ByteArray.empty] = wx at g5 gs BA hI ⊢
      clear bd K1 hob h5c h5s
      go_wp2_with fail
      have hsx := lt_of_heap gs
      have h5x := lt_of_heap g5
      generalize hnv : Value.slice nao0 0 ncap0 = nv at hI g5 ⊢
      have hS : Below wx.heap.size wx wx.drew := (Below.refl _ _).drew
      refine wp_region_held_drew (S := fun w' => Below wx.heap.size wx w') mixed hS (fun _ => ?_)
      show wpAnyH _ _ _ _ _ 23 (Array.replicate 23 false) _ _
      refine wpAnyH_take_d 0 (some 56) (.int .i64 E) rfl (by kernel_rfl) (by kernel_rfl) (by kernel_rfl) (by kernel_rfl) rfl (fun _ _ _ h => h) (fun _ _ => by kernel_rfl) (by exact hS) ?_
      simp only [Act.put, List.setIfInBounds_toArray, List.set_cons_succ, List.set_cons_zero]
      refine wpAnyH_take_d 1 (some 57) (.int .i64 E) rfl (by kernel_rfl) (by kernel_rfl) (by kernel_rfl) (by kernel_rfl) rfl (fun _ _ _ h => h) (fun _ _ => by kernel_rfl) (by exact hS) ?_
      simp only [Act.put, List.setIfInBounds_toArray, List.set_cons_succ, List.set_cons_zero]
      refine wpAnyH_take_d 2 (some 58) (.bool false) rfl (by kernel_rfl) (by kernel_rfl) (by kernel_rfl) (by kernel_rfl) rfl (fun _ _ _ h => h) (fun w' h => exec_intneq rfl rfl rfl (by simp)) (by exact hS) ?_
      simp only [Act.put, List.setIfInBounds_toArray, List.set_cons_succ, List.set_cons_zero]
      refine wpAnyH_take_d 3 (some 59) (.bool false) rfl (by kernel_rfl) (by kernel_rfl) (by kernel_rfl) (by kernel_rfl) rfl (fun _ _ _ h => h) (fun _ _ => by kernel_rfl) (by exact hS) ?_
      simp only [Act.put, List.setIfInBounds_toArray, List.set_cons_succ, List.set_cons_zero]
      refine wpAnyH_take_d 4 (some 60) (.int .i64 E) rfl (by kernel_rfl) (by kernel_rfl) (by kernel_rfl) (by kernel_rfl) rfl (fun _ _ _ h => h) (fun _ _ => by kernel_rfl) (by exact hS) ?_
      simp only [Act.put, List.setIfInBounds_toArray, List.set_cons_succ, List.set_cons_zero]
      refine wpAnyH_take_d 5 (some 61) (.bool false) rfl (by kernel_rfl) (by kernel_rfl) (by kernel_rfl) (by kernel_rfl) rfl (fun _ _ _ h => h) (fun w' h => exec_inteqb rfl rfl rfl hq0.out) (by exact hS) ?_
      simp only [Act.put, List.setIfInBounds_toArray, List.set_cons_succ, List.set_cons_zero]
      refine wpAnyH_take_d 6 (some 62) (.bool false) rfl (by kernel_rfl) (by kernel_rfl) (by kernel_rfl) (by kernel_rfl) rfl (fun _ _ _ h => h) (fun _ _ => by kernel_rfl) (by exact hS) ?_
      simp only [Act.put, List.setIfInBounds_toArray, List.set_cons_succ, List.set_cons_zero]
      refine wpAnyH_skip_d 7 (some 63) rfl (by kernel_rfl) (by kernel_rfl) (by kernel_rfl) (by kernel_rfl) rfl (fun _ _ _ h => h) (by exact hS) ?_
      simp only [Act.put, List.setIfInBounds_toArray, List.set_cons_succ, List.set_cons_zero]
      refine wpAnyH_skip_d 8 (some 64) rfl (by kernel_rfl) (by kernel_rfl) (by kernel_rfl) (by kernel_rfl) rfl (fun _ _ _ h => h) (by exact hS) ?_
      simp only [Act.put, List.setIfInBounds_toArray, List.set_cons_succ, List.set_cons_zero]
      refine wpAnyH_skip_d 9 (some 65) rfl (by kernel_rfl) (by kernel_rfl) (by kernel_rfl) (by kernel_rfl) rfl (fun _ _ _ h => h) (by exact hS) ?_
      simp only [Act.put, List.setIfInBounds_toArray, List.set_cons_succ, List.set_cons_zero]
      refine wpAnyH_skip_d 10 (some 66) rfl (by kernel_rfl) (by kernel_rfl) (by kernel_rfl) (by kernel_rfl) rfl (fun _ _ _ h => h) (by exact hS) ?_
      simp only [Act.put, List.setIfInBounds_toArray, List.set_cons_succ, List.set_cons_zero]
      refine wpAnyH_skip_d 11 (some 67) rfl (by kernel_rfl) (by kernel_rfl) (by kernel_rfl) (by kernel_rfl) rfl (fun _ _ _ h => h) (by exact hS) ?_
      simp only [Act.put, List.setIfInBounds_toArray, List.set_cons_succ, List.set_cons_zero]
      refine wpAnyH_take_d 12 (some 68) (.bool false) rfl (by kernel_rfl) (by kernel_rfl) (by kernel_rfl) (by kernel_rfl) rfl (fun _ _ _ h => h) (fun _ _ => by kernel_rfl) (by exact hS) ?_
      simp only [Act.put, List.setIfInBounds_toArray, List.set_cons_succ, List.set_cons_zero]
      refine wpAnyH_take_d 13 (some 69) (.bool false) rfl (by kernel_rfl) (by kernel_rfl) (by kernel_rfl) (by kernel_rfl) rfl (fun _ _ _ h => h) (fun _ _ => by kernel_rfl) (by exact hS) ?_
      simp only [Act.put, List.setIfInBounds_toArray, List.set_cons_succ, List.set_cons_zero]
      refine wpAnyH_take_d 14 (some 70) (.bool false) rfl (by kernel_rfl) (by kernel_rfl) (by kernel_rfl) (by kernel_rfl) rfl (fun _ _ _ h => h) (fun _ _ => by kernel_rfl) (by exact hS) ?_
      simp only [Act.put, List.setIfInBounds_toArray, List.set_cons_succ, List.set_cons_zero]
      refine wpAnyH_take_d 15 (some 71) (.int .i64 E) rfl (by kernel_rfl) (by kernel_rfl) (by kernel_rfl) (by kernel_rfl) rfl (fun _ _ _ h => h) (fun _ _ => by kernel_rfl) (by exact hS) ?_
      simp only [Act.put, List.setIfInBounds_toArray, List.set_cons_succ, List.set_cons_zero]
      refine wpAnyH_take_d 16 (some 72) (.bool true) rfl (by kernel_rfl) (by kernel_rfl) (by kernel_rfl) (by kernel_rfl) rfl (fun _ _ _ h => h) (fun w' h => exec_intneq rfl rfl rfl hq1.out) (by exact hS) ?_
      simp only [Act.put, List.setIfInBounds_toArray, List.set_cons_succ, List.set_cons_zero]
      refine wpAnyH_take_d 17 (some 73) (.bool true) rfl (by kernel_rfl) (by kernel_rfl) (by kernel_rfl) (by kernel_rfl) rfl (fun _ _ _ h => h) (fun _ _ => by kernel_rfl) (by exact hS) ?_
      simp only [Act.put, List.setIfInBounds_toArray, List.set_cons_succ, List.set_cons_zero]
      refine wpAnyH_take_d 18 (some 74) (.agg #[.int .i64 0, .int .i64 0, .int .i64 0, .int .i64 0, .int .i64 0, .int .i64 0, .int .i64 0, .string ByteArray.empty]) rfl (by kernel_rfl) (by kernel_rfl) (by kernel_rfl) (by kernel_rfl) rfl (fun _ _ _ h => h) (fun w' h => exec_load_row rfl rfl ((h.block sb (by omega)).trans gs) Try.underlying25 rfl (by kernel_rfl)) (by exact hS) ?_
      simp only [Act.put, List.setIfInBounds_toArray, List.set_cons_succ, List.set_cons_zero]
      refine wpAnyH_take_d 19 (some 75) (.agg #[.int .i64 0, .int .i64 0, .int .i64 0, .int .i64 0, .int .i64 0, .int .i64 0, .int .i64 0, .string ByteArray.empty]) rfl (by kernel_rfl) (by kernel_rfl) (by kernel_rfl) (by kernel_rfl) rfl (fun _ _ _ h => h) (fun _ _ => by kernel_rfl) (by exact hS) ?_
      simp only [Act.put, List.setIfInBounds_toArray, List.set_cons_succ, List.set_cons_zero]
      refine wpAnyH_take_d 20 (some 76) (.bool false) rfl (by kernel_rfl) (by kernel_rfl) (by kernel_rfl) (by kernel_rfl) rfl (fun _ _ _ h => h) (fun _ _ => by kernel_rfl) (by exact hS) ?_
      simp only [Act.put, List.setIfInBounds_toArray, List.set_cons_succ, List.set_cons_zero]
      refine wpAnyH_take_d 21 (some 77) (.bool false) rfl (by kernel_rfl) (by kernel_rfl) (by kernel_rfl) (by kernel_rfl) rfl (fun _ _ _ h => h) (fun _ _ => by kernel_rfl) (by exact hS) ?_
      simp only [Act.put, List.setIfInBounds_toArray, List.set_cons_succ, List.set_cons_zero]
      refine wpAnyH_take_d 22 (some 78) (.bool false) rfl (by kernel_rfl) (by kernel_rfl) (by kernel_rfl) (by kernel_rfl) rfl (fun _ _ _ h => h) (fun _ _ => by kernel_rfl) (by exact hS) ?_
      simp only [Act.put, List.setIfInBounds_toArray, List.set_cons_succ, List.set_cons_zero]
      refine wpAnyH_done (by kernel_rfl) ?_ _
      have BA := BA.trans (hS.mono BA.size)
      have g5 := (hS.block b5 h5x).trans g5
      clear hS gs hI hsx h5x
      generalize wx.drew = wa at BA g5 ⊢
      obtain ⟨y0, y1, y2, hy⟩ : ∃ y0 y1 y2, #[.int .i64 0, nv, .string (ByteArray.empty)] = #[y0, y1, y2] := ⟨_, _, _, rfl⟩
      rw [hy] at g5
      clear hy
      have hba := hb.below BA
      have hde := decodeHome_any hba hcap
      have hdd := dd_home bs
      by_cases e0 : homE bs = 0
      · have hz := hdd.2 e0
        have hE := hdd.1
        rw [e0] at hde hE
        have hdo := fun w => docDecRec_any bs hlen 3 (by decide) w
        have ek : ddk bs 3 = 3 := if_pos hE
        rw [hE, hz.1, hz.2, ek] at hdo
        have HDO := Lib.hid hdo
        clear hdd hE hz ek hdo e0
        go_wp2_with fail
        refine Calls.mono hde ?_
        rintro e wb ⟨rfl, bb⟩
        have gs := heap_alloc_new wb (.cells #[.int .i64 (homP bs), .string (homD bs)] 27)
        have bb' := bb.alloc bb.size (.cells #[.int .i64 (homP bs), .string (homD bs)] 27)
        have BB := BA.trans (bb'.mono BA.size)
        have hst := run_string_c (hb.below BB)
        have hdo := HDO.out (wb.alloc (.cells #[.int .i64 (homP bs), .string (homD bs)] 27))
        have h5s : b5 < wb.heap.size := Nat.lt_of_lt_of_le (lt_of_heap g5) bb.size
        have g5 := (bb'.block b5 (lt_of_heap g5)).trans g5
        clear hde HDO bb bb' BA hba
        go_wp2_with fail
        refine Calls.mono hdo ?_
        clear hdo hst
        generalize hsb : wb.heap.size = sb at gs h5s ⊢
        generalize wb.alloc (.cells #[.int .i64 (homP bs), .string (homD bs)] 27) = wc at gs BB g5 ⊢
        have hsw := lt_of_heap gs
        have h5c := lt_of_heap g5
        rintro e wd ⟨nv, rfl, hI, bd, hob⟩
        have gs := (bd.block sb hsw).trans gs
        have BA := BB.trans (bd.mono BB.size)
        obtain ⟨nao0, ncap0, hnv, -⟩ := id hI
        subst hnv
        clear hsb BB hsw
        have g5 := (bd.block b5 (lt_of_heap g5)).trans g5
        have K1 : StoreOk 34 #[y0, y1, y2] #[.int .i64 3, .slice nao0 1 ncap0, .string (homD bs)] := ⟨by kernel_rfl, rfl, by simp [Value.oneCell']⟩
        go_wp2_with (with_reducible refine wpList_store_row2 rfl 34 (.tmp 5) (.tmp 88) rfl b5 #[.int .i64 3, .slice nao0 1 ncap0, .string (homD bs)] rfl rfl 34 #[y0, y1, y2] g5 K1 ?_)
        have gs := (setRow_other wd b5 sb #[.int .i64 3, .slice nao0 1 ncap0, .string (homD bs)] (by omega)).trans gs
        have BA := below_setRow BA h5W #[.int .i64 3, .slice nao0 1 ncap0, .string (homD bs)]
        have hI : IntC (wd.setRow b5 #[.int .i64 3, .slice nao0 1 ncap0, .string (homD bs)]) (.slice nao0 1 ncap0) [homP bs] := hI.keep fun k hk => setRow_other wd b5 k _ (by have := hob k hk; omega)
        have g5 := setRow_heap wd b5 _ #[.int .i64 3, .slice nao0 1 ncap0, .string (homD bs)] _ _ g5
        generalize wd.setRow b5 #[.int .i64 3, .slice nao0 1 ncap0, .string (homD bs)] = wx at g5 gs BA hI ⊢
        clear bd K1 hob h5c h5s
        go_wp2_with fail
        have hsx := lt_of_heap gs
        have h5x := lt_of_heap g5
        generalize hnv : Value.slice nao0 1 ncap0 = nv at hI g5 ⊢
        have hS : Below wx.heap.size wx wx.drew := (Below.refl _ _).drew
        refine wp_region_held_drew (S := fun w' => Below wx.heap.size wx w') mixed hS (fun _ => ?_)
        show wpAnyH _ _ _ _ _ 23 (Array.replicate 23 false) _ _
        refine wpAnyH_take_d 0 (some 90) (.int .i64 0) rfl (by kernel_rfl) (by kernel_rfl) (by kernel_rfl) (by kernel_rfl) rfl (fun _ _ _ h => h) (fun _ _ => by kernel_rfl) (by exact hS) ?_
        simp only [Act.put, List.setIfInBounds_toArray, List.set_cons_succ, List.set_cons_zero]
        refine wpAnyH_take_d 1 (some 91) (.int .i64 0) rfl (by kernel_rfl) (by kernel_rfl) (by kernel_rfl) (by kernel_rfl) rfl (fun _ _ _ h => h) (fun _ _ => by kernel_rfl) (by exact hS) ?_
        simp only [Act.put, List.setIfInBounds_toArray, List.set_cons_succ, List.set_cons_zero]
        refine wpAnyH_take_d 2 (some 92) (.bool true) rfl (by kernel_rfl) (by kernel_rfl) (by kernel_rfl) (by kernel_rfl) rfl (fun _ _ _ h => h) (fun _ _ => by kernel_rfl) (by exact hS) ?_
        simp only [Act.put, List.setIfInBounds_toArray, List.set_cons_succ, List.set_cons_zero]
        refine wpAnyH_take_d 3 (some 93) (.bool true) rfl (by kernel_rfl) (by kernel_rfl) (by kernel_rfl) (by kernel_rfl) rfl (fun _ _ _ h => h) (fun _ _ => by kernel_rfl) (by exact hS) ?_
        simp only [Act.put, List.setIfInBounds_toArray, List.set_cons_succ, List.set_cons_zero]
        refine wpAnyH_take_d 4 (some 94) (.int .i64 0) rfl (by kernel_rfl) (by kernel_rfl) (by kernel_rfl) (by kernel_rfl) rfl (fun _ _ _ h => h) (fun _ _ => by kernel_rfl) (by exact hS) ?_
        simp only [Act.put, List.setIfInBounds_toArray, List.set_cons_succ, List.set_cons_zero]
        refine wpAnyH_take_d 5 (some 95) (.bool false) rfl (by kernel_rfl) (by kernel_rfl) (by kernel_rfl) (by kernel_rfl) rfl (fun _ _ _ h => h) (fun _ _ => by kernel_rfl) (by exact hS) ?_
        simp only [Act.put, List.setIfInBounds_toArray, List.set_cons_succ, List.set_cons_zero]
        refine wpAnyH_take_d 6 (some 96) (.bool false) rfl (by kernel_rfl) (by kernel_rfl) (by kernel_rfl) (by kernel_rfl) rfl (fun _ _ _ h => h) (fun _ _ => by kernel_rfl) (by exact hS) ?_
        simp only [Act.put, List.setIfInBounds_toArray, List.set_cons_succ, List.set_cons_zero]
        refine wpAnyH_take_d 7 (some 97) (.agg #[.int .i64 (homP bs), .string (homD bs)]) rfl (by kernel_rfl) (by kernel_rfl) (by kernel_rfl) (by kernel_rfl) rfl (fun _ _ _ h => h) (fun w' h => exec_load_row rfl rfl ((h.block sb (by omega)).trans gs) Try.underlying27 rfl (by kernel_rfl)) (by exact hS) ?_
        simp only [Act.put, List.setIfInBounds_toArray, List.set_cons_succ, List.set_cons_zero]
        refine wpAnyH_take_d 9 (some 99) (recV 3 nv ((homD bs))) rfl (by kernel_rfl) (by kernel_rfl) (by kernel_rfl) (by kernel_rfl) rfl (fun _ _ _ h => h) (fun w' h => exec_load_row rfl rfl ((h.block b5 (by omega)).trans g5) Try.underlying34 rfl (by kernel_rfl)) (by exact hS) ?_
        simp only [Act.put, List.setIfInBounds_toArray, List.set_cons_succ, List.set_cons_zero]
        generalize wx.drew = wy at hS ⊢
        refine wpAnyH_call 8 (some 98) 16 #[.agg #[.int .i64 (homP bs), .string (homD bs)]] rfl (by kernel_rfl) (by kernel_rfl) rfl (by kernel_rfl) (homeRec_any (homP bs) (homD bs) wy) ?_
        rintro e wz ⟨nw, rfl, hIw, bz⟩
        have i1 := (hI.below hS).below bz
        have hS : Below wx.heap.size wx wz := hS.trans (bz.mono hS.size)
        obtain ⟨nao, ncap, hnw, -⟩ := id hIw
        subst hnw
        refine ⟨_, rfl, hS, ?_⟩
        simp only [Act.put, List.setIfInBounds_toArray, List.set_cons_succ, List.set_cons_zero]
        have hsm := same_eq hIw i1 3 ((homD bs))
        refine wpAnyH_call 10 (some 100) 20 #[recV 3 _ ((homD bs)), recV 3 nv ((homD bs))] rfl (by kernel_rfl) (by kernel_rfl) rfl (by kernel_rfl) hsm ?_
        rintro e wv ⟨rfl, bv⟩
        have hS : Below wx.heap.size wx wv := hS.trans (bv.mono hS.size)
        refine ⟨_, rfl, hS, ?_⟩
        simp only [Act.put, List.setIfInBounds_toArray, List.set_cons_succ, List.set_cons_zero]
        refine wpAnyH_take_d 11 (some 101) (.bool true) rfl (by kernel_rfl) (by kernel_rfl) (by kernel_rfl) (by kernel_rfl) rfl (fun _ _ _ h => h) (fun _ _ => by kernel_rfl) (by exact hS) ?_
        simp only [Act.put, List.setIfInBounds_toArray, List.set_cons_succ, List.set_cons_zero]
        refine wpAnyH_take_d 12 (some 102) (.bool true) rfl (by kernel_rfl) (by kernel_rfl) (by kernel_rfl) (by kernel_rfl) rfl (fun _ _ _ h => h) (fun _ _ => by kernel_rfl) (by exact hS) ?_
        simp only [Act.put, List.setIfInBounds_toArray, List.set_cons_succ, List.set_cons_zero]
        refine wpAnyH_take_d 13 (some 103) (.bool true) rfl (by kernel_rfl) (by kernel_rfl) (by kernel_rfl) (by kernel_rfl) rfl (fun _ _ _ h => h) (fun _ _ => by kernel_rfl) (by exact hS) ?_
        simp only [Act.put, List.setIfInBounds_toArray, List.set_cons_succ, List.set_cons_zero]
        refine wpAnyH_take_d 14 (some 104) (.int .i64 0) rfl (by kernel_rfl) (by kernel_rfl) (by kernel_rfl) (by kernel_rfl) rfl (fun _ _ _ h => h) (fun _ _ => by kernel_rfl) (by exact hS) ?_
        simp only [Act.put, List.setIfInBounds_toArray, List.set_cons_succ, List.set_cons_zero]
        refine wpAnyH_take_d 15 (some 105) (.bool true) rfl (by kernel_rfl) (by kernel_rfl) (by kernel_rfl) (by kernel_rfl) rfl (fun _ _ _ h => h) (fun _ _ => by kernel_rfl) (by exact hS) ?_
        simp only [Act.put, List.setIfInBounds_toArray, List.set_cons_succ, List.set_cons_zero]
        refine wpAnyH_take_d 16 (some 106) (.bool true) rfl (by kernel_rfl) (by kernel_rfl) (by kernel_rfl) (by kernel_rfl) rfl (fun _ _ _ h => h) (fun _ _ => by kernel_rfl) (by exact hS) ?_
        simp only [Act.put, List.setIfInBounds_toArray, List.set_cons_succ, List.set_cons_zero]
        refine wpAnyH_skip_d 17 (some 107) rfl (by kernel_rfl) (by kernel_rfl) (by kernel_rfl) (by kernel_rfl) rfl (fun _ _ _ h => h) (by exact hS) ?_
        simp only [Act.put, List.setIfInBounds_toArray, List.set_cons_succ, List.set_cons_zero]
        refine wpAnyH_skip_d 18 (some 108) rfl (by kernel_rfl) (by kernel_rfl) (by kernel_rfl) (by kernel_rfl) rfl (fun _ _ _ h => h) (by exact hS) ?_
        simp only [Act.put, List.setIfInBounds_toArray, List.set_cons_succ, List.set_cons_zero]
        refine wpAnyH_skip_d 19 (some 109) rfl (by kernel_rfl) (by kernel_rfl) (by kernel_rfl) (by kernel_rfl) rfl (fun _ _ _ h => h) (by exact hS) ?_
        simp only [Act.put, List.setIfInBounds_toArray, List.set_cons_succ, List.set_cons_zero]
        refine wpAnyH_take_d 20 (some 110) (.bool true) rfl (by kernel_rfl) (by kernel_rfl) (by kernel_rfl) (by kernel_rfl) rfl (fun _ _ _ h => h) (fun _ _ => by kernel_rfl) (by exact hS) ?_
        simp only [Act.put, List.setIfInBounds_toArray, List.set_cons_succ, List.set_cons_zero]
        refine wpAnyH_take_d 21 (some 111) (.bool true) rfl (by kernel_rfl) (by kernel_rfl) (by kernel_rfl) (by kernel_rfl) rfl (fun _ _ _ h => h) (fun _ _ => by kernel_rfl) (by exact hS) ?_
        simp only [Act.put, List.setIfInBounds_toArray, List.set_cons_succ, List.set_cons_zero]
        refine wpAnyH_take_d 22 (some 2) (.bool true) rfl (by kernel_rfl) (by kernel_rfl) (by kernel_rfl) (by kernel_rfl) rfl (fun _ _ _ h => h) (fun _ _ => by kernel_rfl) (by exact hS) ?_
        simp only [Act.put, List.setIfInBounds_toArray, List.set_cons_succ, List.set_cons_zero]
        refine wpAnyH_done (by kernel_rfl) ?_ _
        have BA := BA.trans (hS.mono BA.size)
        have g5 := (hS.block b5 h5x).trans g5
        clear hS gs hI hsx h5x
        generalize wv = wa at BA g5 ⊢
        clear g5
        go_wp2
        go_ret
        exact ⟨rfl, BA⟩
      · have hE := hdd.1
        have e0' : ¬ ddE bs 3 = 0 := by rw [hE]; exact e0
        have n1 : homP bs = 0 := if_neg e0
        have n2 : homD bs = ByteArray.empty := if_neg e0
        rw [n1, n2] at hde
        have hdo := fun w => docDecRec_any bs hlen 3 (by decide) w
        have ek : ddk bs 3 = 0 := if_neg e0'
        have ez : ddz bs 3 = [] := if_neg e0'
        have et : ddt bs 3 = ByteArray.empty := if_neg e0'
        rw [hE, ek, ez, et] at hdo
        have hq0 : Hid ((homE bs == 0) = false) := Lib.hid (by simpa using e0)
        have hq1 : Hid ((homE bs != 0) = true) := Lib.hid (by simpa using e0)
        clear hdd ek ez et
        generalize homE bs = E at hde hdo hq0 hq1
        have HDO := Lib.hid hdo
        clear e0 e0' hE hdo
        go_wp2_with fail
        refine Calls.mono hde ?_
        rintro e wb ⟨rfl, bb⟩
        have gs := heap_alloc_new wb (.cells #[.int .i64 0, .string ByteArray.empty] 27)
        have bb' := bb.alloc bb.size (.cells #[.int .i64 0, .string ByteArray.empty] 27)
        have BB := BA.trans (bb'.mono BA.size)
        have hst := run_string_c (hb.below BB)
        have hdo := HDO.out (wb.alloc (.cells #[.int .i64 0, .string ByteArray.empty] 27))
        have h5s : b5 < wb.heap.size := Nat.lt_of_lt_of_le (lt_of_heap g5) bb.size
        have g5 := (bb'.block b5 (lt_of_heap g5)).trans g5
        clear hde HDO bb bb' BA hba
        go_wp2_with fail
        refine Calls.mono hdo ?_
        clear hdo hst
        generalize hsb : wb.heap.size = sb at gs h5s ⊢
        generalize wb.alloc (.cells #[.int .i64 0, .string ByteArray.empty] 27) = wc at gs BB g5 ⊢
        have hsw := lt_of_heap gs
        have h5c := lt_of_heap g5
        rintro e wd ⟨nv, rfl, hI, bd, hob⟩
        have gs := (bd.block sb hsw).trans gs
        have BA := BB.trans (bd.mono BB.size)
        obtain ⟨nao0, ncap0, hnv, -⟩ := id hI
        subst hnv
        clear hsb BB hsw
        have g5 := (bd.block b5 (lt_of_heap g5)).trans g5
        have K1 : StoreOk 34 #[y0, y1, y2] #[.int .i64 0, .slice nao0 0 ncap0, .string ByteArray.empty] := ⟨by kernel_rfl, rfl, by simp [Value.oneCell']⟩
        go_wp2_with (with_reducible refine wpList_store_row2 rfl 34 (.tmp 5) (.tmp 88) rfl b5 #[.int .i64 0, .slice nao0 0 ncap0, .string ByteArray.empty] rfl rfl 34 #[y0, y1, y2] g5 K1 ?_)
        have gs := (setRow_other wd b5 sb #[.int .i64 0, .slice nao0 0 ncap0, .string ByteArray.empty] (by omega)).trans gs
        have BA := below_setRow BA h5W #[.int .i64 0, .slice nao0 0 ncap0, .string ByteArray.empty]
        have hI : IntC (wd.setRow b5 #[.int .i64 0, .slice nao0 0 ncap0, .string ByteArray.empty]) (.slice nao0 0 ncap0) [] := hI.keep fun k hk => setRow_other wd b5 k _ (by have := hob k hk; omega)
        have g5 := setRow_heap wd b5 _ #[.int .i64 0, .slice nao0 0 ncap0, .string ByteArray.empty] _ _ g5
        generalize wd.setRow b5 #[.int .i64 0, .slice nao0 0 ncap0, .string ByteArray.empty] = wx at g5 gs BA hI ⊢
        clear bd K1 hob h5c h5s
        go_wp2_with fail
        have hsx := lt_of_heap gs
        have h5x := lt_of_heap g5
        generalize hnv : Value.slice nao0 0 ncap0 = nv at hI g5 ⊢
        have hS : Below wx.heap.size wx wx.drew := (Below.refl _ _).drew
        refine wp_region_held_drew (S := fun w' => Below wx.heap.size wx w') mixed hS (fun _ => ?_)
        show wpAnyH _ _ _ _ _ 23 (Array.replicate 23 false) _ _
        refine wpAnyH_take_d 0 (some 90) (.int .i64 E) rfl (by kernel_rfl) (by kernel_rfl) (by kernel_rfl) (by kernel_rfl) rfl (fun _ _ _ h => h) (fun _ _ => by kernel_rfl) (by exact hS) ?_
        simp only [Act.put, List.setIfInBounds_toArray, List.set_cons_succ, List.set_cons_zero]
        refine wpAnyH_take_d 1 (some 91) (.int .i64 E) rfl (by kernel_rfl) (by kernel_rfl) (by kernel_rfl) (by kernel_rfl) rfl (fun _ _ _ h => h) (fun _ _ => by kernel_rfl) (by exact hS) ?_
        simp only [Act.put, List.setIfInBounds_toArray, List.set_cons_succ, List.set_cons_zero]
        refine wpAnyH_take_d 2 (some 92) (.bool true) rfl (by kernel_rfl) (by kernel_rfl) (by kernel_rfl) (by kernel_rfl) rfl (fun _ _ _ h => h) (fun w' h => exec_inteqb rfl rfl rfl (by simp)) (by exact hS) ?_
        simp only [Act.put, List.setIfInBounds_toArray, List.set_cons_succ, List.set_cons_zero]
        refine wpAnyH_take_d 3 (some 93) (.bool true) rfl (by kernel_rfl) (by kernel_rfl) (by kernel_rfl) (by kernel_rfl) rfl (fun _ _ _ h => h) (fun _ _ => by kernel_rfl) (by exact hS) ?_
        simp only [Act.put, List.setIfInBounds_toArray, List.set_cons_succ, List.set_cons_zero]
        refine wpAnyH_take_d 4 (some 94) (.int .i64 E) rfl (by kernel_rfl) (by kernel_rfl) (by kernel_rfl) (by kernel_rfl) rfl (fun _ _ _ h => h) (fun _ _ => by kernel_rfl) (by exact hS) ?_
        simp only [Act.put, List.setIfInBounds_toArray, List.set_cons_succ, List.set_cons_zero]
        refine wpAnyH_take_d 5 (some 95) (.bool true) rfl (by kernel_rfl) (by kernel_rfl) (by kernel_rfl) (by kernel_rfl) rfl (fun _ _ _ h => h) (fun w' h => exec_intneq rfl rfl rfl hq1.out) (by exact hS) ?_
        simp only [Act.put, List.setIfInBounds_toArray, List.set_cons_succ, List.set_cons_zero]
        refine wpAnyH_take_d 6 (some 96) (.bool true) rfl (by kernel_rfl) (by kernel_rfl) (by kernel_rfl) (by kernel_rfl) rfl (fun _ _ _ h => h) (fun _ _ => by kernel_rfl) (by exact hS) ?_
        simp only [Act.put, List.setIfInBounds_toArray, List.set_cons_succ, List.set_cons_zero]
        refine wpAnyH_skip_d 7 (some 97) rfl (by kernel_rfl) (by kernel_rfl) (by kernel_rfl) (by kernel_rfl) rfl (fun _ _ _ h => h) (by exact hS) ?_
        simp only [Act.put, List.setIfInBounds_toArray, List.set_cons_succ, List.set_cons_zero]
        refine wpAnyH_skip_d 8 (some 98) rfl (by kernel_rfl) (by kernel_rfl) (by kernel_rfl) (by kernel_rfl) rfl (fun _ _ _ h => h) (by exact hS) ?_
        simp only [Act.put, List.setIfInBounds_toArray, List.set_cons_succ, List.set_cons_zero]
        refine wpAnyH_skip_d 9 (some 99) rfl (by kernel_rfl) (by kernel_rfl) (by kernel_rfl) (by kernel_rfl) rfl (fun _ _ _ h => h) (by exact hS) ?_
        simp only [Act.put, List.setIfInBounds_toArray, List.set_cons_succ, List.set_cons_zero]
        refine wpAnyH_skip_d 10 (some 100) rfl (by kernel_rfl) (by kernel_rfl) (by kernel_rfl) (by kernel_rfl) rfl (fun _ _ _ h => h) (by exact hS) ?_
        simp only [Act.put, List.setIfInBounds_toArray, List.set_cons_succ, List.set_cons_zero]
        refine wpAnyH_take_d 11 (some 101) (.bool true) rfl (by kernel_rfl) (by kernel_rfl) (by kernel_rfl) (by kernel_rfl) rfl (fun _ _ _ h => h) (fun _ _ => by kernel_rfl) (by exact hS) ?_
        simp only [Act.put, List.setIfInBounds_toArray, List.set_cons_succ, List.set_cons_zero]
        refine wpAnyH_take_d 12 (some 102) (.bool true) rfl (by kernel_rfl) (by kernel_rfl) (by kernel_rfl) (by kernel_rfl) rfl (fun _ _ _ h => h) (fun _ _ => by kernel_rfl) (by exact hS) ?_
        simp only [Act.put, List.setIfInBounds_toArray, List.set_cons_succ, List.set_cons_zero]
        refine wpAnyH_take_d 13 (some 103) (.bool true) rfl (by kernel_rfl) (by kernel_rfl) (by kernel_rfl) (by kernel_rfl) rfl (fun _ _ _ h => h) (fun _ _ => by kernel_rfl) (by exact hS) ?_
        simp only [Act.put, List.setIfInBounds_toArray, List.set_cons_succ, List.set_cons_zero]
        refine wpAnyH_take_d 14 (some 104) (.int .i64 E) rfl (by kernel_rfl) (by kernel_rfl) (by kernel_rfl) (by kernel_rfl) rfl (fun _ _ _ h => h) (fun _ _ => by kernel_rfl) (by exact hS) ?_
        simp only [Act.put, List.setIfInBounds_toArray, List.set_cons_succ, List.set_cons_zero]
        refine wpAnyH_take_d 15 (some 105) (.bool false) rfl (by kernel_rfl) (by kernel_rfl) (by kernel_rfl) (by kernel_rfl) rfl (fun _ _ _ h => h) (fun w' h => exec_inteqb rfl rfl rfl hq0.out) (by exact hS) ?_
        simp only [Act.put, List.setIfInBounds_toArray, List.set_cons_succ, List.set_cons_zero]
        refine wpAnyH_take_d 16 (some 106) (.bool false) rfl (by kernel_rfl) (by kernel_rfl) (by kernel_rfl) (by kernel_rfl) rfl (fun _ _ _ h => h) (fun _ _ => by kernel_rfl) (by exact hS) ?_
        simp only [Act.put, List.setIfInBounds_toArray, List.set_cons_succ, List.set_cons_zero]
        refine wpAnyH_take_d 17 (some 107) (.agg #[.int .i64 0, .string ByteArray.empty]) rfl (by kernel_rfl) (by kernel_rfl) (by kernel_rfl) (by kernel_rfl) rfl (fun _ _ _ h => h) (fun w' h => exec_load_row rfl rfl ((h.block sb (by omega)).trans gs) Try.underlying27 rfl (by kernel_rfl)) (by exact hS) ?_
        simp only [Act.put, List.setIfInBounds_toArray, List.set_cons_succ, List.set_cons_zero]
        refine wpAnyH_take_d 18 (some 108) (.agg #[.int .i64 0, .string ByteArray.empty]) rfl (by kernel_rfl) (by kernel_rfl) (by kernel_rfl) (by kernel_rfl) rfl (fun _ _ _ h => h) (fun _ _ => by kernel_rfl) (by exact hS) ?_
        simp only [Act.put, List.setIfInBounds_toArray, List.set_cons_succ, List.set_cons_zero]
        refine wpAnyH_take_d 19 (some 109) (.bool true) rfl (by kernel_rfl) (by kernel_rfl) (by kernel_rfl) (by kernel_rfl) rfl (fun _ _ _ h => h) (fun _ _ => by kernel_rfl) (by exact hS) ?_
        simp only [Act.put, List.setIfInBounds_toArray, List.set_cons_succ, List.set_cons_zero]
        refine wpAnyH_take_d 20 (some 110) (.bool true) rfl (by kernel_rfl) (by kernel_rfl) (by kernel_rfl) (by kernel_rfl) rfl (fun _ _ _ h => h) (fun _ _ => by kernel_rfl) (by exact hS) ?_
        simp only [Act.put, List.setIfInBounds_toArray, List.set_cons_succ, List.set_cons_zero]
        refine wpAnyH_take_d 21 (some 111) (.bool true) rfl (by kernel_rfl) (by kernel_rfl) (by kernel_rfl) (by kernel_rfl) rfl (fun _ _ _ h => h) (fun _ _ => by kernel_rfl) (by exact hS) ?_
        simp only [Act.put, List.setIfInBounds_toArray, List.set_cons_succ, List.set_cons_zero]
        refine wpAnyH_take_d 22 (some 2) (.bool true) rfl (by kernel_rfl) (by kernel_rfl) (by kernel_rfl) (by kernel_rfl) rfl (fun _ _ _ h => h) (fun _ _ => by kernel_rfl) (by exact hS) ?_
        simp only [Act.put, List.setIfInBounds_toArray, List.set_cons_succ, List.set_cons_zero]
        refine wpAnyH_done (by kernel_rfl) ?_ _
        have BA := BA.trans (hS.mono BA.size)
        have g5 := (hS.block b5 h5x).trans g5
        clear hS gs hI hsx h5x
        generalize wx.drew = wa at BA g5 ⊢
        clear g5
        go_wp2
        go_ret
        exact ⟨rfl, BA⟩
  · have hE := hdd.1
    have e0' : ¬ ddE bs 1 = 0 := by rw [hE]; exact e0
    have n1 : ∀ i, supG bs i = 0 := fun i => if_neg e0
    rw [n1, n1, n1] at hde
    have hdo := fun w => docDecRec_any bs hlen 1 (by decide) w
    have ek : ddk bs 1 = 0 := if_neg e0'
    have ez : ddz bs 1 = [] := if_neg e0'
    have et : ddt bs 1 = ByteArray.empty := if_neg e0'
    rw [hE, ek, ez, et] at hdo
    have hq0 : Hid ((supE bs == 0) = false) := Lib.hid (by simpa using e0)
    have hq1 : Hid ((supE bs != 0) = true) := Lib.hid (by simpa using e0)
    clear hdd ek ez et
    generalize supE bs = E at hde hdo hq0 hq1
    have HDO := Lib.hid hdo
    clear e0 e0' hE hdo
    go_wp2_with fail
    refine Calls.mono hde ?_
    rintro e wb ⟨rfl, bb⟩
    have gs := heap_alloc_new wb (.cells #[.int .i64 0, .int .i64 0, .int .i64 0] 23)
    have bb' := bb.alloc bb.size (.cells #[.int .i64 0, .int .i64 0, .int .i64 0] 23)
    have BB := BA.trans (bb'.mono BA.size)
    have hst := run_string_c (hb.below BB)
    have hdo := HDO.out (wb.alloc (.cells #[.int .i64 0, .int .i64 0, .int .i64 0] 23))
    clear hde HDO bb bb' BA hba
    go_wp2_with fail
    refine Calls.mono hdo ?_
    clear hdo hst
    generalize hsb : wb.heap.size = sb at gs ⊢
    generalize wb.alloc (.cells #[.int .i64 0, .int .i64 0, .int .i64 0] 23) = wc at gs BB ⊢
    have hsw := lt_of_heap gs
    rintro e wd ⟨nv, rfl, hI, bd, hob⟩
    have gs := (bd.block sb hsw).trans gs
    have BA := BB.trans (bd.mono BB.size)
    obtain ⟨nao0, ncap0, hnv, -⟩ := id hI
    subst hnv
    clear hsb BB hsw
    have g5 := heap_alloc_new wd (.cells #[.int .i64 0, .slice nao0 0 ncap0, .string ByteArray.empty] 34)
    have be := below_new wd (.cells #[.int .i64 0, .slice nao0 0 ncap0, .string ByteArray.empty] 34)
    have gs := (be.block sb (lt_of_heap gs)).trans gs
    have BAD := BA
    have BA := BA.trans (be.mono BA.size)
    have hI := hI.below be
    have h5W : W.heap.size ≤ wd.heap.size := BAD.size
    clear bd be hob BAD
    go_wp2_with fail
    generalize wd.heap.size = b5 at g5 h5W ⊢
    generalize wd.alloc (.cells #[.int .i64 0, .slice nao0 0 ncap0, .string ByteArray.empty] 34) = wx at g5 gs BA hI ⊢
    have hsx := lt_of_heap gs
    have h5x := lt_of_heap g5
    generalize hnv : Value.slice nao0 0 ncap0 = nv at hI g5 ⊢
    have hS : Below wx.heap.size wx wx.drew := (Below.refl _ _).drew
    refine wp_region_held_drew (S := fun w' => Below wx.heap.size wx w') mixed hS (fun _ => ?_)
    show wpAnyH _ _ _ _ _ 23 (Array.replicate 23 false) _ _
    refine wpAnyH_take_d 0 (some 22) (.int .i64 E) rfl (by kernel_rfl) (by kernel_rfl) (by kernel_rfl) (by kernel_rfl) rfl (fun _ _ _ h => h) (fun _ _ => by kernel_rfl) (by exact hS) ?_
    simp only [Act.put, List.setIfInBounds_toArray, List.set_cons_succ, List.set_cons_zero]
    refine wpAnyH_take_d 1 (some 23) (.int .i64 E) rfl (by kernel_rfl) (by kernel_rfl) (by kernel_rfl) (by kernel_rfl) rfl (fun _ _ _ h => h) (fun _ _ => by kernel_rfl) (by exact hS) ?_
    simp only [Act.put, List.setIfInBounds_toArray, List.set_cons_succ, List.set_cons_zero]
    refine wpAnyH_take_d 2 (some 24) (.bool false) rfl (by kernel_rfl) (by kernel_rfl) (by kernel_rfl) (by kernel_rfl) rfl (fun _ _ _ h => h) (fun w' h => exec_intneq rfl rfl rfl (by simp)) (by exact hS) ?_
    simp only [Act.put, List.setIfInBounds_toArray, List.set_cons_succ, List.set_cons_zero]
    refine wpAnyH_take_d 3 (some 25) (.bool false) rfl (by kernel_rfl) (by kernel_rfl) (by kernel_rfl) (by kernel_rfl) rfl (fun _ _ _ h => h) (fun _ _ => by kernel_rfl) (by exact hS) ?_
    simp only [Act.put, List.setIfInBounds_toArray, List.set_cons_succ, List.set_cons_zero]
    refine wpAnyH_take_d 4 (some 26) (.int .i64 E) rfl (by kernel_rfl) (by kernel_rfl) (by kernel_rfl) (by kernel_rfl) rfl (fun _ _ _ h => h) (fun _ _ => by kernel_rfl) (by exact hS) ?_
    simp only [Act.put, List.setIfInBounds_toArray, List.set_cons_succ, List.set_cons_zero]
    refine wpAnyH_take_d 5 (some 27) (.bool false) rfl (by kernel_rfl) (by kernel_rfl) (by kernel_rfl) (by kernel_rfl) rfl (fun _ _ _ h => h) (fun w' h => exec_inteqb rfl rfl rfl hq0.out) (by exact hS) ?_
    simp only [Act.put, List.setIfInBounds_toArray, List.set_cons_succ, List.set_cons_zero]
    refine wpAnyH_take_d 6 (some 28) (.bool false) rfl (by kernel_rfl) (by kernel_rfl) (by kernel_rfl) (by kernel_rfl) rfl (fun _ _ _ h => h) (fun _ _ => by kernel_rfl) (by exact hS) ?_
    simp only [Act.put, List.setIfInBounds_toArray, List.set_cons_succ, List.set_cons_zero]
    refine wpAnyH_skip_d 7 (some 29) rfl (by kernel_rfl) (by kernel_rfl) (by kernel_rfl) (by kernel_rfl) rfl (fun _ _ _ h => h) (by exact hS) ?_
    simp only [Act.put, List.setIfInBounds_toArray, List.set_cons_succ, List.set_cons_zero]
    refine wpAnyH_skip_d 8 (some 30) rfl (by kernel_rfl) (by kernel_rfl) (by kernel_rfl) (by kernel_rfl) rfl (fun _ _ _ h => h) (by exact hS) ?_
    simp only [Act.put, List.setIfInBounds_toArray, List.set_cons_succ, List.set_cons_zero]
    refine wpAnyH_skip_d 9 (some 31) rfl (by kernel_rfl) (by kernel_rfl) (by kernel_rfl) (by kernel_rfl) rfl (fun _ _ _ h => h) (by exact hS) ?_
    simp only [Act.put, List.setIfInBounds_toArray, List.set_cons_succ, List.set_cons_zero]
    refine wpAnyH_skip_d 10 (some 32) rfl (by kernel_rfl) (by kernel_rfl) (by kernel_rfl) (by kernel_rfl) rfl (fun _ _ _ h => h) (by exact hS) ?_
    simp only [Act.put, List.setIfInBounds_toArray, List.set_cons_succ, List.set_cons_zero]
    refine wpAnyH_skip_d 11 (some 33) rfl (by kernel_rfl) (by kernel_rfl) (by kernel_rfl) (by kernel_rfl) rfl (fun _ _ _ h => h) (by exact hS) ?_
    simp only [Act.put, List.setIfInBounds_toArray, List.set_cons_succ, List.set_cons_zero]
    refine wpAnyH_take_d 12 (some 34) (.bool false) rfl (by kernel_rfl) (by kernel_rfl) (by kernel_rfl) (by kernel_rfl) rfl (fun _ _ _ h => h) (fun _ _ => by kernel_rfl) (by exact hS) ?_
    simp only [Act.put, List.setIfInBounds_toArray, List.set_cons_succ, List.set_cons_zero]
    refine wpAnyH_take_d 13 (some 35) (.bool false) rfl (by kernel_rfl) (by kernel_rfl) (by kernel_rfl) (by kernel_rfl) rfl (fun _ _ _ h => h) (fun _ _ => by kernel_rfl) (by exact hS) ?_
    simp only [Act.put, List.setIfInBounds_toArray, List.set_cons_succ, List.set_cons_zero]
    refine wpAnyH_take_d 14 (some 36) (.bool false) rfl (by kernel_rfl) (by kernel_rfl) (by kernel_rfl) (by kernel_rfl) rfl (fun _ _ _ h => h) (fun _ _ => by kernel_rfl) (by exact hS) ?_
    simp only [Act.put, List.setIfInBounds_toArray, List.set_cons_succ, List.set_cons_zero]
    refine wpAnyH_take_d 15 (some 37) (.int .i64 E) rfl (by kernel_rfl) (by kernel_rfl) (by kernel_rfl) (by kernel_rfl) rfl (fun _ _ _ h => h) (fun _ _ => by kernel_rfl) (by exact hS) ?_
    simp only [Act.put, List.setIfInBounds_toArray, List.set_cons_succ, List.set_cons_zero]
    refine wpAnyH_take_d 16 (some 38) (.bool true) rfl (by kernel_rfl) (by kernel_rfl) (by kernel_rfl) (by kernel_rfl) rfl (fun _ _ _ h => h) (fun w' h => exec_intneq rfl rfl rfl hq1.out) (by exact hS) ?_
    simp only [Act.put, List.setIfInBounds_toArray, List.set_cons_succ, List.set_cons_zero]
    refine wpAnyH_take_d 17 (some 39) (.bool true) rfl (by kernel_rfl) (by kernel_rfl) (by kernel_rfl) (by kernel_rfl) rfl (fun _ _ _ h => h) (fun _ _ => by kernel_rfl) (by exact hS) ?_
    simp only [Act.put, List.setIfInBounds_toArray, List.set_cons_succ, List.set_cons_zero]
    refine wpAnyH_take_d 18 (some 40) (.agg #[.int .i64 0, .int .i64 0, .int .i64 0]) rfl (by kernel_rfl) (by kernel_rfl) (by kernel_rfl) (by kernel_rfl) rfl (fun _ _ _ h => h) (fun w' h => exec_load_row rfl rfl ((h.block sb (by omega)).trans gs) Try.underlying23 rfl (by kernel_rfl)) (by exact hS) ?_
    simp only [Act.put, List.setIfInBounds_toArray, List.set_cons_succ, List.set_cons_zero]
    refine wpAnyH_take_d 19 (some 41) (.agg #[.int .i64 0, .int .i64 0, .int .i64 0]) rfl (by kernel_rfl) (by kernel_rfl) (by kernel_rfl) (by kernel_rfl) rfl (fun _ _ _ h => h) (fun _ _ => by kernel_rfl) (by exact hS) ?_
    simp only [Act.put, List.setIfInBounds_toArray, List.set_cons_succ, List.set_cons_zero]
    refine wpAnyH_take_d 20 (some 42) (.bool false) rfl (by kernel_rfl) (by kernel_rfl) (by kernel_rfl) (by kernel_rfl) rfl (fun _ _ _ h => h) (fun _ _ => by kernel_rfl) (by exact hS) ?_
    simp only [Act.put, List.setIfInBounds_toArray, List.set_cons_succ, List.set_cons_zero]
    refine wpAnyH_take_d 21 (some 43) (.bool false) rfl (by kernel_rfl) (by kernel_rfl) (by kernel_rfl) (by kernel_rfl) rfl (fun _ _ _ h => h) (fun _ _ => by kernel_rfl) (by exact hS) ?_
    simp only [Act.put, List.setIfInBounds_toArray, List.set_cons_succ, List.set_cons_zero]
    refine wpAnyH_take_d 22 (some 44) (.bool false) rfl (by kernel_rfl) (by kernel_rfl) (by kernel_rfl) (by kernel_rfl) rfl (fun _ _ _ h => h) (fun _ _ => by kernel_rfl) (by exact hS) ?_
    simp only [Act.put, List.setIfInBounds_toArray, List.set_cons_succ, List.set_cons_zero]
    refine wpAnyH_done (by kernel_rfl) ?_ _
    have BA := BA.trans (hS.mono BA.size)
    have g5 := (hS.block b5 h5x).trans g5
    clear hS gs hI hsx h5x
    generalize wx.drew = wa at BA g5 ⊢
    obtain ⟨y0, y1, y2, hy⟩ : ∃ y0 y1 y2, #[.int .i64 0, nv, .string (ByteArray.empty)] = #[y0, y1, y2] := ⟨_, _, _, rfl⟩
    rw [hy] at g5
    clear hy
    have hba := hb.below BA
    have hde := decodeLog_any hba hcap
    have hdd := dd_log bs
    by_cases e0 : logE bs = 0
    · have hz := hdd.2 e0
      have hE := hdd.1
      rw [e0] at hde hE
      have hdo := fun w => docDecRec_any bs hlen 2 (by decide) w
      have ek : ddk bs 2 = 2 := if_pos hE
      rw [hE, hz.1, hz.2, ek] at hdo
      have HDO := Lib.hid hdo
      clear hdd hE hz ek hdo e0
      go_wp2_with fail
      refine Calls.mono hde ?_
      rintro e wb ⟨rfl, bb⟩
      have gs := heap_alloc_new wb (.cells #[.int .i64 (logV bs).kind, .int .i64 (logV bs).epoch, .int .i64 (logV bs).seq, .int .i64 (logV bs).tx, .int .i64 (logV bs).index, .int .i64 (logV bs).count, .int .i64 (logV bs).page, .string (logV bs).data] 25)
      have bb' := bb.alloc bb.size (.cells #[.int .i64 (logV bs).kind, .int .i64 (logV bs).epoch, .int .i64 (logV bs).seq, .int .i64 (logV bs).tx, .int .i64 (logV bs).index, .int .i64 (logV bs).count, .int .i64 (logV bs).page, .string (logV bs).data] 25)
      have BB := BA.trans (bb'.mono BA.size)
      have hst := run_string_c (hb.below BB)
      have hdo := HDO.out (wb.alloc (.cells #[.int .i64 (logV bs).kind, .int .i64 (logV bs).epoch, .int .i64 (logV bs).seq, .int .i64 (logV bs).tx, .int .i64 (logV bs).index, .int .i64 (logV bs).count, .int .i64 (logV bs).page, .string (logV bs).data] 25))
      have h5s : b5 < wb.heap.size := Nat.lt_of_lt_of_le (lt_of_heap g5) bb.size
      have g5 := (bb'.block b5 (lt_of_heap g5)).trans g5
      clear hde HDO bb bb' BA hba
      go_wp2_with fail
      refine Calls.mono hdo ?_
      clear hdo hst
      generalize hsb : wb.heap.size = sb at gs h5s ⊢
      generalize wb.alloc (.cells #[.int .i64 (logV bs).kind, .int .i64 (logV bs).epoch, .int .i64 (logV bs).seq, .int .i64 (logV bs).tx, .int .i64 (logV bs).index, .int .i64 (logV bs).count, .int .i64 (logV bs).page, .string (logV bs).data] 25) = wc at gs BB g5 ⊢
      have hsw := lt_of_heap gs
      have h5c := lt_of_heap g5
      rintro e wd ⟨nv, rfl, hI, bd, hob⟩
      have gs := (bd.block sb hsw).trans gs
      have BA := BB.trans (bd.mono BB.size)
      obtain ⟨nao0, ncap0, hnv, -⟩ := id hI
      subst hnv
      clear hsb BB hsw
      have g5 := (bd.block b5 (lt_of_heap g5)).trans g5
      have K1 : StoreOk 34 #[y0, y1, y2] #[.int .i64 2, .slice nao0 7 ncap0, .string (logV bs).data] := ⟨by kernel_rfl, rfl, by simp [Value.oneCell']⟩
      go_wp2_with (with_reducible refine wpList_store_row2 rfl 34 (.tmp 5) (.tmp 54) rfl b5 #[.int .i64 2, .slice nao0 7 ncap0, .string (logV bs).data] rfl rfl 34 #[y0, y1, y2] g5 K1 ?_)
      have gs := (setRow_other wd b5 sb #[.int .i64 2, .slice nao0 7 ncap0, .string (logV bs).data] (by omega)).trans gs
      have BA := below_setRow BA h5W #[.int .i64 2, .slice nao0 7 ncap0, .string (logV bs).data]
      have hI : IntC (wd.setRow b5 #[.int .i64 2, .slice nao0 7 ncap0, .string (logV bs).data]) (.slice nao0 7 ncap0) [(logV bs).kind, (logV bs).epoch, (logV bs).seq, (logV bs).tx, (logV bs).index, (logV bs).count, (logV bs).page] := hI.keep fun k hk => setRow_other wd b5 k _ (by have := hob k hk; omega)
      have g5 := setRow_heap wd b5 _ #[.int .i64 2, .slice nao0 7 ncap0, .string (logV bs).data] _ _ g5
      generalize wd.setRow b5 #[.int .i64 2, .slice nao0 7 ncap0, .string (logV bs).data] = wx at g5 gs BA hI ⊢
      clear bd K1 hob h5c h5s
      go_wp2_with fail
      have hsx := lt_of_heap gs
      have h5x := lt_of_heap g5
      generalize hnv : Value.slice nao0 7 ncap0 = nv at hI g5 ⊢
      have hS : Below wx.heap.size wx wx.drew := (Below.refl _ _).drew
      refine wp_region_held_drew (S := fun w' => Below wx.heap.size wx w') mixed hS (fun _ => ?_)
      show wpAnyH _ _ _ _ _ 23 (Array.replicate 23 false) _ _
      refine wpAnyH_take_d 0 (some 56) (.int .i64 0) rfl (by kernel_rfl) (by kernel_rfl) (by kernel_rfl) (by kernel_rfl) rfl (fun _ _ _ h => h) (fun _ _ => by kernel_rfl) (by exact hS) ?_
      simp only [Act.put, List.setIfInBounds_toArray, List.set_cons_succ, List.set_cons_zero]
      refine wpAnyH_take_d 1 (some 57) (.int .i64 0) rfl (by kernel_rfl) (by kernel_rfl) (by kernel_rfl) (by kernel_rfl) rfl (fun _ _ _ h => h) (fun _ _ => by kernel_rfl) (by exact hS) ?_
      simp only [Act.put, List.setIfInBounds_toArray, List.set_cons_succ, List.set_cons_zero]
      refine wpAnyH_take_d 2 (some 58) (.bool false) rfl (by kernel_rfl) (by kernel_rfl) (by kernel_rfl) (by kernel_rfl) rfl (fun _ _ _ h => h) (fun _ _ => by kernel_rfl) (by exact hS) ?_
      simp only [Act.put, List.setIfInBounds_toArray, List.set_cons_succ, List.set_cons_zero]
      refine wpAnyH_take_d 3 (some 59) (.bool false) rfl (by kernel_rfl) (by kernel_rfl) (by kernel_rfl) (by kernel_rfl) rfl (fun _ _ _ h => h) (fun _ _ => by kernel_rfl) (by exact hS) ?_
      simp only [Act.put, List.setIfInBounds_toArray, List.set_cons_succ, List.set_cons_zero]
      refine wpAnyH_take_d 4 (some 60) (.int .i64 0) rfl (by kernel_rfl) (by kernel_rfl) (by kernel_rfl) (by kernel_rfl) rfl (fun _ _ _ h => h) (fun _ _ => by kernel_rfl) (by exact hS) ?_
      simp only [Act.put, List.setIfInBounds_toArray, List.set_cons_succ, List.set_cons_zero]
      refine wpAnyH_take_d 5 (some 61) (.bool true) rfl (by kernel_rfl) (by kernel_rfl) (by kernel_rfl) (by kernel_rfl) rfl (fun _ _ _ h => h) (fun _ _ => by kernel_rfl) (by exact hS) ?_
      simp only [Act.put, List.setIfInBounds_toArray, List.set_cons_succ, List.set_cons_zero]
      refine wpAnyH_take_d 6 (some 62) (.bool true) rfl (by kernel_rfl) (by kernel_rfl) (by kernel_rfl) (by kernel_rfl) rfl (fun _ _ _ h => h) (fun _ _ => by kernel_rfl) (by exact hS) ?_
      simp only [Act.put, List.setIfInBounds_toArray, List.set_cons_succ, List.set_cons_zero]
      refine wpAnyH_take_d 7 (some 63) (.agg #[.int .i64 (logV bs).kind, .int .i64 (logV bs).epoch, .int .i64 (logV bs).seq, .int .i64 (logV bs).tx, .int .i64 (logV bs).index, .int .i64 (logV bs).count, .int .i64 (logV bs).page, .string (logV bs).data]) rfl (by kernel_rfl) (by kernel_rfl) (by kernel_rfl) (by kernel_rfl) rfl (fun _ _ _ h => h) (fun w' h => exec_load_row rfl rfl ((h.block sb (by omega)).trans gs) Try.underlying25 rfl (by kernel_rfl)) (by exact hS) ?_
      simp only [Act.put, List.setIfInBounds_toArray, List.set_cons_succ, List.set_cons_zero]
      refine wpAnyH_take_d 9 (some 65) (recV 2 nv ((logV bs).data)) rfl (by kernel_rfl) (by kernel_rfl) (by kernel_rfl) (by kernel_rfl) rfl (fun _ _ _ h => h) (fun w' h => exec_load_row rfl rfl ((h.block b5 (by omega)).trans g5) Try.underlying34 rfl (by kernel_rfl)) (by exact hS) ?_
      simp only [Act.put, List.setIfInBounds_toArray, List.set_cons_succ, List.set_cons_zero]
      generalize wx.drew = wy at hS ⊢
      refine wpAnyH_call 8 (some 64) 14 #[.agg #[.int .i64 (logV bs).kind, .int .i64 (logV bs).epoch, .int .i64 (logV bs).seq, .int .i64 (logV bs).tx, .int .i64 (logV bs).index, .int .i64 (logV bs).count, .int .i64 (logV bs).page, .string (logV bs).data]] rfl (by kernel_rfl) (by kernel_rfl) rfl (by kernel_rfl) (logRec_any (logV bs).kind (logV bs).epoch (logV bs).seq (logV bs).tx (logV bs).index (logV bs).count (logV bs).page (logV bs).data wy) ?_
      rintro e wz ⟨nw, rfl, hIw, bz⟩
      have i1 := (hI.below hS).below bz
      have hS : Below wx.heap.size wx wz := hS.trans (bz.mono hS.size)
      obtain ⟨nao, ncap, hnw, -⟩ := id hIw
      subst hnw
      refine ⟨_, rfl, hS, ?_⟩
      simp only [Act.put, List.setIfInBounds_toArray, List.set_cons_succ, List.set_cons_zero]
      have hsm := same_eq hIw i1 2 ((logV bs).data)
      refine wpAnyH_call 10 (some 66) 20 #[recV 2 _ ((logV bs).data), recV 2 nv ((logV bs).data)] rfl (by kernel_rfl) (by kernel_rfl) rfl (by kernel_rfl) hsm ?_
      rintro e wv ⟨rfl, bv⟩
      have hS : Below wx.heap.size wx wv := hS.trans (bv.mono hS.size)
      refine ⟨_, rfl, hS, ?_⟩
      simp only [Act.put, List.setIfInBounds_toArray, List.set_cons_succ, List.set_cons_zero]
      refine wpAnyH_take_d 11 (some 67) (.bool false) rfl (by kernel_rfl) (by kernel_rfl) (by kernel_rfl) (by kernel_rfl) rfl (fun _ _ _ h => h) (fun _ _ => by kernel_rfl) (by exact hS) ?_
      simp only [Act.put, List.setIfInBounds_toArray, List.set_cons_succ, List.set_cons_zero]
      refine wpAnyH_take_d 12 (some 68) (.bool false) rfl (by kernel_rfl) (by kernel_rfl) (by kernel_rfl) (by kernel_rfl) rfl (fun _ _ _ h => h) (fun _ _ => by kernel_rfl) (by exact hS) ?_
      simp only [Act.put, List.setIfInBounds_toArray, List.set_cons_succ, List.set_cons_zero]
      refine wpAnyH_take_d 13 (some 69) (.bool false) rfl (by kernel_rfl) (by kernel_rfl) (by kernel_rfl) (by kernel_rfl) rfl (fun _ _ _ h => h) (fun _ _ => by kernel_rfl) (by exact hS) ?_
      simp only [Act.put, List.setIfInBounds_toArray, List.set_cons_succ, List.set_cons_zero]
      refine wpAnyH_take_d 14 (some 70) (.bool false) rfl (by kernel_rfl) (by kernel_rfl) (by kernel_rfl) (by kernel_rfl) rfl (fun _ _ _ h => h) (fun _ _ => by kernel_rfl) (by exact hS) ?_
      simp only [Act.put, List.setIfInBounds_toArray, List.set_cons_succ, List.set_cons_zero]
      refine wpAnyH_take_d 15 (some 71) (.int .i64 0) rfl (by kernel_rfl) (by kernel_rfl) (by kernel_rfl) (by kernel_rfl) rfl (fun _ _ _ h => h) (fun _ _ => by kernel_rfl) (by exact hS) ?_
      simp only [Act.put, List.setIfInBounds_toArray, List.set_cons_succ, List.set_cons_zero]
      refine wpAnyH_take_d 16 (some 72) (.bool false) rfl (by kernel_rfl) (by kernel_rfl) (by kernel_rfl) (by kernel_rfl) rfl (fun _ _ _ h => h) (fun _ _ => by kernel_rfl) (by exact hS) ?_
      simp only [Act.put, List.setIfInBounds_toArray, List.set_cons_succ, List.set_cons_zero]
      refine wpAnyH_take_d 17 (some 73) (.bool false) rfl (by kernel_rfl) (by kernel_rfl) (by kernel_rfl) (by kernel_rfl) rfl (fun _ _ _ h => h) (fun _ _ => by kernel_rfl) (by exact hS) ?_
      simp only [Act.put, List.setIfInBounds_toArray, List.set_cons_succ, List.set_cons_zero]
      refine wpAnyH_skip_d 18 (some 74) rfl (by kernel_rfl) (by kernel_rfl) (by kernel_rfl) (by kernel_rfl) rfl (fun _ _ _ h => h) (by exact hS) ?_
      simp only [Act.put, List.setIfInBounds_toArray, List.set_cons_succ, List.set_cons_zero]
      refine wpAnyH_skip_d 19 (some 75) rfl (by kernel_rfl) (by kernel_rfl) (by kernel_rfl) (by kernel_rfl) rfl (fun _ _ _ h => h) (by exact hS) ?_
      simp only [Act.put, List.setIfInBounds_toArray, List.set_cons_succ, List.set_cons_zero]
      refine wpAnyH_skip_d 20 (some 76) rfl (by kernel_rfl) (by kernel_rfl) (by kernel_rfl) (by kernel_rfl) rfl (fun _ _ _ h => h) (by exact hS) ?_
      simp only [Act.put, List.setIfInBounds_toArray, List.set_cons_succ, List.set_cons_zero]
      refine wpAnyH_take_d 21 (some 77) (.bool false) rfl (by kernel_rfl) (by kernel_rfl) (by kernel_rfl) (by kernel_rfl) rfl (fun _ _ _ h => h) (fun _ _ => by kernel_rfl) (by exact hS) ?_
      simp only [Act.put, List.setIfInBounds_toArray, List.set_cons_succ, List.set_cons_zero]
      refine wpAnyH_take_d 22 (some 78) (.bool false) rfl (by kernel_rfl) (by kernel_rfl) (by kernel_rfl) (by kernel_rfl) rfl (fun _ _ _ h => h) (fun _ _ => by kernel_rfl) (by exact hS) ?_
      simp only [Act.put, List.setIfInBounds_toArray, List.set_cons_succ, List.set_cons_zero]
      refine wpAnyH_done (by kernel_rfl) ?_ _
      have BA := BA.trans (hS.mono BA.size)
      have g5 := (hS.block b5 h5x).trans g5
      clear hS gs hI hsx h5x
      generalize wv = wa at BA g5 ⊢
      obtain ⟨y0, y1, y2, hy⟩ : ∃ y0 y1 y2, #[.int .i64 2, nv, .string ((logV bs).data)] = #[y0, y1, y2] := ⟨_, _, _, rfl⟩
      rw [hy] at g5
      clear hy
      have hba := hb.below BA
      have hde := decodeHome_any hba hcap
      have hdd := dd_home bs
      by_cases e0 : homE bs = 0
      · have hz := hdd.2 e0
        have hE := hdd.1
        rw [e0] at hde hE
        have hdo := fun w => docDecRec_any bs hlen 3 (by decide) w
        have ek : ddk bs 3 = 3 := if_pos hE
        rw [hE, hz.1, hz.2, ek] at hdo
        have HDO := Lib.hid hdo
        clear hdd hE hz ek hdo e0
        go_wp2_with fail
        refine Calls.mono hde ?_
        rintro e wb ⟨rfl, bb⟩
        have gs := heap_alloc_new wb (.cells #[.int .i64 (homP bs), .string (homD bs)] 27)
        have bb' := bb.alloc bb.size (.cells #[.int .i64 (homP bs), .string (homD bs)] 27)
        have BB := BA.trans (bb'.mono BA.size)
        have hst := run_string_c (hb.below BB)
        have hdo := HDO.out (wb.alloc (.cells #[.int .i64 (homP bs), .string (homD bs)] 27))
        have h5s : b5 < wb.heap.size := Nat.lt_of_lt_of_le (lt_of_heap g5) bb.size
        have g5 := (bb'.block b5 (lt_of_heap g5)).trans g5
        clear hde HDO bb bb' BA hba
        go_wp2_with fail
        refine Calls.mono hdo ?_
        clear hdo hst
        generalize hsb : wb.heap.size = sb at gs h5s ⊢
        generalize wb.alloc (.cells #[.int .i64 (homP bs), .string (homD bs)] 27) = wc at gs BB g5 ⊢
        have hsw := lt_of_heap gs
        have h5c := lt_of_heap g5
        rintro e wd ⟨nv, rfl, hI, bd, hob⟩
        have gs := (bd.block sb hsw).trans gs
        have BA := BB.trans (bd.mono BB.size)
        obtain ⟨nao0, ncap0, hnv, -⟩ := id hI
        subst hnv
        clear hsb BB hsw
        have g5 := (bd.block b5 (lt_of_heap g5)).trans g5
        have K1 : StoreOk 34 #[y0, y1, y2] #[.int .i64 3, .slice nao0 1 ncap0, .string (homD bs)] := ⟨by kernel_rfl, rfl, by simp [Value.oneCell']⟩
        go_wp2_with (with_reducible refine wpList_store_row2 rfl 34 (.tmp 5) (.tmp 88) rfl b5 #[.int .i64 3, .slice nao0 1 ncap0, .string (homD bs)] rfl rfl 34 #[y0, y1, y2] g5 K1 ?_)
        have gs := (setRow_other wd b5 sb #[.int .i64 3, .slice nao0 1 ncap0, .string (homD bs)] (by omega)).trans gs
        have BA := below_setRow BA h5W #[.int .i64 3, .slice nao0 1 ncap0, .string (homD bs)]
        have hI : IntC (wd.setRow b5 #[.int .i64 3, .slice nao0 1 ncap0, .string (homD bs)]) (.slice nao0 1 ncap0) [homP bs] := hI.keep fun k hk => setRow_other wd b5 k _ (by have := hob k hk; omega)
        have g5 := setRow_heap wd b5 _ #[.int .i64 3, .slice nao0 1 ncap0, .string (homD bs)] _ _ g5
        generalize wd.setRow b5 #[.int .i64 3, .slice nao0 1 ncap0, .string (homD bs)] = wx at g5 gs BA hI ⊢
        clear bd K1 hob h5c h5s
        go_wp2_with fail
        have hsx := lt_of_heap gs
        have h5x := lt_of_heap g5
        generalize hnv : Value.slice nao0 1 ncap0 = nv at hI g5 ⊢
        have hS : Below wx.heap.size wx wx.drew := (Below.refl _ _).drew
        refine wp_region_held_drew (S := fun w' => Below wx.heap.size wx w') mixed hS (fun _ => ?_)
        show wpAnyH _ _ _ _ _ 23 (Array.replicate 23 false) _ _
        refine wpAnyH_take_d 0 (some 90) (.int .i64 0) rfl (by kernel_rfl) (by kernel_rfl) (by kernel_rfl) (by kernel_rfl) rfl (fun _ _ _ h => h) (fun _ _ => by kernel_rfl) (by exact hS) ?_
        simp only [Act.put, List.setIfInBounds_toArray, List.set_cons_succ, List.set_cons_zero]
        refine wpAnyH_take_d 1 (some 91) (.int .i64 0) rfl (by kernel_rfl) (by kernel_rfl) (by kernel_rfl) (by kernel_rfl) rfl (fun _ _ _ h => h) (fun _ _ => by kernel_rfl) (by exact hS) ?_
        simp only [Act.put, List.setIfInBounds_toArray, List.set_cons_succ, List.set_cons_zero]
        refine wpAnyH_take_d 2 (some 92) (.bool true) rfl (by kernel_rfl) (by kernel_rfl) (by kernel_rfl) (by kernel_rfl) rfl (fun _ _ _ h => h) (fun _ _ => by kernel_rfl) (by exact hS) ?_
        simp only [Act.put, List.setIfInBounds_toArray, List.set_cons_succ, List.set_cons_zero]
        refine wpAnyH_take_d 3 (some 93) (.bool true) rfl (by kernel_rfl) (by kernel_rfl) (by kernel_rfl) (by kernel_rfl) rfl (fun _ _ _ h => h) (fun _ _ => by kernel_rfl) (by exact hS) ?_
        simp only [Act.put, List.setIfInBounds_toArray, List.set_cons_succ, List.set_cons_zero]
        refine wpAnyH_take_d 4 (some 94) (.int .i64 0) rfl (by kernel_rfl) (by kernel_rfl) (by kernel_rfl) (by kernel_rfl) rfl (fun _ _ _ h => h) (fun _ _ => by kernel_rfl) (by exact hS) ?_
        simp only [Act.put, List.setIfInBounds_toArray, List.set_cons_succ, List.set_cons_zero]
        refine wpAnyH_take_d 5 (some 95) (.bool false) rfl (by kernel_rfl) (by kernel_rfl) (by kernel_rfl) (by kernel_rfl) rfl (fun _ _ _ h => h) (fun _ _ => by kernel_rfl) (by exact hS) ?_
        simp only [Act.put, List.setIfInBounds_toArray, List.set_cons_succ, List.set_cons_zero]
        refine wpAnyH_take_d 6 (some 96) (.bool false) rfl (by kernel_rfl) (by kernel_rfl) (by kernel_rfl) (by kernel_rfl) rfl (fun _ _ _ h => h) (fun _ _ => by kernel_rfl) (by exact hS) ?_
        simp only [Act.put, List.setIfInBounds_toArray, List.set_cons_succ, List.set_cons_zero]
        refine wpAnyH_take_d 7 (some 97) (.agg #[.int .i64 (homP bs), .string (homD bs)]) rfl (by kernel_rfl) (by kernel_rfl) (by kernel_rfl) (by kernel_rfl) rfl (fun _ _ _ h => h) (fun w' h => exec_load_row rfl rfl ((h.block sb (by omega)).trans gs) Try.underlying27 rfl (by kernel_rfl)) (by exact hS) ?_
        simp only [Act.put, List.setIfInBounds_toArray, List.set_cons_succ, List.set_cons_zero]
        refine wpAnyH_take_d 9 (some 99) (recV 3 nv ((homD bs))) rfl (by kernel_rfl) (by kernel_rfl) (by kernel_rfl) (by kernel_rfl) rfl (fun _ _ _ h => h) (fun w' h => exec_load_row rfl rfl ((h.block b5 (by omega)).trans g5) Try.underlying34 rfl (by kernel_rfl)) (by exact hS) ?_
        simp only [Act.put, List.setIfInBounds_toArray, List.set_cons_succ, List.set_cons_zero]
        generalize wx.drew = wy at hS ⊢
        refine wpAnyH_call 8 (some 98) 16 #[.agg #[.int .i64 (homP bs), .string (homD bs)]] rfl (by kernel_rfl) (by kernel_rfl) rfl (by kernel_rfl) (homeRec_any (homP bs) (homD bs) wy) ?_
        rintro e wz ⟨nw, rfl, hIw, bz⟩
        have i1 := (hI.below hS).below bz
        have hS : Below wx.heap.size wx wz := hS.trans (bz.mono hS.size)
        obtain ⟨nao, ncap, hnw, -⟩ := id hIw
        subst hnw
        refine ⟨_, rfl, hS, ?_⟩
        simp only [Act.put, List.setIfInBounds_toArray, List.set_cons_succ, List.set_cons_zero]
        have hsm := same_eq hIw i1 3 ((homD bs))
        refine wpAnyH_call 10 (some 100) 20 #[recV 3 _ ((homD bs)), recV 3 nv ((homD bs))] rfl (by kernel_rfl) (by kernel_rfl) rfl (by kernel_rfl) hsm ?_
        rintro e wv ⟨rfl, bv⟩
        have hS : Below wx.heap.size wx wv := hS.trans (bv.mono hS.size)
        refine ⟨_, rfl, hS, ?_⟩
        simp only [Act.put, List.setIfInBounds_toArray, List.set_cons_succ, List.set_cons_zero]
        refine wpAnyH_take_d 11 (some 101) (.bool true) rfl (by kernel_rfl) (by kernel_rfl) (by kernel_rfl) (by kernel_rfl) rfl (fun _ _ _ h => h) (fun _ _ => by kernel_rfl) (by exact hS) ?_
        simp only [Act.put, List.setIfInBounds_toArray, List.set_cons_succ, List.set_cons_zero]
        refine wpAnyH_take_d 12 (some 102) (.bool true) rfl (by kernel_rfl) (by kernel_rfl) (by kernel_rfl) (by kernel_rfl) rfl (fun _ _ _ h => h) (fun _ _ => by kernel_rfl) (by exact hS) ?_
        simp only [Act.put, List.setIfInBounds_toArray, List.set_cons_succ, List.set_cons_zero]
        refine wpAnyH_take_d 13 (some 103) (.bool true) rfl (by kernel_rfl) (by kernel_rfl) (by kernel_rfl) (by kernel_rfl) rfl (fun _ _ _ h => h) (fun _ _ => by kernel_rfl) (by exact hS) ?_
        simp only [Act.put, List.setIfInBounds_toArray, List.set_cons_succ, List.set_cons_zero]
        refine wpAnyH_take_d 14 (some 104) (.int .i64 0) rfl (by kernel_rfl) (by kernel_rfl) (by kernel_rfl) (by kernel_rfl) rfl (fun _ _ _ h => h) (fun _ _ => by kernel_rfl) (by exact hS) ?_
        simp only [Act.put, List.setIfInBounds_toArray, List.set_cons_succ, List.set_cons_zero]
        refine wpAnyH_take_d 15 (some 105) (.bool true) rfl (by kernel_rfl) (by kernel_rfl) (by kernel_rfl) (by kernel_rfl) rfl (fun _ _ _ h => h) (fun _ _ => by kernel_rfl) (by exact hS) ?_
        simp only [Act.put, List.setIfInBounds_toArray, List.set_cons_succ, List.set_cons_zero]
        refine wpAnyH_take_d 16 (some 106) (.bool true) rfl (by kernel_rfl) (by kernel_rfl) (by kernel_rfl) (by kernel_rfl) rfl (fun _ _ _ h => h) (fun _ _ => by kernel_rfl) (by exact hS) ?_
        simp only [Act.put, List.setIfInBounds_toArray, List.set_cons_succ, List.set_cons_zero]
        refine wpAnyH_skip_d 17 (some 107) rfl (by kernel_rfl) (by kernel_rfl) (by kernel_rfl) (by kernel_rfl) rfl (fun _ _ _ h => h) (by exact hS) ?_
        simp only [Act.put, List.setIfInBounds_toArray, List.set_cons_succ, List.set_cons_zero]
        refine wpAnyH_skip_d 18 (some 108) rfl (by kernel_rfl) (by kernel_rfl) (by kernel_rfl) (by kernel_rfl) rfl (fun _ _ _ h => h) (by exact hS) ?_
        simp only [Act.put, List.setIfInBounds_toArray, List.set_cons_succ, List.set_cons_zero]
        refine wpAnyH_skip_d 19 (some 109) rfl (by kernel_rfl) (by kernel_rfl) (by kernel_rfl) (by kernel_rfl) rfl (fun _ _ _ h => h) (by exact hS) ?_
        simp only [Act.put, List.setIfInBounds_toArray, List.set_cons_succ, List.set_cons_zero]
        refine wpAnyH_take_d 20 (some 110) (.bool true) rfl (by kernel_rfl) (by kernel_rfl) (by kernel_rfl) (by kernel_rfl) rfl (fun _ _ _ h => h) (fun _ _ => by kernel_rfl) (by exact hS) ?_
        simp only [Act.put, List.setIfInBounds_toArray, List.set_cons_succ, List.set_cons_zero]
        refine wpAnyH_take_d 21 (some 111) (.bool true) rfl (by kernel_rfl) (by kernel_rfl) (by kernel_rfl) (by kernel_rfl) rfl (fun _ _ _ h => h) (fun _ _ => by kernel_rfl) (by exact hS) ?_
        simp only [Act.put, List.setIfInBounds_toArray, List.set_cons_succ, List.set_cons_zero]
        refine wpAnyH_take_d 22 (some 2) (.bool true) rfl (by kernel_rfl) (by kernel_rfl) (by kernel_rfl) (by kernel_rfl) rfl (fun _ _ _ h => h) (fun _ _ => by kernel_rfl) (by exact hS) ?_
        simp only [Act.put, List.setIfInBounds_toArray, List.set_cons_succ, List.set_cons_zero]
        refine wpAnyH_done (by kernel_rfl) ?_ _
        have BA := BA.trans (hS.mono BA.size)
        have g5 := (hS.block b5 h5x).trans g5
        clear hS gs hI hsx h5x
        generalize wv = wa at BA g5 ⊢
        clear g5
        go_wp2
        go_ret
        exact ⟨rfl, BA⟩
      · have hE := hdd.1
        have e0' : ¬ ddE bs 3 = 0 := by rw [hE]; exact e0
        have n1 : homP bs = 0 := if_neg e0
        have n2 : homD bs = ByteArray.empty := if_neg e0
        rw [n1, n2] at hde
        have hdo := fun w => docDecRec_any bs hlen 3 (by decide) w
        have ek : ddk bs 3 = 0 := if_neg e0'
        have ez : ddz bs 3 = [] := if_neg e0'
        have et : ddt bs 3 = ByteArray.empty := if_neg e0'
        rw [hE, ek, ez, et] at hdo
        have hq0 : Hid ((homE bs == 0) = false) := Lib.hid (by simpa using e0)
        have hq1 : Hid ((homE bs != 0) = true) := Lib.hid (by simpa using e0)
        clear hdd ek ez et
        generalize homE bs = E at hde hdo hq0 hq1
        have HDO := Lib.hid hdo
        clear e0 e0' hE hdo
        go_wp2_with fail
        refine Calls.mono hde ?_
        rintro e wb ⟨rfl, bb⟩
        have gs := heap_alloc_new wb (.cells #[.int .i64 0, .string ByteArray.empty] 27)
        have bb' := bb.alloc bb.size (.cells #[.int .i64 0, .string ByteArray.empty] 27)
        have BB := BA.trans (bb'.mono BA.size)
        have hst := run_string_c (hb.below BB)
        have hdo := HDO.out (wb.alloc (.cells #[.int .i64 0, .string ByteArray.empty] 27))
        have h5s : b5 < wb.heap.size := Nat.lt_of_lt_of_le (lt_of_heap g5) bb.size
        have g5 := (bb'.block b5 (lt_of_heap g5)).trans g5
        clear hde HDO bb bb' BA hba
        go_wp2_with fail
        refine Calls.mono hdo ?_
        clear hdo hst
        generalize hsb : wb.heap.size = sb at gs h5s ⊢
        generalize wb.alloc (.cells #[.int .i64 0, .string ByteArray.empty] 27) = wc at gs BB g5 ⊢
        have hsw := lt_of_heap gs
        have h5c := lt_of_heap g5
        rintro e wd ⟨nv, rfl, hI, bd, hob⟩
        have gs := (bd.block sb hsw).trans gs
        have BA := BB.trans (bd.mono BB.size)
        obtain ⟨nao0, ncap0, hnv, -⟩ := id hI
        subst hnv
        clear hsb BB hsw
        have g5 := (bd.block b5 (lt_of_heap g5)).trans g5
        have K1 : StoreOk 34 #[y0, y1, y2] #[.int .i64 0, .slice nao0 0 ncap0, .string ByteArray.empty] := ⟨by kernel_rfl, rfl, by simp [Value.oneCell']⟩
        go_wp2_with (with_reducible refine wpList_store_row2 rfl 34 (.tmp 5) (.tmp 88) rfl b5 #[.int .i64 0, .slice nao0 0 ncap0, .string ByteArray.empty] rfl rfl 34 #[y0, y1, y2] g5 K1 ?_)
        have gs := (setRow_other wd b5 sb #[.int .i64 0, .slice nao0 0 ncap0, .string ByteArray.empty] (by omega)).trans gs
        have BA := below_setRow BA h5W #[.int .i64 0, .slice nao0 0 ncap0, .string ByteArray.empty]
        have hI : IntC (wd.setRow b5 #[.int .i64 0, .slice nao0 0 ncap0, .string ByteArray.empty]) (.slice nao0 0 ncap0) [] := hI.keep fun k hk => setRow_other wd b5 k _ (by have := hob k hk; omega)
        have g5 := setRow_heap wd b5 _ #[.int .i64 0, .slice nao0 0 ncap0, .string ByteArray.empty] _ _ g5
        generalize wd.setRow b5 #[.int .i64 0, .slice nao0 0 ncap0, .string ByteArray.empty] = wx at g5 gs BA hI ⊢
        clear bd K1 hob h5c h5s
        go_wp2_with fail
        have hsx := lt_of_heap gs
        have h5x := lt_of_heap g5
        generalize hnv : Value.slice nao0 0 ncap0 = nv at hI g5 ⊢
        have hS : Below wx.heap.size wx wx.drew := (Below.refl _ _).drew
        refine wp_region_held_drew (S := fun w' => Below wx.heap.size wx w') mixed hS (fun _ => ?_)
        show wpAnyH _ _ _ _ _ 23 (Array.replicate 23 false) _ _
        refine wpAnyH_take_d 0 (some 90) (.int .i64 E) rfl (by kernel_rfl) (by kernel_rfl) (by kernel_rfl) (by kernel_rfl) rfl (fun _ _ _ h => h) (fun _ _ => by kernel_rfl) (by exact hS) ?_
        simp only [Act.put, List.setIfInBounds_toArray, List.set_cons_succ, List.set_cons_zero]
        refine wpAnyH_take_d 1 (some 91) (.int .i64 E) rfl (by kernel_rfl) (by kernel_rfl) (by kernel_rfl) (by kernel_rfl) rfl (fun _ _ _ h => h) (fun _ _ => by kernel_rfl) (by exact hS) ?_
        simp only [Act.put, List.setIfInBounds_toArray, List.set_cons_succ, List.set_cons_zero]
        refine wpAnyH_take_d 2 (some 92) (.bool true) rfl (by kernel_rfl) (by kernel_rfl) (by kernel_rfl) (by kernel_rfl) rfl (fun _ _ _ h => h) (fun w' h => exec_inteqb rfl rfl rfl (by simp)) (by exact hS) ?_
        simp only [Act.put, List.setIfInBounds_toArray, List.set_cons_succ, List.set_cons_zero]
        refine wpAnyH_take_d 3 (some 93) (.bool true) rfl (by kernel_rfl) (by kernel_rfl) (by kernel_rfl) (by kernel_rfl) rfl (fun _ _ _ h => h) (fun _ _ => by kernel_rfl) (by exact hS) ?_
        simp only [Act.put, List.setIfInBounds_toArray, List.set_cons_succ, List.set_cons_zero]
        refine wpAnyH_take_d 4 (some 94) (.int .i64 E) rfl (by kernel_rfl) (by kernel_rfl) (by kernel_rfl) (by kernel_rfl) rfl (fun _ _ _ h => h) (fun _ _ => by kernel_rfl) (by exact hS) ?_
        simp only [Act.put, List.setIfInBounds_toArray, List.set_cons_succ, List.set_cons_zero]
        refine wpAnyH_take_d 5 (some 95) (.bool true) rfl (by kernel_rfl) (by kernel_rfl) (by kernel_rfl) (by kernel_rfl) rfl (fun _ _ _ h => h) (fun w' h => exec_intneq rfl rfl rfl hq1.out) (by exact hS) ?_
        simp only [Act.put, List.setIfInBounds_toArray, List.set_cons_succ, List.set_cons_zero]
        refine wpAnyH_take_d 6 (some 96) (.bool true) rfl (by kernel_rfl) (by kernel_rfl) (by kernel_rfl) (by kernel_rfl) rfl (fun _ _ _ h => h) (fun _ _ => by kernel_rfl) (by exact hS) ?_
        simp only [Act.put, List.setIfInBounds_toArray, List.set_cons_succ, List.set_cons_zero]
        refine wpAnyH_skip_d 7 (some 97) rfl (by kernel_rfl) (by kernel_rfl) (by kernel_rfl) (by kernel_rfl) rfl (fun _ _ _ h => h) (by exact hS) ?_
        simp only [Act.put, List.setIfInBounds_toArray, List.set_cons_succ, List.set_cons_zero]
        refine wpAnyH_skip_d 8 (some 98) rfl (by kernel_rfl) (by kernel_rfl) (by kernel_rfl) (by kernel_rfl) rfl (fun _ _ _ h => h) (by exact hS) ?_
        simp only [Act.put, List.setIfInBounds_toArray, List.set_cons_succ, List.set_cons_zero]
        refine wpAnyH_skip_d 9 (some 99) rfl (by kernel_rfl) (by kernel_rfl) (by kernel_rfl) (by kernel_rfl) rfl (fun _ _ _ h => h) (by exact hS) ?_
        simp only [Act.put, List.setIfInBounds_toArray, List.set_cons_succ, List.set_cons_zero]
        refine wpAnyH_skip_d 10 (some 100) rfl (by kernel_rfl) (by kernel_rfl) (by kernel_rfl) (by kernel_rfl) rfl (fun _ _ _ h => h) (by exact hS) ?_
        simp only [Act.put, List.setIfInBounds_toArray, List.set_cons_succ, List.set_cons_zero]
        refine wpAnyH_take_d 11 (some 101) (.bool true) rfl (by kernel_rfl) (by kernel_rfl) (by kernel_rfl) (by kernel_rfl) rfl (fun _ _ _ h => h) (fun _ _ => by kernel_rfl) (by exact hS) ?_
        simp only [Act.put, List.setIfInBounds_toArray, List.set_cons_succ, List.set_cons_zero]
        refine wpAnyH_take_d 12 (some 102) (.bool true) rfl (by kernel_rfl) (by kernel_rfl) (by kernel_rfl) (by kernel_rfl) rfl (fun _ _ _ h => h) (fun _ _ => by kernel_rfl) (by exact hS) ?_
        simp only [Act.put, List.setIfInBounds_toArray, List.set_cons_succ, List.set_cons_zero]
        refine wpAnyH_take_d 13 (some 103) (.bool true) rfl (by kernel_rfl) (by kernel_rfl) (by kernel_rfl) (by kernel_rfl) rfl (fun _ _ _ h => h) (fun _ _ => by kernel_rfl) (by exact hS) ?_
        simp only [Act.put, List.setIfInBounds_toArray, List.set_cons_succ, List.set_cons_zero]
        refine wpAnyH_take_d 14 (some 104) (.int .i64 E) rfl (by kernel_rfl) (by kernel_rfl) (by kernel_rfl) (by kernel_rfl) rfl (fun _ _ _ h => h) (fun _ _ => by kernel_rfl) (by exact hS) ?_
        simp only [Act.put, List.setIfInBounds_toArray, List.set_cons_succ, List.set_cons_zero]
        refine wpAnyH_take_d 15 (some 105) (.bool false) rfl (by kernel_rfl) (by kernel_rfl) (by kernel_rfl) (by kernel_rfl) rfl (fun _ _ _ h => h) (fun w' h => exec_inteqb rfl rfl rfl hq0.out) (by exact hS) ?_
        simp only [Act.put, List.setIfInBounds_toArray, List.set_cons_succ, List.set_cons_zero]
        refine wpAnyH_take_d 16 (some 106) (.bool false) rfl (by kernel_rfl) (by kernel_rfl) (by kernel_rfl) (by kernel_rfl) rfl (fun _ _ _ h => h) (fun _ _ => by kernel_rfl) (by exact hS) ?_
        simp only [Act.put, List.setIfInBounds_toArray, List.set_cons_succ, List.set_cons_zero]
        refine wpAnyH_take_d 17 (some 107) (.agg #[.int .i64 0, .string ByteArray.empty]) rfl (by kernel_rfl) (by kernel_rfl) (by kernel_rfl) (by kernel_rfl) rfl (fun _ _ _ h => h) (fun w' h => exec_load_row rfl rfl ((h.block sb (by omega)).trans gs) Try.underlying27 rfl (by kernel_rfl)) (by exact hS) ?_
        simp only [Act.put, List.setIfInBounds_toArray, List.set_cons_succ, List.set_cons_zero]
        refine wpAnyH_take_d 18 (some 108) (.agg #[.int .i64 0, .string ByteArray.empty]) rfl (by kernel_rfl) (by kernel_rfl) (by kernel_rfl) (by kernel_rfl) rfl (fun _ _ _ h => h) (fun _ _ => by kernel_rfl) (by exact hS) ?_
        simp only [Act.put, List.setIfInBounds_toArray, List.set_cons_succ, List.set_cons_zero]
        refine wpAnyH_take_d 19 (some 109) (.bool true) rfl (by kernel_rfl) (by kernel_rfl) (by kernel_rfl) (by kernel_rfl) rfl (fun _ _ _ h => h) (fun _ _ => by kernel_rfl) (by exact hS) ?_
        simp only [Act.put, List.setIfInBounds_toArray, List.set_cons_succ, List.set_cons_zero]
        refine wpAnyH_take_d 20 (some 110) (.bool true) rfl (by kernel_rfl) (by kernel_rfl) (by kernel_rfl) (by kernel_rfl) rfl (fun _ _ _ h => h) (fun _ _ => by kernel_rfl) (by exact hS) ?_
        simp only [Act.put, List.setIfInBounds_toArray, List.set_cons_succ, List.set_cons_zero]
        refine wpAnyH_take_d 21 (some 111) (.bool true) rfl (by kernel_rfl) (by kernel_rfl) (by kernel_rfl) (by kernel_rfl) rfl (fun _ _ _ h => h) (fun _ _ => by kernel_rfl) (by exact hS) ?_
        simp only [Act.put, List.setIfInBounds_toArray, List.set_cons_succ, List.set_cons_zero]
        refine wpAnyH_take_d 22 (some 2) (.bool true) rfl (by kernel_rfl) (by kernel_rfl) (by kernel_rfl) (by kernel_rfl) rfl (fun _ _ _ h => h) (fun _ _ => by kernel_rfl) (by exact hS) ?_
        simp only [Act.put, List.setIfInBounds_toArray, List.set_cons_succ, List.set_cons_zero]
        refine wpAnyH_done (by kernel_rfl) ?_ _
        have BA := BA.trans (hS.mono BA.size)
        have g5 := (hS.block b5 h5x).trans g5
        clear hS gs hI hsx h5x
        generalize wx.drew = wa at BA g5 ⊢
        clear g5
        go_wp2
        go_ret
        exact ⟨rfl, BA⟩
    · have hE := hdd.1
      have e0' : ¬ ddE bs 2 = 0 := by rw [hE]; exact e0
      have n1 : logV bs = lgNone := if_neg e0
      rw [n1] at hde
      unfold lgNone at hde
      have hdo := fun w => docDecRec_any bs hlen 2 (by decide) w
      have ek : ddk bs 2 = 0 := if_neg e0'
      have ez : ddz bs 2 = [] := if_neg e0'
      have et : ddt bs 2 = ByteArray.empty := if_neg e0'
      rw [hE, ek, ez, et] at hdo
      have hq0 : Hid ((logE bs == 0) = false) := Lib.hid (by simpa using e0)
      have hq1 : Hid ((logE bs != 0) = true) := Lib.hid (by simpa using e0)
      clear hdd ek ez et
      generalize logE bs = E at hde hdo hq0 hq1
      have HDO := Lib.hid hdo
      clear e0 e0' hE hdo
      go_wp2_with fail
      refine Calls.mono hde ?_
      rintro e wb ⟨rfl, bb⟩
      have gs := heap_alloc_new wb (.cells #[.int .i64 0, .int .i64 0, .int .i64 0, .int .i64 0, .int .i64 0, .int .i64 0, .int .i64 0, .string ByteArray.empty] 25)
      have bb' := bb.alloc bb.size (.cells #[.int .i64 0, .int .i64 0, .int .i64 0, .int .i64 0, .int .i64 0, .int .i64 0, .int .i64 0, .string ByteArray.empty] 25)
      have BB := BA.trans (bb'.mono BA.size)
      have hst := run_string_c (hb.below BB)
      have hdo := HDO.out (wb.alloc (.cells #[.int .i64 0, .int .i64 0, .int .i64 0, .int .i64 0, .int .i64 0, .int .i64 0, .int .i64 0, .string ByteArray.empty] 25))
      have h5s : b5 < wb.heap.size := Nat.lt_of_lt_of_le (lt_of_heap g5) bb.size
      have g5 := (bb'.block b5 (lt_of_heap g5)).trans g5
      clear hde HDO bb bb' BA hba
      go_wp2_with fail
      refine Calls.mono hdo ?_
      clear hdo hst
      generalize hsb : wb.heap.size = sb at gs h5s ⊢
      generalize wb.alloc (.cells #[.int .i64 0, .int .i64 0, .int .i64 0, .int .i64 0, .int .i64 0, .int .i64 0, .int .i64 0, .string ByteArray.empty] 25) = wc at gs BB g5 ⊢
      have hsw := lt_of_heap gs
      have h5c := lt_of_heap g5
      rintro e wd ⟨nv, rfl, hI, bd, hob⟩
      have gs := (bd.block sb hsw).trans gs
      have BA := BB.trans (bd.mono BB.size)
      obtain ⟨nao0, ncap0, hnv, -⟩ := id hI
      subst hnv
      clear hsb BB hsw
      have g5 := (bd.block b5 (lt_of_heap g5)).trans g5
      have K1 : StoreOk 34 #[y0, y1, y2] #[.int .i64 0, .slice nao0 0 ncap0, .string ByteArray.empty] := ⟨by kernel_rfl, rfl, by simp [Value.oneCell']⟩
      go_wp2_with (with_reducible refine wpList_store_row2 rfl 34 (.tmp 5) (.tmp 54) rfl b5 #[.int .i64 0, .slice nao0 0 ncap0, .string ByteArray.empty] rfl rfl 34 #[y0, y1, y2] g5 K1 ?_)
      have gs := (setRow_other wd b5 sb #[.int .i64 0, .slice nao0 0 ncap0, .string ByteArray.empty] (by omega)).trans gs
      have BA := below_setRow BA h5W #[.int .i64 0, .slice nao0 0 ncap0, .string ByteArray.empty]
      have hI : IntC (wd.setRow b5 #[.int .i64 0, .slice nao0 0 ncap0, .string ByteArray.empty]) (.slice nao0 0 ncap0) [] := hI.keep fun k hk => setRow_other wd b5 k _ (by have := hob k hk; omega)
      have g5 := setRow_heap wd b5 _ #[.int .i64 0, .slice nao0 0 ncap0, .string ByteArray.empty] _ _ g5
      generalize wd.setRow b5 #[.int .i64 0, .slice nao0 0 ncap0, .string ByteArray.empty] = wx at g5 gs BA hI ⊢
      clear bd K1 hob h5c h5s
      go_wp2_with fail
      have hsx := lt_of_heap gs
      have h5x := lt_of_heap g5
      generalize hnv : Value.slice nao0 0 ncap0 = nv at hI g5 ⊢
      have hS : Below wx.heap.size wx wx.drew := (Below.refl _ _).drew
      refine wp_region_held_drew (S := fun w' => Below wx.heap.size wx w') mixed hS (fun _ => ?_)
      show wpAnyH _ _ _ _ _ 23 (Array.replicate 23 false) _ _
      refine wpAnyH_take_d 0 (some 56) (.int .i64 E) rfl (by kernel_rfl) (by kernel_rfl) (by kernel_rfl) (by kernel_rfl) rfl (fun _ _ _ h => h) (fun _ _ => by kernel_rfl) (by exact hS) ?_
      simp only [Act.put, List.setIfInBounds_toArray, List.set_cons_succ, List.set_cons_zero]
      refine wpAnyH_take_d 1 (some 57) (.int .i64 E) rfl (by kernel_rfl) (by kernel_rfl) (by kernel_rfl) (by kernel_rfl) rfl (fun _ _ _ h => h) (fun _ _ => by kernel_rfl) (by exact hS) ?_
      simp only [Act.put, List.setIfInBounds_toArray, List.set_cons_succ, List.set_cons_zero]
      refine wpAnyH_take_d 2 (some 58) (.bool false) rfl (by kernel_rfl) (by kernel_rfl) (by kernel_rfl) (by kernel_rfl) rfl (fun _ _ _ h => h) (fun w' h => exec_intneq rfl rfl rfl (by simp)) (by exact hS) ?_
      simp only [Act.put, List.setIfInBounds_toArray, List.set_cons_succ, List.set_cons_zero]
      refine wpAnyH_take_d 3 (some 59) (.bool false) rfl (by kernel_rfl) (by kernel_rfl) (by kernel_rfl) (by kernel_rfl) rfl (fun _ _ _ h => h) (fun _ _ => by kernel_rfl) (by exact hS) ?_
      simp only [Act.put, List.setIfInBounds_toArray, List.set_cons_succ, List.set_cons_zero]
      refine wpAnyH_take_d 4 (some 60) (.int .i64 E) rfl (by kernel_rfl) (by kernel_rfl) (by kernel_rfl) (by kernel_rfl) rfl (fun _ _ _ h => h) (fun _ _ => by kernel_rfl) (by exact hS) ?_
      simp only [Act.put, List.setIfInBounds_toArray, List.set_cons_succ, List.set_cons_zero]
      refine wpAnyH_take_d 5 (some 61) (.bool false) rfl (by kernel_rfl) (by kernel_rfl) (by kernel_rfl) (by kernel_rfl) rfl (fun _ _ _ h => h) (fun w' h => exec_inteqb rfl rfl rfl hq0.out) (by exact hS) ?_
      simp only [Act.put, List.setIfInBounds_toArray, List.set_cons_succ, List.set_cons_zero]
      refine wpAnyH_take_d 6 (some 62) (.bool false) rfl (by kernel_rfl) (by kernel_rfl) (by kernel_rfl) (by kernel_rfl) rfl (fun _ _ _ h => h) (fun _ _ => by kernel_rfl) (by exact hS) ?_
      simp only [Act.put, List.setIfInBounds_toArray, List.set_cons_succ, List.set_cons_zero]
      refine wpAnyH_skip_d 7 (some 63) rfl (by kernel_rfl) (by kernel_rfl) (by kernel_rfl) (by kernel_rfl) rfl (fun _ _ _ h => h) (by exact hS) ?_
      simp only [Act.put, List.setIfInBounds_toArray, List.set_cons_succ, List.set_cons_zero]
      refine wpAnyH_skip_d 8 (some 64) rfl (by kernel_rfl) (by kernel_rfl) (by kernel_rfl) (by kernel_rfl) rfl (fun _ _ _ h => h) (by exact hS) ?_
      simp only [Act.put, List.setIfInBounds_toArray, List.set_cons_succ, List.set_cons_zero]
      refine wpAnyH_skip_d 9 (some 65) rfl (by kernel_rfl) (by kernel_rfl) (by kernel_rfl) (by kernel_rfl) rfl (fun _ _ _ h => h) (by exact hS) ?_
      simp only [Act.put, List.setIfInBounds_toArray, List.set_cons_succ, List.set_cons_zero]
      refine wpAnyH_skip_d 10 (some 66) rfl (by kernel_rfl) (by kernel_rfl) (by kernel_rfl) (by kernel_rfl) rfl (fun _ _ _ h => h) (by exact hS) ?_
      simp only [Act.put, List.setIfInBounds_toArray, List.set_cons_succ, List.set_cons_zero]
      refine wpAnyH_skip_d 11 (some 67) rfl (by kernel_rfl) (by kernel_rfl) (by kernel_rfl) (by kernel_rfl) rfl (fun _ _ _ h => h) (by exact hS) ?_
      simp only [Act.put, List.setIfInBounds_toArray, List.set_cons_succ, List.set_cons_zero]
      refine wpAnyH_take_d 12 (some 68) (.bool false) rfl (by kernel_rfl) (by kernel_rfl) (by kernel_rfl) (by kernel_rfl) rfl (fun _ _ _ h => h) (fun _ _ => by kernel_rfl) (by exact hS) ?_
      simp only [Act.put, List.setIfInBounds_toArray, List.set_cons_succ, List.set_cons_zero]
      refine wpAnyH_take_d 13 (some 69) (.bool false) rfl (by kernel_rfl) (by kernel_rfl) (by kernel_rfl) (by kernel_rfl) rfl (fun _ _ _ h => h) (fun _ _ => by kernel_rfl) (by exact hS) ?_
      simp only [Act.put, List.setIfInBounds_toArray, List.set_cons_succ, List.set_cons_zero]
      refine wpAnyH_take_d 14 (some 70) (.bool false) rfl (by kernel_rfl) (by kernel_rfl) (by kernel_rfl) (by kernel_rfl) rfl (fun _ _ _ h => h) (fun _ _ => by kernel_rfl) (by exact hS) ?_
      simp only [Act.put, List.setIfInBounds_toArray, List.set_cons_succ, List.set_cons_zero]
      refine wpAnyH_take_d 15 (some 71) (.int .i64 E) rfl (by kernel_rfl) (by kernel_rfl) (by kernel_rfl) (by kernel_rfl) rfl (fun _ _ _ h => h) (fun _ _ => by kernel_rfl) (by exact hS) ?_
      simp only [Act.put, List.setIfInBounds_toArray, List.set_cons_succ, List.set_cons_zero]
      refine wpAnyH_take_d 16 (some 72) (.bool true) rfl (by kernel_rfl) (by kernel_rfl) (by kernel_rfl) (by kernel_rfl) rfl (fun _ _ _ h => h) (fun w' h => exec_intneq rfl rfl rfl hq1.out) (by exact hS) ?_
      simp only [Act.put, List.setIfInBounds_toArray, List.set_cons_succ, List.set_cons_zero]
      refine wpAnyH_take_d 17 (some 73) (.bool true) rfl (by kernel_rfl) (by kernel_rfl) (by kernel_rfl) (by kernel_rfl) rfl (fun _ _ _ h => h) (fun _ _ => by kernel_rfl) (by exact hS) ?_
      simp only [Act.put, List.setIfInBounds_toArray, List.set_cons_succ, List.set_cons_zero]
      refine wpAnyH_take_d 18 (some 74) (.agg #[.int .i64 0, .int .i64 0, .int .i64 0, .int .i64 0, .int .i64 0, .int .i64 0, .int .i64 0, .string ByteArray.empty]) rfl (by kernel_rfl) (by kernel_rfl) (by kernel_rfl) (by kernel_rfl) rfl (fun _ _ _ h => h) (fun w' h => exec_load_row rfl rfl ((h.block sb (by omega)).trans gs) Try.underlying25 rfl (by kernel_rfl)) (by exact hS) ?_
      simp only [Act.put, List.setIfInBounds_toArray, List.set_cons_succ, List.set_cons_zero]
      refine wpAnyH_take_d 19 (some 75) (.agg #[.int .i64 0, .int .i64 0, .int .i64 0, .int .i64 0, .int .i64 0, .int .i64 0, .int .i64 0, .string ByteArray.empty]) rfl (by kernel_rfl) (by kernel_rfl) (by kernel_rfl) (by kernel_rfl) rfl (fun _ _ _ h => h) (fun _ _ => by kernel_rfl) (by exact hS) ?_
      simp only [Act.put, List.setIfInBounds_toArray, List.set_cons_succ, List.set_cons_zero]
      refine wpAnyH_take_d 20 (some 76) (.bool false) rfl (by kernel_rfl) (by kernel_rfl) (by kernel_rfl) (by kernel_rfl) rfl (fun _ _ _ h => h) (fun _ _ => by kernel_rfl) (by exact hS) ?_
      simp only [Act.put, List.setIfInBounds_toArray, List.set_cons_succ, List.set_cons_zero]
      refine wpAnyH_take_d 21 (some 77) (.bool false) rfl (by kernel_rfl) (by kernel_rfl) (by kernel_rfl) (by kernel_rfl) rfl (fun _ _ _ h => h) (fun _ _ => by kernel_rfl) (by exact hS) ?_
      simp only [Act.put, List.setIfInBounds_toArray, List.set_cons_succ, List.set_cons_zero]
      refine wpAnyH_take_d 22 (some 78) (.bool false) rfl (by kernel_rfl) (by kernel_rfl) (by kernel_rfl) (by kernel_rfl) rfl (fun _ _ _ h => h) (fun _ _ => by kernel_rfl) (by exact hS) ?_
      simp only [Act.put, List.setIfInBounds_toArray, List.set_cons_succ, List.set_cons_zero]
      refine wpAnyH_done (by kernel_rfl) ?_ _
      have BA := BA.trans (hS.mono BA.size)
      have g5 := (hS.block b5 h5x).trans g5
      clear hS gs hI hsx h5x
      generalize wx.drew = wa at BA g5 ⊢
      obtain ⟨y0, y1, y2, hy⟩ : ∃ y0 y1 y2, #[.int .i64 0, nv, .string (ByteArray.empty)] = #[y0, y1, y2] := ⟨_, _, _, rfl⟩
      rw [hy] at g5
      clear hy
      have hba := hb.below BA
      have hde := decodeHome_any hba hcap
      have hdd := dd_home bs
      by_cases e0 : homE bs = 0
      · have hz := hdd.2 e0
        have hE := hdd.1
        rw [e0] at hde hE
        have hdo := fun w => docDecRec_any bs hlen 3 (by decide) w
        have ek : ddk bs 3 = 3 := if_pos hE
        rw [hE, hz.1, hz.2, ek] at hdo
        have HDO := Lib.hid hdo
        clear hdd hE hz ek hdo e0
        go_wp2_with fail
        refine Calls.mono hde ?_
        rintro e wb ⟨rfl, bb⟩
        have gs := heap_alloc_new wb (.cells #[.int .i64 (homP bs), .string (homD bs)] 27)
        have bb' := bb.alloc bb.size (.cells #[.int .i64 (homP bs), .string (homD bs)] 27)
        have BB := BA.trans (bb'.mono BA.size)
        have hst := run_string_c (hb.below BB)
        have hdo := HDO.out (wb.alloc (.cells #[.int .i64 (homP bs), .string (homD bs)] 27))
        have h5s : b5 < wb.heap.size := Nat.lt_of_lt_of_le (lt_of_heap g5) bb.size
        have g5 := (bb'.block b5 (lt_of_heap g5)).trans g5
        clear hde HDO bb bb' BA hba
        go_wp2_with fail
        refine Calls.mono hdo ?_
        clear hdo hst
        generalize hsb : wb.heap.size = sb at gs h5s ⊢
        generalize wb.alloc (.cells #[.int .i64 (homP bs), .string (homD bs)] 27) = wc at gs BB g5 ⊢
        have hsw := lt_of_heap gs
        have h5c := lt_of_heap g5
        rintro e wd ⟨nv, rfl, hI, bd, hob⟩
        have gs := (bd.block sb hsw).trans gs
        have BA := BB.trans (bd.mono BB.size)
        obtain ⟨nao0, ncap0, hnv, -⟩ := id hI
        subst hnv
        clear hsb BB hsw
        have g5 := (bd.block b5 (lt_of_heap g5)).trans g5
        have K1 : StoreOk 34 #[y0, y1, y2] #[.int .i64 3, .slice nao0 1 ncap0, .string (homD bs)] := ⟨by kernel_rfl, rfl, by simp [Value.oneCell']⟩
        go_wp2_with (with_reducible refine wpList_store_row2 rfl 34 (.tmp 5) (.tmp 88) rfl b5 #[.int .i64 3, .slice nao0 1 ncap0, .string (homD bs)] rfl rfl 34 #[y0, y1, y2] g5 K1 ?_)
        have gs := (setRow_other wd b5 sb #[.int .i64 3, .slice nao0 1 ncap0, .string (homD bs)] (by omega)).trans gs
        have BA := below_setRow BA h5W #[.int .i64 3, .slice nao0 1 ncap0, .string (homD bs)]
        have hI : IntC (wd.setRow b5 #[.int .i64 3, .slice nao0 1 ncap0, .string (homD bs)]) (.slice nao0 1 ncap0) [homP bs] := hI.keep fun k hk => setRow_other wd b5 k _ (by have := hob k hk; omega)
        have g5 := setRow_heap wd b5 _ #[.int .i64 3, .slice nao0 1 ncap0, .string (homD bs)] _ _ g5
        generalize wd.setRow b5 #[.int .i64 3, .slice nao0 1 ncap0, .string (homD bs)] = wx at g5 gs BA hI ⊢
        clear bd K1 hob h5c h5s
        go_wp2_with fail
        have hsx := lt_of_heap gs
        have h5x := lt_of_heap g5
        generalize hnv : Value.slice nao0 1 ncap0 = nv at hI g5 ⊢
        have hS : Below wx.heap.size wx wx.drew := (Below.refl _ _).drew
        refine wp_region_held_drew (S := fun w' => Below wx.heap.size wx w') mixed hS (fun _ => ?_)
        show wpAnyH _ _ _ _ _ 23 (Array.replicate 23 false) _ _
        refine wpAnyH_take_d 0 (some 90) (.int .i64 0) rfl (by kernel_rfl) (by kernel_rfl) (by kernel_rfl) (by kernel_rfl) rfl (fun _ _ _ h => h) (fun _ _ => by kernel_rfl) (by exact hS) ?_
        simp only [Act.put, List.setIfInBounds_toArray, List.set_cons_succ, List.set_cons_zero]
        refine wpAnyH_take_d 1 (some 91) (.int .i64 0) rfl (by kernel_rfl) (by kernel_rfl) (by kernel_rfl) (by kernel_rfl) rfl (fun _ _ _ h => h) (fun _ _ => by kernel_rfl) (by exact hS) ?_
        simp only [Act.put, List.setIfInBounds_toArray, List.set_cons_succ, List.set_cons_zero]
        refine wpAnyH_take_d 2 (some 92) (.bool true) rfl (by kernel_rfl) (by kernel_rfl) (by kernel_rfl) (by kernel_rfl) rfl (fun _ _ _ h => h) (fun _ _ => by kernel_rfl) (by exact hS) ?_
        simp only [Act.put, List.setIfInBounds_toArray, List.set_cons_succ, List.set_cons_zero]
        refine wpAnyH_take_d 3 (some 93) (.bool true) rfl (by kernel_rfl) (by kernel_rfl) (by kernel_rfl) (by kernel_rfl) rfl (fun _ _ _ h => h) (fun _ _ => by kernel_rfl) (by exact hS) ?_
        simp only [Act.put, List.setIfInBounds_toArray, List.set_cons_succ, List.set_cons_zero]
        refine wpAnyH_take_d 4 (some 94) (.int .i64 0) rfl (by kernel_rfl) (by kernel_rfl) (by kernel_rfl) (by kernel_rfl) rfl (fun _ _ _ h => h) (fun _ _ => by kernel_rfl) (by exact hS) ?_
        simp only [Act.put, List.setIfInBounds_toArray, List.set_cons_succ, List.set_cons_zero]
        refine wpAnyH_take_d 5 (some 95) (.bool false) rfl (by kernel_rfl) (by kernel_rfl) (by kernel_rfl) (by kernel_rfl) rfl (fun _ _ _ h => h) (fun _ _ => by kernel_rfl) (by exact hS) ?_
        simp only [Act.put, List.setIfInBounds_toArray, List.set_cons_succ, List.set_cons_zero]
        refine wpAnyH_take_d 6 (some 96) (.bool false) rfl (by kernel_rfl) (by kernel_rfl) (by kernel_rfl) (by kernel_rfl) rfl (fun _ _ _ h => h) (fun _ _ => by kernel_rfl) (by exact hS) ?_
        simp only [Act.put, List.setIfInBounds_toArray, List.set_cons_succ, List.set_cons_zero]
        refine wpAnyH_take_d 7 (some 97) (.agg #[.int .i64 (homP bs), .string (homD bs)]) rfl (by kernel_rfl) (by kernel_rfl) (by kernel_rfl) (by kernel_rfl) rfl (fun _ _ _ h => h) (fun w' h => exec_load_row rfl rfl ((h.block sb (by omega)).trans gs) Try.underlying27 rfl (by kernel_rfl)) (by exact hS) ?_
        simp only [Act.put, List.setIfInBounds_toArray, List.set_cons_succ, List.set_cons_zero]
        refine wpAnyH_take_d 9 (some 99) (recV 3 nv ((homD bs))) rfl (by kernel_rfl) (by kernel_rfl) (by kernel_rfl) (by kernel_rfl) rfl (fun _ _ _ h => h) (fun w' h => exec_load_row rfl rfl ((h.block b5 (by omega)).trans g5) Try.underlying34 rfl (by kernel_rfl)) (by exact hS) ?_
        simp only [Act.put, List.setIfInBounds_toArray, List.set_cons_succ, List.set_cons_zero]
        generalize wx.drew = wy at hS ⊢
        refine wpAnyH_call 8 (some 98) 16 #[.agg #[.int .i64 (homP bs), .string (homD bs)]] rfl (by kernel_rfl) (by kernel_rfl) rfl (by kernel_rfl) (homeRec_any (homP bs) (homD bs) wy) ?_
        rintro e wz ⟨nw, rfl, hIw, bz⟩
        have i1 := (hI.below hS).below bz
        have hS : Below wx.heap.size wx wz := hS.trans (bz.mono hS.size)
        obtain ⟨nao, ncap, hnw, -⟩ := id hIw
        subst hnw
        refine ⟨_, rfl, hS, ?_⟩
        simp only [Act.put, List.setIfInBounds_toArray, List.set_cons_succ, List.set_cons_zero]
        have hsm := same_eq hIw i1 3 ((homD bs))
        refine wpAnyH_call 10 (some 100) 20 #[recV 3 _ ((homD bs)), recV 3 nv ((homD bs))] rfl (by kernel_rfl) (by kernel_rfl) rfl (by kernel_rfl) hsm ?_
        rintro e wv ⟨rfl, bv⟩
        have hS : Below wx.heap.size wx wv := hS.trans (bv.mono hS.size)
        refine ⟨_, rfl, hS, ?_⟩
        simp only [Act.put, List.setIfInBounds_toArray, List.set_cons_succ, List.set_cons_zero]
        refine wpAnyH_take_d 11 (some 101) (.bool true) rfl (by kernel_rfl) (by kernel_rfl) (by kernel_rfl) (by kernel_rfl) rfl (fun _ _ _ h => h) (fun _ _ => by kernel_rfl) (by exact hS) ?_
        simp only [Act.put, List.setIfInBounds_toArray, List.set_cons_succ, List.set_cons_zero]
        refine wpAnyH_take_d 12 (some 102) (.bool true) rfl (by kernel_rfl) (by kernel_rfl) (by kernel_rfl) (by kernel_rfl) rfl (fun _ _ _ h => h) (fun _ _ => by kernel_rfl) (by exact hS) ?_
        simp only [Act.put, List.setIfInBounds_toArray, List.set_cons_succ, List.set_cons_zero]
        refine wpAnyH_take_d 13 (some 103) (.bool true) rfl (by kernel_rfl) (by kernel_rfl) (by kernel_rfl) (by kernel_rfl) rfl (fun _ _ _ h => h) (fun _ _ => by kernel_rfl) (by exact hS) ?_
        simp only [Act.put, List.setIfInBounds_toArray, List.set_cons_succ, List.set_cons_zero]
        refine wpAnyH_take_d 14 (some 104) (.int .i64 0) rfl (by kernel_rfl) (by kernel_rfl) (by kernel_rfl) (by kernel_rfl) rfl (fun _ _ _ h => h) (fun _ _ => by kernel_rfl) (by exact hS) ?_
        simp only [Act.put, List.setIfInBounds_toArray, List.set_cons_succ, List.set_cons_zero]
        refine wpAnyH_take_d 15 (some 105) (.bool true) rfl (by kernel_rfl) (by kernel_rfl) (by kernel_rfl) (by kernel_rfl) rfl (fun _ _ _ h => h) (fun _ _ => by kernel_rfl) (by exact hS) ?_
        simp only [Act.put, List.setIfInBounds_toArray, List.set_cons_succ, List.set_cons_zero]
        refine wpAnyH_take_d 16 (some 106) (.bool true) rfl (by kernel_rfl) (by kernel_rfl) (by kernel_rfl) (by kernel_rfl) rfl (fun _ _ _ h => h) (fun _ _ => by kernel_rfl) (by exact hS) ?_
        simp only [Act.put, List.setIfInBounds_toArray, List.set_cons_succ, List.set_cons_zero]
        refine wpAnyH_skip_d 17 (some 107) rfl (by kernel_rfl) (by kernel_rfl) (by kernel_rfl) (by kernel_rfl) rfl (fun _ _ _ h => h) (by exact hS) ?_
        simp only [Act.put, List.setIfInBounds_toArray, List.set_cons_succ, List.set_cons_zero]
        refine wpAnyH_skip_d 18 (some 108) rfl (by kernel_rfl) (by kernel_rfl) (by kernel_rfl) (by kernel_rfl) rfl (fun _ _ _ h => h) (by exact hS) ?_
        simp only [Act.put, List.setIfInBounds_toArray, List.set_cons_succ, List.set_cons_zero]
        refine wpAnyH_skip_d 19 (some 109) rfl (by kernel_rfl) (by kernel_rfl) (by kernel_rfl) (by kernel_rfl) rfl (fun _ _ _ h => h) (by exact hS) ?_
        simp only [Act.put, List.setIfInBounds_toArray, List.set_cons_succ, List.set_cons_zero]
        refine wpAnyH_take_d 20 (some 110) (.bool true) rfl (by kernel_rfl) (by kernel_rfl) (by kernel_rfl) (by kernel_rfl) rfl (fun _ _ _ h => h) (fun _ _ => by kernel_rfl) (by exact hS) ?_
        simp only [Act.put, List.setIfInBounds_toArray, List.set_cons_succ, List.set_cons_zero]
        refine wpAnyH_take_d 21 (some 111) (.bool true) rfl (by kernel_rfl) (by kernel_rfl) (by kernel_rfl) (by kernel_rfl) rfl (fun _ _ _ h => h) (fun _ _ => by kernel_rfl) (by exact hS) ?_
        simp only [Act.put, List.setIfInBounds_toArray, List.set_cons_succ, List.set_cons_zero]
        refine wpAnyH_take_d 22 (some 2) (.bool true) rfl (by kernel_rfl) (by kernel_rfl) (by kernel_rfl) (by kernel_rfl) rfl (fun _ _ _ h => h) (fun _ _ => by kernel_rfl) (by exact hS) ?_
        simp only [Act.put, List.setIfInBounds_toArray, List.set_cons_succ, List.set_cons_zero]
        refine wpAnyH_done (by kernel_rfl) ?_ _
        have BA := BA.trans (hS.mono BA.size)
        have g5 := (hS.block b5 h5x).trans g5
        clear hS gs hI hsx h5x
        generalize wv = wa at BA g5 ⊢
        clear g5
        go_wp2
        go_ret
        exact ⟨rfl, BA⟩
      · have hE := hdd.1
        have e0' : ¬ ddE bs 3 = 0 := by rw [hE]; exact e0
        have n1 : homP bs = 0 := if_neg e0
        have n2 : homD bs = ByteArray.empty := if_neg e0
        rw [n1, n2] at hde
        have hdo := fun w => docDecRec_any bs hlen 3 (by decide) w
        have ek : ddk bs 3 = 0 := if_neg e0'
        have ez : ddz bs 3 = [] := if_neg e0'
        have et : ddt bs 3 = ByteArray.empty := if_neg e0'
        rw [hE, ek, ez, et] at hdo
        have hq0 : Hid ((homE bs == 0) = false) := Lib.hid (by simpa using e0)
        have hq1 : Hid ((homE bs != 0) = true) := Lib.hid (by simpa using e0)
        clear hdd ek ez et
        generalize homE bs = E at hde hdo hq0 hq1
        have HDO := Lib.hid hdo
        clear e0 e0' hE hdo
        go_wp2_with fail
        refine Calls.mono hde ?_
        rintro e wb ⟨rfl, bb⟩
        have gs := heap_alloc_new wb (.cells #[.int .i64 0, .string ByteArray.empty] 27)
        have bb' := bb.alloc bb.size (.cells #[.int .i64 0, .string ByteArray.empty] 27)
        have BB := BA.trans (bb'.mono BA.size)
        have hst := run_string_c (hb.below BB)
        have hdo := HDO.out (wb.alloc (.cells #[.int .i64 0, .string ByteArray.empty] 27))
        have h5s : b5 < wb.heap.size := Nat.lt_of_lt_of_le (lt_of_heap g5) bb.size
        have g5 := (bb'.block b5 (lt_of_heap g5)).trans g5
        clear hde HDO bb bb' BA hba
        go_wp2_with fail
        refine Calls.mono hdo ?_
        clear hdo hst
        generalize hsb : wb.heap.size = sb at gs h5s ⊢
        generalize wb.alloc (.cells #[.int .i64 0, .string ByteArray.empty] 27) = wc at gs BB g5 ⊢
        have hsw := lt_of_heap gs
        have h5c := lt_of_heap g5
        rintro e wd ⟨nv, rfl, hI, bd, hob⟩
        have gs := (bd.block sb hsw).trans gs
        have BA := BB.trans (bd.mono BB.size)
        obtain ⟨nao0, ncap0, hnv, -⟩ := id hI
        subst hnv
        clear hsb BB hsw
        have g5 := (bd.block b5 (lt_of_heap g5)).trans g5
        have K1 : StoreOk 34 #[y0, y1, y2] #[.int .i64 0, .slice nao0 0 ncap0, .string ByteArray.empty] := ⟨by kernel_rfl, rfl, by simp [Value.oneCell']⟩
        go_wp2_with (with_reducible refine wpList_store_row2 rfl 34 (.tmp 5) (.tmp 88) rfl b5 #[.int .i64 0, .slice nao0 0 ncap0, .string ByteArray.empty] rfl rfl 34 #[y0, y1, y2] g5 K1 ?_)
        have gs := (setRow_other wd b5 sb #[.int .i64 0, .slice nao0 0 ncap0, .string ByteArray.empty] (by omega)).trans gs
        have BA := below_setRow BA h5W #[.int .i64 0, .slice nao0 0 ncap0, .string ByteArray.empty]
        have hI : IntC (wd.setRow b5 #[.int .i64 0, .slice nao0 0 ncap0, .string ByteArray.empty]) (.slice nao0 0 ncap0) [] := hI.keep fun k hk => setRow_other wd b5 k _ (by have := hob k hk; omega)
        have g5 := setRow_heap wd b5 _ #[.int .i64 0, .slice nao0 0 ncap0, .string ByteArray.empty] _ _ g5
        generalize wd.setRow b5 #[.int .i64 0, .slice nao0 0 ncap0, .string ByteArray.empty] = wx at g5 gs BA hI ⊢
        clear bd K1 hob h5c h5s
        go_wp2_with fail
        have hsx := lt_of_heap gs
        have h5x := lt_of_heap g5
        generalize hnv : Value.slice nao0 0 ncap0 = nv at hI g5 ⊢
        have hS : Below wx.heap.size wx wx.drew := (Below.refl _ _).drew
        refine wp_region_held_drew (S := fun w' => Below wx.heap.size wx w') mixed hS (fun _ => ?_)
        show wpAnyH _ _ _ _ _ 23 (Array.replicate 23 false) _ _
        refine wpAnyH_take_d 0 (some 90) (.int .i64 E) rfl (by kernel_rfl) (by kernel_rfl) (by kernel_rfl) (by kernel_rfl) rfl (fun _ _ _ h => h) (fun _ _ => by kernel_rfl) (by exact hS) ?_
        simp only [Act.put, List.setIfInBounds_toArray, List.set_cons_succ, List.set_cons_zero]
        refine wpAnyH_take_d 1 (some 91) (.int .i64 E) rfl (by kernel_rfl) (by kernel_rfl) (by kernel_rfl) (by kernel_rfl) rfl (fun _ _ _ h => h) (fun _ _ => by kernel_rfl) (by exact hS) ?_
        simp only [Act.put, List.setIfInBounds_toArray, List.set_cons_succ, List.set_cons_zero]
        refine wpAnyH_take_d 2 (some 92) (.bool true) rfl (by kernel_rfl) (by kernel_rfl) (by kernel_rfl) (by kernel_rfl) rfl (fun _ _ _ h => h) (fun w' h => exec_inteqb rfl rfl rfl (by simp)) (by exact hS) ?_
        simp only [Act.put, List.setIfInBounds_toArray, List.set_cons_succ, List.set_cons_zero]
        refine wpAnyH_take_d 3 (some 93) (.bool true) rfl (by kernel_rfl) (by kernel_rfl) (by kernel_rfl) (by kernel_rfl) rfl (fun _ _ _ h => h) (fun _ _ => by kernel_rfl) (by exact hS) ?_
        simp only [Act.put, List.setIfInBounds_toArray, List.set_cons_succ, List.set_cons_zero]
        refine wpAnyH_take_d 4 (some 94) (.int .i64 E) rfl (by kernel_rfl) (by kernel_rfl) (by kernel_rfl) (by kernel_rfl) rfl (fun _ _ _ h => h) (fun _ _ => by kernel_rfl) (by exact hS) ?_
        simp only [Act.put, List.setIfInBounds_toArray, List.set_cons_succ, List.set_cons_zero]
        refine wpAnyH_take_d 5 (some 95) (.bool true) rfl (by kernel_rfl) (by kernel_rfl) (by kernel_rfl) (by kernel_rfl) rfl (fun _ _ _ h => h) (fun w' h => exec_intneq rfl rfl rfl hq1.out) (by exact hS) ?_
        simp only [Act.put, List.setIfInBounds_toArray, List.set_cons_succ, List.set_cons_zero]
        refine wpAnyH_take_d 6 (some 96) (.bool true) rfl (by kernel_rfl) (by kernel_rfl) (by kernel_rfl) (by kernel_rfl) rfl (fun _ _ _ h => h) (fun _ _ => by kernel_rfl) (by exact hS) ?_
        simp only [Act.put, List.setIfInBounds_toArray, List.set_cons_succ, List.set_cons_zero]
        refine wpAnyH_skip_d 7 (some 97) rfl (by kernel_rfl) (by kernel_rfl) (by kernel_rfl) (by kernel_rfl) rfl (fun _ _ _ h => h) (by exact hS) ?_
        simp only [Act.put, List.setIfInBounds_toArray, List.set_cons_succ, List.set_cons_zero]
        refine wpAnyH_skip_d 8 (some 98) rfl (by kernel_rfl) (by kernel_rfl) (by kernel_rfl) (by kernel_rfl) rfl (fun _ _ _ h => h) (by exact hS) ?_
        simp only [Act.put, List.setIfInBounds_toArray, List.set_cons_succ, List.set_cons_zero]
        refine wpAnyH_skip_d 9 (some 99) rfl (by kernel_rfl) (by kernel_rfl) (by kernel_rfl) (by kernel_rfl) rfl (fun _ _ _ h => h) (by exact hS) ?_
        simp only [Act.put, List.setIfInBounds_toArray, List.set_cons_succ, List.set_cons_zero]
        refine wpAnyH_skip_d 10 (some 100) rfl (by kernel_rfl) (by kernel_rfl) (by kernel_rfl) (by kernel_rfl) rfl (fun _ _ _ h => h) (by exact hS) ?_
        simp only [Act.put, List.setIfInBounds_toArray, List.set_cons_succ, List.set_cons_zero]
        refine wpAnyH_take_d 11 (some 101) (.bool true) rfl (by kernel_rfl) (by kernel_rfl) (by kernel_rfl) (by kernel_rfl) rfl (fun _ _ _ h => h) (fun _ _ => by kernel_rfl) (by exact hS) ?_
        simp only [Act.put, List.setIfInBounds_toArray, List.set_cons_succ, List.set_cons_zero]
        refine wpAnyH_take_d 12 (some 102) (.bool true) rfl (by kernel_rfl) (by kernel_rfl) (by kernel_rfl) (by kernel_rfl) rfl (fun _ _ _ h => h) (fun _ _ => by kernel_rfl) (by exact hS) ?_
        simp only [Act.put, List.setIfInBounds_toArray, List.set_cons_succ, List.set_cons_zero]
        refine wpAnyH_take_d 13 (some 103) (.bool true) rfl (by kernel_rfl) (by kernel_rfl) (by kernel_rfl) (by kernel_rfl) rfl (fun _ _ _ h => h) (fun _ _ => by kernel_rfl) (by exact hS) ?_
        simp only [Act.put, List.setIfInBounds_toArray, List.set_cons_succ, List.set_cons_zero]
        refine wpAnyH_take_d 14 (some 104) (.int .i64 E) rfl (by kernel_rfl) (by kernel_rfl) (by kernel_rfl) (by kernel_rfl) rfl (fun _ _ _ h => h) (fun _ _ => by kernel_rfl) (by exact hS) ?_
        simp only [Act.put, List.setIfInBounds_toArray, List.set_cons_succ, List.set_cons_zero]
        refine wpAnyH_take_d 15 (some 105) (.bool false) rfl (by kernel_rfl) (by kernel_rfl) (by kernel_rfl) (by kernel_rfl) rfl (fun _ _ _ h => h) (fun w' h => exec_inteqb rfl rfl rfl hq0.out) (by exact hS) ?_
        simp only [Act.put, List.setIfInBounds_toArray, List.set_cons_succ, List.set_cons_zero]
        refine wpAnyH_take_d 16 (some 106) (.bool false) rfl (by kernel_rfl) (by kernel_rfl) (by kernel_rfl) (by kernel_rfl) rfl (fun _ _ _ h => h) (fun _ _ => by kernel_rfl) (by exact hS) ?_
        simp only [Act.put, List.setIfInBounds_toArray, List.set_cons_succ, List.set_cons_zero]
        refine wpAnyH_take_d 17 (some 107) (.agg #[.int .i64 0, .string ByteArray.empty]) rfl (by kernel_rfl) (by kernel_rfl) (by kernel_rfl) (by kernel_rfl) rfl (fun _ _ _ h => h) (fun w' h => exec_load_row rfl rfl ((h.block sb (by omega)).trans gs) Try.underlying27 rfl (by kernel_rfl)) (by exact hS) ?_
        simp only [Act.put, List.setIfInBounds_toArray, List.set_cons_succ, List.set_cons_zero]
        refine wpAnyH_take_d 18 (some 108) (.agg #[.int .i64 0, .string ByteArray.empty]) rfl (by kernel_rfl) (by kernel_rfl) (by kernel_rfl) (by kernel_rfl) rfl (fun _ _ _ h => h) (fun _ _ => by kernel_rfl) (by exact hS) ?_
        simp only [Act.put, List.setIfInBounds_toArray, List.set_cons_succ, List.set_cons_zero]
        refine wpAnyH_take_d 19 (some 109) (.bool true) rfl (by kernel_rfl) (by kernel_rfl) (by kernel_rfl) (by kernel_rfl) rfl (fun _ _ _ h => h) (fun _ _ => by kernel_rfl) (by exact hS) ?_
        simp only [Act.put, List.setIfInBounds_toArray, List.set_cons_succ, List.set_cons_zero]
        refine wpAnyH_take_d 20 (some 110) (.bool true) rfl (by kernel_rfl) (by kernel_rfl) (by kernel_rfl) (by kernel_rfl) rfl (fun _ _ _ h => h) (fun _ _ => by kernel_rfl) (by exact hS) ?_
        simp only [Act.put, List.setIfInBounds_toArray, List.set_cons_succ, List.set_cons_zero]
        refine wpAnyH_take_d 21 (some 111) (.bool true) rfl (by kernel_rfl) (by kernel_rfl) (by kernel_rfl) (by kernel_rfl) rfl (fun _ _ _ h => h) (fun _ _ => by kernel_rfl) (by exact hS) ?_
        simp only [Act.put, List.setIfInBounds_toArray, List.set_cons_succ, List.set_cons_zero]
        refine wpAnyH_take_d 22 (some 2) (.bool true) rfl (by kernel_rfl) (by kernel_rfl) (by kernel_rfl) (by kernel_rfl) rfl (fun _ _ _ h => h) (fun _ _ => by kernel_rfl) (by exact hS) ?_
        simp only [Act.put, List.setIfInBounds_toArray, List.set_cons_succ, List.set_cons_zero]
        refine wpAnyH_done (by kernel_rfl) ?_ _
        have BA := BA.trans (hS.mono BA.size)
        have g5 := (hS.block b5 h5x).trans g5
        clear hS gs hI hsx h5x
        generalize wx.drew = wa at BA g5 ⊢
        clear g5
        go_wp2
        go_ret
        exact ⟨rfl, BA⟩

/-! ### the row -/
theorem laidOut : laidOutB Try.prog = true := by kernel_rfl
theorem bytesInt : Try.prog.bytesOf 3 = 8 := by kernel_rfl
set_option maxRecDepth 100000 in
theorem lifted (os : Os) (started : os.Started) (H : Type) (enc : TypeId × Value → H) :
    ReturnsInHanded {} Try.checked os 4 .any (Rows.recordDecodesSpec.pre6 enc Try.prog Try.f4 Rows.recordDecodesRow.domain false) (Rows.recordDecodesSpec.post enc Try.prog Try.f4 false true false false) := by
  refine returnsInHanded_of_change_sized (C := Try.checked) own started (by kernel_rfl) Try.func4
    (ChangeSpec.witness6 (enc := enc) (C := Try.checked) false ⟨#[], #[.slice none 0 0], []⟩ 8 (by kernel_rfl) (by kernel_rfl) (by kernel_rfl) (by kernel_rfl)) ?_
  intro W base args ds gs before hval0 hW hcnd hsz0 _
  have hval : ∀ (j : Nat) t v, Try.f4.params[j]? = some t → args[j]? = some v → Value.okWide Try.prog W .any base t v := hval0
  have hW' := hW
  obtain ⟨p, q, hA0, hV, rfl, hfz, hnd⟩ := hW
  have hA : DataW.TrodAll enc Try.prog W 0 (fun _ => true) true Try.f4.params.toList args.toList ds p := hA0
  have hsz : (DataW.weightsEach Try.prog (Try.f4.params.toList ++ Rows.recordDecodesSpec.plain.varTypes Try.prog) (ds ++ gs)).all (· ≤ reachBytes) = true := hsz0
  rw [Try.params4] at hA hval hsz
  obtain ⟨v0, vs0, d0, ds0, p0, q0, hargs, rfl, rfl, h0, r0⟩ := trodAll_cons hA
  obtain ⟨rfl, rfl, rfl⟩ := trodAll_nil r0
  obtain rfl : args = #[v0] := by cases args; simp_all
  obtain ⟨rfl, rfl⟩ := trodVars_none hV
  have k0 := h0
  have lt0 := args_lt k0
  obtain ⟨z0, w0⟩ := bytes_arg Try.underlying36 Try.underlying5 (by kernel_rfl) (hval 0 36 v0 rfl rfl) (fun el sp e => by subst e; have := sized_slice hsz (j := 0) (t := 36) (e := 5) rfl rfl Try.underlying36; rwa [bytesU8] at this) h0
  clear hA0 hval0 hsz0
  refine (walk v0 z0 W w0).mono fun e W' ⟨he, bel⟩ => ?_
  subst he
  exact ⟨_, rfl, _, _, _, [], _, [], hW', trodAll_mk1 (shut_bool Try.underlying4 _), (trodAll_cons_mk (Below.trod laidOut (by kernel_rfl) (of_decide_eq_true (by kernel_rfl)) k0 bel lt0) trodAll_mk0), rfl, bel.frame _, fun h => by cases h⟩

theorem over : Rows.recordDecodesRow.holds Try.pinned (OpenSpec.ofChange Rows.recordDecodesSpec) :=
  OpenClaim.holds_of_wide 4 Try.f4 rfl rfl rfl rfl rfl rfl rfl ⟨rfl, rfl, rfl, rfl, rfl⟩ rfl rfl rfl rfl rfl (by kernel_rfl) Try.func4 (by kernel_rfl)
    (of_decide_eq_true (by kernel_rfl)) (by unfold Func.isWrapper; first | (rw [if_pos (by decide +kernel)]; kernel_rfl) | (rw [if_neg (by decide +kernel)]; exact ⟨rfl, rfl⟩))
    (fun os started H enc _ => lifted os started H enc)
end Go.Proofs.Ytmkomhdlcbimoaa.recordDecodes

namespace Go.Proofs.Ytmkomhdlcbimoaa
/-- The law returns true at every input. -/
theorem recordDecodes_holds : Rows.RecordDecodesSaid := recordDecodes.over
end Go.Proofs.Ytmkomhdlcbimoaa

