/- The contract of the document's DocSplit at a leaf. No statement of the seat is proved here. -/
import Derived.Test.YtdkmfcmndncmcaaNDocSI
namespace Go.Proofs.Ytdkmfcmndncmcaa
set_option maxRecDepth 20000
open Go.RowKit

theorem refSize_lf {w : World} {v : Value} {q : List Pr} (h : NdAt w.heap.size w v ⟨true, q, [], []⟩) (hk : okN ⟨true, q, [], []⟩ = true) : Calls Try.prog 21 #[v] w fun e w' => e = .returned (.int .i64 (2 + sizPs q : Nat)) ∧ Below w.heap.size w w' := by
  have := refSize_any h (okN_ok hk)
  have hkk := ok_key hk rfl
  have hl := (okL_true ((okN_leaf rfl).symm.trans hk)).2.2.1
  have hle := sizPs_le (l := q) (fun p hp => ⟨(hkk p hp).2.1, (hkk p hp).2.2⟩)
  have hl : q.length ≤ 255 := hl
  have e : sizN ⟨true, q, [], []⟩ = 2 + sizPs q := rfl
  rw [e, wrap_small (by omega) (by omega)] at this
  exact this
theorem ex_index0 {P : Program} {w : World} {ρ : Operand → Value} {o : Oper} {t e : TypeId} {x ix : Operand} {b of len cap : Nat} (s : Nat) (ho : o.op = .indexAddr t x ix) (hx : ρ x = .slice (some ⟨b, of, none⟩) len cap) (hi : ρ ix = .int .i64 0) (hk : 0 < len)
    (hu : P.underlying t = some (.slice e)) (hs : (P.info? e).map (·.size) = some s) : (execOp ρ o).run P w = .ok (.value (.pointer (some ⟨b, of, none⟩))) w := by
  have := ex_index (P := P) (w := w) (k := 0) s ho hx hi hk hu hs
  rwa [Nat.zero_mul, Nat.add_zero] at this
theorem OwnR.head {base : Nat} {w : World} {ao : Option Addr} {m cap : Nat} {l : List Pr} (h : OwnR elP base w (.slice ao m cap) l) (h0 : 0 < l.length) : ∃ g, ao = some ⟨g, 0, none⟩ ∧ base ≤ g ∧ w.cell? ⟨g, 0, none⟩ = some (.string (prAt l 0).k) := by
  refine ownsRow_cell h (j := 0) ?_
  match l, h0 with
  | x :: r, _ => rfl
set_option maxHeartbeats 12800000 in
theorem docSplit_leaf {w : World} {v : Value} {n : Nd} (h : NdAt w.heap.size w v n) (hk : okN n = true) (hl : n.leaf = true) (h2l : 2 ≤ n.ps.length) : Calls Try.prog 30 #[v] w fun e w' => ∃ i, HalfAt n.ps i ∧ SplRet w (lfLo n i) (prAt n.ps i).k (lfHi n i) 0 e w' := by
  have hl255 := (okL_true ((okN_leaf hl).symm.trans hk)).2.2.1
  have LF := Lib.hid (fun (i : Nat) => lf_ok hl hk i)
  obtain ⟨pv, kv, iv, rfl, h1, h2, h3⟩ := h
  obtain ⟨pa, pm, pc, rfl, hpm⟩ := h1.form
  obtain ⟨ka, km, kc, rfl, hkm⟩ := h2.form
  obtain ⟨ia, im, ic, rfl, him⟩ := h3.form
  have F := rpl_start (w := w) (lf := n.leaf) (n := n) ⟨_, _, _, rfl, h1, h2, h3⟩
  have FB := Lib.hid (fun (w1 w2 : World) (f : RplW w n.leaf (.slice pa pm pc) (.slice ka km kc) (.slice ia im ic) n w1) (b : Below (w.heap.size + 3) w1 w2) => f.below b ⟨_, _, _, rfl, h1, h2, h3⟩)
  have rc := right_any F.at_
  rw [hk] at rc
  obtain ⟨pb, poff, cap', hv, hB0, -, -⟩ := h1.getP (i := 0) (by omega)
  obtain ⟨rfl, -, rfl⟩ : pa = some ⟨pb, poff, none⟩ ∧ pm = n.ps.length ∧ pc = cap' := by cases hv; exact ⟨rfl, rfl, rfl⟩
  have hcap : pm ≤ pc := by
    obtain ⟨_, _, e, hc, _⟩ := h1
    injection e with _ e1 e2
    omega
  have hm255 : pm ≤ 255 := by rw [hpm.out]; exact hl255
  have hm2 : 2 ≤ pm := by rw [hpm.out]; exact h2l
  have hwm : IntKind.i64.wrap ((pm : Int) - 1) = ((pm - 1 : Nat) : Int) := by rw [IntKind.wrap_i64]; omega
  have H1 := Lib.hid (fun (w' : World) (b : Below w.heap.size w w') => (h1.below b).more b.size)
  simp only [hl] at F FB rc ⊢
  have PA := Lib.hid (fun (i : Nat) (hi : i ≤ pm) (w' : World) (b : Below w.heap.size w w') => (H1.out w' b).take okP (i := i) (by rw [← hpm.out]; exact hi))
  have PB := Lib.hid (fun (i : Nat) (hi : i ≤ pm) (w' : World) (b : Below w.heap.size w w') (bo : Option Addr) (hbo : ∀ b off, some ⟨pb, poff, none⟩ = some (⟨b, off, none⟩ : Addr) → i < n.ps.length → bo = some ⟨b, off + i * 2, none⟩) => (H1.out w' b).drop okP (i := i) (by rw [← hpm.out]; exact hi) hbo (cap' := pc - i) (by rw [← hpm.out]; omega))
  have SA := Lib.hid (fun (i : Nat) (hi : i ≤ pm) (w' : World) (b : Below w.heap.size w w') => refSize_lf (q := n.ps.take i) (v := .agg #[.bool true, .slice (some ⟨pb, poff, none⟩) i pc, .slice none 0 0, .slice none 0 0]) ⟨_, _, _, rfl, PA.out i hi w' b, SlAt.nil _ _ _, SlAt.nil _ _ _⟩ (LF.out i).1)
  have SB := Lib.hid (fun (i : Nat) (hi : i ≤ pm) (w' : World) (b : Below w.heap.size w w') (bo : Option Addr) (hbo : ∀ b off, some ⟨pb, poff, none⟩ = some (⟨b, off, none⟩ : Addr) → i < n.ps.length → bo = some ⟨b, off + i * 2, none⟩) => refSize_lf (q := n.ps.drop i) (v := .agg #[.bool true, .slice bo (n.ps.length - i) (pc - i), .slice none 0 0, .slice none 0 0]) ⟨_, _, _, rfl, PB.out i hi w' b bo hbo, SlAt.nil _ _ _, SlAt.nil _ _ _⟩ (LF.out i).2)
  rw [← hpm.out] at PB SB
  have bl := build_rl
  have BL := Lib.hid bl
  have HPM := Lib.hid hpm.out
  obtain ⟨q0, q1, q2, q3⟩ := F.cs
  have d2 : ¬ (pm : Int) < 2 := by omega
  clear h1 h2 h3 hpm hkm him hk hl hv hB0 h2l hl255 bl
  go_enter Try.func30, Try.ntmps30
  go_wp2_with fail
  refine rc.mono ?_
  rintro e w4 ⟨rfl, b4⟩
  have F := FB.out _ _ F (b4.mono F.sz)
  clear rc b4
  obtain ⟨q0, q1, q2, q3⟩ := F.cs
  go_wp2
  clear q0 q1 q2 q3
  go_loopw [9] (fun iv wr => ∃ i : Nat, 1 ≤ i ∧ i < pm ∧ iv = .int .i64 i ∧ Hid (∀ q, 1 ≤ q → q < i → sizPs (n.ps.take q) < sizPs (n.ps.drop q)) ∧ RplW w true (.slice (some ⟨pb, poff, none⟩) pm pc) (.slice ka km kc) (.slice ia im ic) n wr) (fun iv _ => pm - (intOf iv).toNat)
  case atStart => exact ⟨1, Nat.le_refl _, by omega, rfl, Lib.hid (fun q h1 h2 => by omega), F⟩
  case round =>
    obtain ⟨i, hi1, him, rfl, hf, F⟩ := hrel
    have hil : i < n.ps.length := by rw [← HPM.out]; exact him
    by_cases hlt : i < pm - 1
    · have hd : decide ((i : Int) < ((pm - 1 : Nat) : Int)) = true := by simp; omega
      obtain ⟨bo, hr2, hbo⟩ := slP_from (some ⟨pb, poff, none⟩) (n := pm) (c := pc) (k := i) (by omega)
      have R1 := Lib.hid (fun w' => slP_to (some ⟨pb, poff, none⟩) (n := pm) (c := pc) (k := i) (by omega) w')
      have R2 := Lib.hid hr2
      have P1 := Lib.hid (fun (w' : World) (f : RplW w true (.slice (some ⟨pb, poff, none⟩) pm pc) (.slice ka km kc) (.slice ia im ic) n w') => SA.out i (by omega) w' f.fr)
      have P2 := Lib.hid (fun (w' : World) (f : RplW w true (.slice (some ⟨pb, poff, none⟩) pm pc) (.slice ka km kc) (.slice ia im ic) n w') => SB.out i (by omega) w' f.fr bo (fun b off e hlt => hbo b off e (by omega)))
      have hS0 := FB.out _ _ F ((Below.refl _ _).drew)
      have T1 := Lib.hid (fun (q : sizPs (n.ps.take i) < sizPs (n.ps.drop i)) (k : Nat) (h1 : 1 ≤ k) (h2 : k < i + 1) => if e : k = i then (by rw [e]; exact q : sizPs (n.ps.take k) < sizPs (n.ps.drop k)) else hf.out k h1 (by omega))
      have T2 := Lib.hid (fun (q : ¬ sizPs (n.ps.take i) < sizPs (n.ps.drop i)) => (⟨hi1, hil, hf.out, fun _ => by omega⟩ : HalfAt n.ps i))
      generalize sizPs (n.ps.take i) = A at *
      generalize sizPs (n.ps.drop i) = D at *
      clear hr2 hbo hf F
      by_cases hc : A < D
      · have hcd : decide (((2 + A : Nat) : Int) < ((2 + D : Nat) : Int)) = true := by simp; omega
        have HF := Lib.hid (T1.out hc)
        clear T1 T2 hc
        go_wp2_with fail
        refine wp_region_held_drew (S := fun w' => RplW w true (.slice (some ⟨pb, poff, none⟩) pm pc) (.slice ka km kc) (.slice ia im ic) n w') mixed hS0 (fun _ => ?_)
        have hS := hS0
        show wpAnyH _ _ _ _ _ 21 (Array.replicate 21 false) _ _
        refine wpAnyH_take_d 0 (some 80) (.int .i64 i) rfl (by kernel_rfl) (by kernel_rfl) (by kernel_rfl) (by kernel_rfl) rfl (fun _ _ _ h => h) (fun _ _ => by kernel_rfl) (by exact hS) ?_
        simp only [Act.put, List.setIfInBounds_toArray, List.set_cons_succ, List.set_cons_zero]
        refine wpAnyH_take_d 1 (some 81) (.pointer (some ⟨w.heap.size, 1, none⟩)) rfl (by kernel_rfl) (by kernel_rfl) (by kernel_rfl) (by kernel_rfl) rfl (fun _ _ _ h => h) (fun _ _ => by kernel_rfl) (by exact hS) ?_
        simp only [Act.put, List.setIfInBounds_toArray, List.set_cons_succ, List.set_cons_zero]
        refine wpAnyH_take_d 2 (some 82) (.slice (some ⟨pb, poff, none⟩) pm pc) rfl (by kernel_rfl) (by kernel_rfl) (by kernel_rfl) (by kernel_rfl) rfl (fun _ _ _ h => h) (fun w' h => exec_load_cell rfl rfl h.cs.c1 Try.underlying22 rfl) (by exact hS) ?_
        simp only [Act.put, List.setIfInBounds_toArray, List.set_cons_succ, List.set_cons_zero]
        refine wpAnyH_take_d 3 (some 83) (.int .i64 pm) rfl (by kernel_rfl) (by kernel_rfl) (by kernel_rfl) (by kernel_rfl) rfl (fun _ _ _ h => h) (fun _ _ => ex_len rfl rfl Try.underlying22) (by exact hS) ?_
        simp only [Act.put, List.setIfInBounds_toArray, List.set_cons_succ, List.set_cons_zero]
        refine wpAnyH_take_d 4 (some 84) (.int .i64 (pm - 1 : Nat)) rfl (by kernel_rfl) (by kernel_rfl) (by kernel_rfl) (by kernel_rfl) rfl (fun _ _ _ h => h) (fun _ _ => ex_sub rfl rfl rfl hwm) (by exact hS) ?_
        simp only [Act.put, List.setIfInBounds_toArray, List.set_cons_succ, List.set_cons_zero]
        refine wpAnyH_take_d 5 (some 85) (.bool true) rfl (by kernel_rfl) (by kernel_rfl) (by kernel_rfl) (by kernel_rfl) rfl (fun _ _ _ h => h) (fun _ _ => ex_lt rfl rfl rfl hd) (by exact hS) ?_
        simp only [Act.put, List.setIfInBounds_toArray, List.set_cons_succ, List.set_cons_zero]
        refine wpAnyH_take_d 6 (some 86) (.bool true) rfl (by kernel_rfl) (by kernel_rfl) (by kernel_rfl) (by kernel_rfl) rfl (fun _ _ _ h => h) (fun _ _ => by kernel_rfl) (by exact hS) ?_
        simp only [Act.put, List.setIfInBounds_toArray, List.set_cons_succ, List.set_cons_zero]
        refine wpAnyH_take_d 7 (some 87) (.pointer (some ⟨w.heap.size, 1, none⟩)) rfl (by kernel_rfl) (by kernel_rfl) (by kernel_rfl) (by kernel_rfl) rfl (fun _ _ _ h => h) (fun _ _ => by kernel_rfl) (by exact hS) ?_
        simp only [Act.put, List.setIfInBounds_toArray, List.set_cons_succ, List.set_cons_zero]
        refine wpAnyH_take_d 8 (some 88) (.slice (some ⟨pb, poff, none⟩) pm pc) rfl (by kernel_rfl) (by kernel_rfl) (by kernel_rfl) (by kernel_rfl) rfl (fun _ _ _ h => h) (fun w' h => exec_load_cell rfl rfl h.cs.c1 Try.underlying22 rfl) (by exact hS) ?_
        simp only [Act.put, List.setIfInBounds_toArray, List.set_cons_succ, List.set_cons_zero]
        refine wpAnyH_take_d 9 (some 89) (.int .i64 i) rfl (by kernel_rfl) (by kernel_rfl) (by kernel_rfl) (by kernel_rfl) rfl (fun _ _ _ h => h) (fun _ _ => by kernel_rfl) (by exact hS) ?_
        simp only [Act.put, List.setIfInBounds_toArray, List.set_cons_succ, List.set_cons_zero]
        refine wpAnyH_take_d 10 (some 90) (.slice (some ⟨pb, poff, none⟩) i pc) rfl (by kernel_rfl) (by kernel_rfl) (by kernel_rfl) (by kernel_rfl) rfl (fun _ _ _ h => h) (fun w' _ => ex_slice rfl rfl rfl rfl (R1.out w')) (by exact hS) ?_
        simp only [Act.put, List.setIfInBounds_toArray, List.set_cons_succ, List.set_cons_zero]
        refine wpAnyH_take_d 11 (some 91) (.agg #[.bool true, .slice (some ⟨pb, poff, none⟩) i pc, .slice none 0 0, .slice none 0 0]) rfl (by kernel_rfl) (by kernel_rfl) (by kernel_rfl) (by kernel_rfl) rfl (fun _ _ _ h => h) (fun w' _ => ex_buildl rfl rfl rfl (BL.out _ (.mk _ _ _) w')) (by exact hS) ?_
        simp only [Act.put, List.setIfInBounds_toArray, List.set_cons_succ, List.set_cons_zero]
        refine wpAnyH_take_d 13 (some 93) (.pointer (some ⟨w.heap.size, 1, none⟩)) rfl (by kernel_rfl) (by kernel_rfl) (by kernel_rfl) (by kernel_rfl) rfl (fun _ _ _ h => h) (fun _ _ => by kernel_rfl) (by exact hS) ?_
        simp only [Act.put, List.setIfInBounds_toArray, List.set_cons_succ, List.set_cons_zero]
        refine wpAnyH_take_d 14 (some 94) (.slice (some ⟨pb, poff, none⟩) pm pc) rfl (by kernel_rfl) (by kernel_rfl) (by kernel_rfl) (by kernel_rfl) rfl (fun _ _ _ h => h) (fun w' h => exec_load_cell rfl rfl h.cs.c1 Try.underlying22 rfl) (by exact hS) ?_
        simp only [Act.put, List.setIfInBounds_toArray, List.set_cons_succ, List.set_cons_zero]
        refine wpAnyH_take_d 15 (some 95) (.int .i64 i) rfl (by kernel_rfl) (by kernel_rfl) (by kernel_rfl) (by kernel_rfl) rfl (fun _ _ _ h => h) (fun _ _ => by kernel_rfl) (by exact hS) ?_
        simp only [Act.put, List.setIfInBounds_toArray, List.set_cons_succ, List.set_cons_zero]
        refine wpAnyH_take_d 16 (some 96) (.slice bo (pm - i) (pc - i)) rfl (by kernel_rfl) (by kernel_rfl) (by kernel_rfl) (by kernel_rfl) rfl (fun _ _ _ h => h) (fun w' _ => ex_slice rfl rfl rfl rfl (R2.out w')) (by exact hS) ?_
        simp only [Act.put, List.setIfInBounds_toArray, List.set_cons_succ, List.set_cons_zero]
        refine wpAnyH_take_d 17 (some 97) (.agg #[.bool true, .slice bo (pm - i) (pc - i), .slice none 0 0, .slice none 0 0]) rfl (by kernel_rfl) (by kernel_rfl) (by kernel_rfl) (by kernel_rfl) rfl (fun _ _ _ h => h) (fun w' _ => ex_buildl rfl rfl rfl (BL.out _ (.mk _ _ _) w')) (by exact hS) ?_
        simp only [Act.put, List.setIfInBounds_toArray, List.set_cons_succ, List.set_cons_zero]
        refine wpAnyH_call 12 (some 92) 21 #[.agg #[.bool true, .slice (some ⟨pb, poff, none⟩) i pc, .slice none 0 0, .slice none 0 0]] rfl (by kernel_rfl) (by kernel_rfl) rfl (by kernel_rfl) (P1.out _ hS) ?_
        rintro e w1 ⟨rfl, b1⟩
        have hS := FB.out _ _ hS (b1.mono hS.sz)
        refine ⟨_, rfl, hS, ?_⟩
        simp only [Act.put, List.setIfInBounds_toArray, List.set_cons_succ, List.set_cons_zero]
        refine wpAnyH_call 18 (some 98) 21 #[.agg #[.bool true, .slice bo (pm - i) (pc - i), .slice none 0 0, .slice none 0 0]] rfl (by kernel_rfl) (by kernel_rfl) rfl (by kernel_rfl) (P2.out _ hS) ?_
        rintro e w2 ⟨rfl, b2⟩
        have hS := FB.out _ _ hS (b2.mono hS.sz)
        refine ⟨_, rfl, hS, ?_⟩
        simp only [Act.put, List.setIfInBounds_toArray, List.set_cons_succ, List.set_cons_zero]
        refine wpAnyH_take_d 19 (some 99) (.bool true) rfl (by kernel_rfl) (by kernel_rfl) (by kernel_rfl) (by kernel_rfl) rfl (fun _ _ _ h => h) (fun _ _ => ex_lt rfl rfl rfl hcd) (by exact hS) ?_
        simp only [Act.put, List.setIfInBounds_toArray, List.set_cons_succ, List.set_cons_zero]
        refine wpAnyH_take_d 20 (some 100) (.bool true) rfl (by kernel_rfl) (by kernel_rfl) (by kernel_rfl) (by kernel_rfl) rfl (fun _ _ _ h => h) (fun _ _ => by kernel_rfl) (by exact hS) ?_
        simp only [Act.put, List.setIfInBounds_toArray, List.set_cons_succ, List.set_cons_zero]
        refine wpAnyH_done (by kernel_rfl) ?_ _
        have hw1 : IntKind.i64.wrap ((i : Int) + 1) = (i : Int) + 1 := by rw [IntKind.wrap_i64]; omega
        clear b1 b2
        go_wp2
        go_roundw
        case rel => exact ⟨i + 1, by omega, by omega, by go_num, HF, hS⟩
        case measure => simp [intOf]; omega
      · have hcd : decide (((2 + A : Nat) : Int) < ((2 + D : Nat) : Int)) = false := by simp; omega
        have HF := Lib.hid (T2.out hc)
        clear T1 T2 hc
        go_wp2_with fail
        refine wp_region_held_drew (S := fun w' => RplW w true (.slice (some ⟨pb, poff, none⟩) pm pc) (.slice ka km kc) (.slice ia im ic) n w') mixed hS0 (fun _ => ?_)
        have hS := hS0
        show wpAnyH _ _ _ _ _ 21 (Array.replicate 21 false) _ _
        refine wpAnyH_take_d 0 (some 80) (.int .i64 i) rfl (by kernel_rfl) (by kernel_rfl) (by kernel_rfl) (by kernel_rfl) rfl (fun _ _ _ h => h) (fun _ _ => by kernel_rfl) (by exact hS) ?_
        simp only [Act.put, List.setIfInBounds_toArray, List.set_cons_succ, List.set_cons_zero]
        refine wpAnyH_take_d 1 (some 81) (.pointer (some ⟨w.heap.size, 1, none⟩)) rfl (by kernel_rfl) (by kernel_rfl) (by kernel_rfl) (by kernel_rfl) rfl (fun _ _ _ h => h) (fun _ _ => by kernel_rfl) (by exact hS) ?_
        simp only [Act.put, List.setIfInBounds_toArray, List.set_cons_succ, List.set_cons_zero]
        refine wpAnyH_take_d 2 (some 82) (.slice (some ⟨pb, poff, none⟩) pm pc) rfl (by kernel_rfl) (by kernel_rfl) (by kernel_rfl) (by kernel_rfl) rfl (fun _ _ _ h => h) (fun w' h => exec_load_cell rfl rfl h.cs.c1 Try.underlying22 rfl) (by exact hS) ?_
        simp only [Act.put, List.setIfInBounds_toArray, List.set_cons_succ, List.set_cons_zero]
        refine wpAnyH_take_d 3 (some 83) (.int .i64 pm) rfl (by kernel_rfl) (by kernel_rfl) (by kernel_rfl) (by kernel_rfl) rfl (fun _ _ _ h => h) (fun _ _ => ex_len rfl rfl Try.underlying22) (by exact hS) ?_
        simp only [Act.put, List.setIfInBounds_toArray, List.set_cons_succ, List.set_cons_zero]
        refine wpAnyH_take_d 4 (some 84) (.int .i64 (pm - 1 : Nat)) rfl (by kernel_rfl) (by kernel_rfl) (by kernel_rfl) (by kernel_rfl) rfl (fun _ _ _ h => h) (fun _ _ => ex_sub rfl rfl rfl hwm) (by exact hS) ?_
        simp only [Act.put, List.setIfInBounds_toArray, List.set_cons_succ, List.set_cons_zero]
        refine wpAnyH_take_d 5 (some 85) (.bool true) rfl (by kernel_rfl) (by kernel_rfl) (by kernel_rfl) (by kernel_rfl) rfl (fun _ _ _ h => h) (fun _ _ => ex_lt rfl rfl rfl hd) (by exact hS) ?_
        simp only [Act.put, List.setIfInBounds_toArray, List.set_cons_succ, List.set_cons_zero]
        refine wpAnyH_take_d 6 (some 86) (.bool true) rfl (by kernel_rfl) (by kernel_rfl) (by kernel_rfl) (by kernel_rfl) rfl (fun _ _ _ h => h) (fun _ _ => by kernel_rfl) (by exact hS) ?_
        simp only [Act.put, List.setIfInBounds_toArray, List.set_cons_succ, List.set_cons_zero]
        refine wpAnyH_take_d 7 (some 87) (.pointer (some ⟨w.heap.size, 1, none⟩)) rfl (by kernel_rfl) (by kernel_rfl) (by kernel_rfl) (by kernel_rfl) rfl (fun _ _ _ h => h) (fun _ _ => by kernel_rfl) (by exact hS) ?_
        simp only [Act.put, List.setIfInBounds_toArray, List.set_cons_succ, List.set_cons_zero]
        refine wpAnyH_take_d 8 (some 88) (.slice (some ⟨pb, poff, none⟩) pm pc) rfl (by kernel_rfl) (by kernel_rfl) (by kernel_rfl) (by kernel_rfl) rfl (fun _ _ _ h => h) (fun w' h => exec_load_cell rfl rfl h.cs.c1 Try.underlying22 rfl) (by exact hS) ?_
        simp only [Act.put, List.setIfInBounds_toArray, List.set_cons_succ, List.set_cons_zero]
        refine wpAnyH_take_d 9 (some 89) (.int .i64 i) rfl (by kernel_rfl) (by kernel_rfl) (by kernel_rfl) (by kernel_rfl) rfl (fun _ _ _ h => h) (fun _ _ => by kernel_rfl) (by exact hS) ?_
        simp only [Act.put, List.setIfInBounds_toArray, List.set_cons_succ, List.set_cons_zero]
        refine wpAnyH_take_d 10 (some 90) (.slice (some ⟨pb, poff, none⟩) i pc) rfl (by kernel_rfl) (by kernel_rfl) (by kernel_rfl) (by kernel_rfl) rfl (fun _ _ _ h => h) (fun w' _ => ex_slice rfl rfl rfl rfl (R1.out w')) (by exact hS) ?_
        simp only [Act.put, List.setIfInBounds_toArray, List.set_cons_succ, List.set_cons_zero]
        refine wpAnyH_take_d 11 (some 91) (.agg #[.bool true, .slice (some ⟨pb, poff, none⟩) i pc, .slice none 0 0, .slice none 0 0]) rfl (by kernel_rfl) (by kernel_rfl) (by kernel_rfl) (by kernel_rfl) rfl (fun _ _ _ h => h) (fun w' _ => ex_buildl rfl rfl rfl (BL.out _ (.mk _ _ _) w')) (by exact hS) ?_
        simp only [Act.put, List.setIfInBounds_toArray, List.set_cons_succ, List.set_cons_zero]
        refine wpAnyH_take_d 13 (some 93) (.pointer (some ⟨w.heap.size, 1, none⟩)) rfl (by kernel_rfl) (by kernel_rfl) (by kernel_rfl) (by kernel_rfl) rfl (fun _ _ _ h => h) (fun _ _ => by kernel_rfl) (by exact hS) ?_
        simp only [Act.put, List.setIfInBounds_toArray, List.set_cons_succ, List.set_cons_zero]
        refine wpAnyH_take_d 14 (some 94) (.slice (some ⟨pb, poff, none⟩) pm pc) rfl (by kernel_rfl) (by kernel_rfl) (by kernel_rfl) (by kernel_rfl) rfl (fun _ _ _ h => h) (fun w' h => exec_load_cell rfl rfl h.cs.c1 Try.underlying22 rfl) (by exact hS) ?_
        simp only [Act.put, List.setIfInBounds_toArray, List.set_cons_succ, List.set_cons_zero]
        refine wpAnyH_take_d 15 (some 95) (.int .i64 i) rfl (by kernel_rfl) (by kernel_rfl) (by kernel_rfl) (by kernel_rfl) rfl (fun _ _ _ h => h) (fun _ _ => by kernel_rfl) (by exact hS) ?_
        simp only [Act.put, List.setIfInBounds_toArray, List.set_cons_succ, List.set_cons_zero]
        refine wpAnyH_take_d 16 (some 96) (.slice bo (pm - i) (pc - i)) rfl (by kernel_rfl) (by kernel_rfl) (by kernel_rfl) (by kernel_rfl) rfl (fun _ _ _ h => h) (fun w' _ => ex_slice rfl rfl rfl rfl (R2.out w')) (by exact hS) ?_
        simp only [Act.put, List.setIfInBounds_toArray, List.set_cons_succ, List.set_cons_zero]
        refine wpAnyH_take_d 17 (some 97) (.agg #[.bool true, .slice bo (pm - i) (pc - i), .slice none 0 0, .slice none 0 0]) rfl (by kernel_rfl) (by kernel_rfl) (by kernel_rfl) (by kernel_rfl) rfl (fun _ _ _ h => h) (fun w' _ => ex_buildl rfl rfl rfl (BL.out _ (.mk _ _ _) w')) (by exact hS) ?_
        simp only [Act.put, List.setIfInBounds_toArray, List.set_cons_succ, List.set_cons_zero]
        refine wpAnyH_call 12 (some 92) 21 #[.agg #[.bool true, .slice (some ⟨pb, poff, none⟩) i pc, .slice none 0 0, .slice none 0 0]] rfl (by kernel_rfl) (by kernel_rfl) rfl (by kernel_rfl) (P1.out _ hS) ?_
        rintro e w1 ⟨rfl, b1⟩
        have hS := FB.out _ _ hS (b1.mono hS.sz)
        refine ⟨_, rfl, hS, ?_⟩
        simp only [Act.put, List.setIfInBounds_toArray, List.set_cons_succ, List.set_cons_zero]
        refine wpAnyH_call 18 (some 98) 21 #[.agg #[.bool true, .slice bo (pm - i) (pc - i), .slice none 0 0, .slice none 0 0]] rfl (by kernel_rfl) (by kernel_rfl) rfl (by kernel_rfl) (P2.out _ hS) ?_
        rintro e w2 ⟨rfl, b2⟩
        have hS := FB.out _ _ hS (b2.mono hS.sz)
        refine ⟨_, rfl, hS, ?_⟩
        simp only [Act.put, List.setIfInBounds_toArray, List.set_cons_succ, List.set_cons_zero]
        refine wpAnyH_take_d 19 (some 99) (.bool false) rfl (by kernel_rfl) (by kernel_rfl) (by kernel_rfl) (by kernel_rfl) rfl (fun _ _ _ h => h) (fun _ _ => ex_lt rfl rfl rfl hcd) (by exact hS) ?_
        simp only [Act.put, List.setIfInBounds_toArray, List.set_cons_succ, List.set_cons_zero]
        refine wpAnyH_take_d 20 (some 100) (.bool false) rfl (by kernel_rfl) (by kernel_rfl) (by kernel_rfl) (by kernel_rfl) rfl (fun _ _ _ h => h) (fun _ _ => by kernel_rfl) (by exact hS) ?_
        simp only [Act.put, List.setIfInBounds_toArray, List.set_cons_succ, List.set_cons_zero]
        refine wpAnyH_done (by kernel_rfl) ?_ _
        clear b1 b2 P1 P2 R1 R2 hcd hd hS0 hlt
        obtain ⟨q0, q1, q2, q3⟩ := hS.cs
        have hfr := hS.fr
        obtain ⟨bo, hr2, hbo⟩ := slP_from (some ⟨pb, poff, none⟩) (n := pm) (c := pc) (k := i) (by omega)
        have hr1 := fun w' => slP_to (some ⟨pb, poff, none⟩) (n := pm) (c := pc) (k := i) (by omega) w'
        have hlA : (([] : List Pr).length + (n.ps.take i).length) * elP.bytes ≤ 140737488355328 := by
          have : (n.ps.take i).length ≤ 255 := by rw [List.length_take]; omega
          show (0 + _) * 32 ≤ _; omega
        have hlB : (([] : List Pr).length + (n.ps.drop i).length) * elP.bytes ≤ 140737488355328 := by
          have : (n.ps.drop i).length ≤ 255 := by rw [List.length_drop, ← HPM.out]; omega
          show (0 + _) * 32 ≤ _; omega
        have bV := below_new w2 (.cells #[] 50)
        obtain ⟨q4, q5, q6, q7⟩ := (FB.out _ _ hS (bV.mono hS.sz)).cs
        have sV : w2.heap.size ≤ (w2.alloc (.cells #[] 50)).heap.size := bV.size
        obtain ⟨xa, xm, xc, W1, hp1, o1, c1, s1, k1⟩ := app_step okP (OwnR.made elP w2) (PA.out i (by omega) _ (hfr.trans (bV.mono hfr.size))) hlA sV 22
        rw [List.nil_append] at o1
        have HP1 := Lib.hid hp1
        have HR1 := hr1 (w2.alloc (.cells #[] 50))
        have bl1 := BL.out (.slice xa xm xc) (.mk _ _ _) W1
        have e1 : Below w2.heap.size w2 W1 := bV.trans c1
        have hS1 := FB.out _ _ hS (e1.mono hS.sz)
        have hg1 := heap_alloc_new W1 zrbO
        have n1 := below_new W1 zrbO
        have HLB := Lib.hid hlB
        have HR2 := Lib.hid hr2
        have HBO := Lib.hid hbo
        have HHr1 := Lib.hid HR1
        have O1 := Lib.hid (o1.base hS.sz)
        have HV := Lib.hid hS.sz
        clear hr1 hr2 hbo hlA hlB hp1 c1 s1 k1 sV bV o1 hfr e1 HR1
        have hr1 := HHr1.out
        go_wp2_with (first | (with_reducible refine wpList_append_own rfl (.tmp 103) (.tmp 107) 22 22 rfl (.slice (some ⟨w2.heap.size, 0, none⟩) 0 0) (.slice (some ⟨pb, poff, none⟩) i pc) (.slice xa xm xc) rfl rfl HP1.out ?_) | (with_reducible refine wpList_store_rn (a0 := W1) (B := W1.heap.size) rfl (.tmp 10) (.tmp 109) rfl W1.heap.size true (.slice xa xm xc) (.slice none 0 0) (.slice none 0 0) rfl rfl #[.bool false, .slice none 0 0, .slice none 0 0, .slice none 0 0] hg1 rfl (.mk _ _ _) (.mk _ _ _) (.mk _ _ _) n1 (Nat.le_refl _) ?_))
        rintro W2 - gA m1 -
        have hS := FB.out _ _ hS1 (m1.mono hS1.sz)
        have O1 := Lib.hid (O1.out.below m1)
        have hAlo := hS1.sz
        obtain ⟨A, hAe⟩ : ∃ A, W1.heap.size = A := ⟨_, rfl⟩
        rw [hAe] at gA hAlo ⊢
        clear hr1 hg1 n1 m1 hS1 bl1 HP1 HHr1 hAe q0 q1 q2 q3 HV q4 q5 q6 q7
        obtain ⟨q0, q1, q2, q3⟩ := hS.cs
        have hfr := hS.fr
        have bV := below_new W2 (.cells #[] 50)
        obtain ⟨q4, q5, q6, q7⟩ := (FB.out _ _ hS (bV.mono hS.sz)).cs
        obtain ⟨ya, ym, yc, W3, hp2, o2, c2, s2, k2⟩ := app_step okP (OwnR.made elP W2) (PB.out i (by omega) _ (hfr.trans (bV.mono hfr.size)) bo (fun b off e hlt => HBO.out b off e (by omega))) HLB.out bV.size 22
        rw [List.nil_append] at o2
        have HP2 := Lib.hid hp2
        have hr2 := HR2.out (W2.alloc (.cells #[] 50))
        have bl2 := BL.out (.slice ya ym yc) (.mk _ _ _) W3
        have e2 : Below W2.heap.size W2 W3 := bV.trans c2
        have hS2 := FB.out _ _ hS (e2.mono hS.sz)
        have O1 := Lib.hid (O1.out.below e2)
        have gA := (e2.block A (lt_of_heap gA)).trans gA
        have hg2 := heap_alloc_new W3 zrbO
        have n2 := below_new W3 zrbO
        have O2 := Lib.hid (o2.base hS.sz)
        clear hp2 c2 s2 k2 bV o2 hfr e2 HLB HBO
        go_wp2_with (first | (with_reducible refine wpList_append_own rfl (.tmp 110) (.tmp 114) 22 22 rfl (.slice (some ⟨W2.heap.size, 0, none⟩) 0 0) (.slice bo (pm - i) (pc - i)) (.slice ya ym yc) rfl rfl HP2.out ?_) | (with_reducible refine wpList_store_rn (a0 := W3) (B := W3.heap.size) rfl (.tmp 11) (.tmp 116) rfl W3.heap.size true (.slice ya ym yc) (.slice none 0 0) (.slice none 0 0) rfl rfl #[.bool false, .slice none 0 0, .slice none 0 0, .slice none 0 0] hg2 rfl (.mk _ _ _) (.mk _ _ _) (.mk _ _ _) n2 (Nat.le_refl _) ?_))
        rintro W4 - gC m2 -
        have hS := FB.out _ _ hS2 (m2.mono hS2.sz)
        have o1 := O1.out.below m2
        have o2 := O2.out.below m2
        have gA := (m2.block A (lt_of_heap gA)).trans gA
        have hClo := hS2.sz
        obtain ⟨C, hCe⟩ : ∃ C, W3.heap.size = C := ⟨_, rfl⟩
        rw [hCe] at gC hClo ⊢
        obtain ⟨hg, rfl, hhg, hkc⟩ := o2.head (by rw [List.length_drop]; omega)
        have hke : (prAt (n.ps.drop i) 0).k = (prAt n.ps i).k := by
          unfold prAt
          rw [List.getD_eq_getElem?_getD, List.getD_eq_getElem?_getD, List.getElem?_drop, Nat.add_zero]
        rw [hke] at hkc
        have hym : ym = n.ps.length - i := by
          obtain ⟨_, _, e, _⟩ := o2.form
          injection e with _ e _
          rw [e, List.length_drop]
        have hy0 : 0 < ym := by omega
        generalize hkk : (prAt n.ps i).k = key at *
        have fr := hS.fr
        have z1 := hS.z1
        have z2 := hS.z2
        have RGA := Lib.hid (fun (w' : World) (h : ∀ k, k ≠ w.heap.size + 1 → k ≠ w.heap.size + 2 → w'.heap[k]? = W4.heap[k]?) => range4s (NdCells.of ((h A (by omega) (by omega)).trans gA)))
        have RGC := Lib.hid (fun (w' : World) (h : ∀ k, k ≠ w.heap.size + 1 → k ≠ w.heap.size + 2 → w'.heap[k]? = W4.heap[k]?) => range4s (NdCells.of ((h C (by omega) (by omega)).trans gC)))
        have CX := Lib.hid (fun (w' : World) (h : ∀ k, k ≠ w.heap.size + 1 → k ≠ w.heap.size + 2 → w'.heap[k]? = W4.heap[k]?) => (NdCells.of ((h C (by omega) (by omega)).trans gC)).c1)
        have DK := Lib.hid (fun (w' : World) (h : ∀ k, k ≠ w.heap.size + 1 → k ≠ w.heap.size + 2 → w'.heap[k]? = W4.heap[k]?) => (World.cell?_of_block (w := W4) (w' := w') (a := ⟨hg, 0, none⟩) (h hg (by omega) (by omega))).trans hkc)
        have O1 := Lib.hid o1
        have O2 := Lib.hid o2
        have HS4 := Lib.hid hS
        clear hr2 hg2 n2 m2 hS2 bl2 HP2 HR2 hCe q0 q1 q2 q3 q4 q5 q6 q7 gA gC hkc hke hym o1 o2 hS PA PB SA SB H1 LF
        go_wp2_with fail
        have hS : ∀ k, k ≠ w.heap.size + 1 → k ≠ w.heap.size + 2 → W4.drew.heap[k]? = W4.heap[k]? := fun _ _ _ => rfl
        refine wp_region_held_drew (S := fun w' => ∀ k, k ≠ w.heap.size + 1 → k ≠ w.heap.size + 2 → w'.heap[k]? = W4.heap[k]?) mixed hS (fun _ => ?_)
        show wpAnyH _ _ _ _ _ 11 (Array.replicate 11 false) _ _
        refine wpAnyH_take_d 0 (some 117) (.agg #[.bool true, .slice xa xm xc, .slice none 0 0, .slice none 0 0]) rfl (by kernel_rfl) (by kernel_rfl) (by kernel_rfl) (by kernel_rfl) rfl (fun _ _ _ h => h) (fun w' h => ex_row rfl rfl (RGA.out _ h) Try.underlying26 rfl (by kernel_rfl)) (by exact hS) ?_
        simp only [Act.put, List.setIfInBounds_toArray, List.set_cons_succ, List.set_cons_zero]
        refine wpAnyH_take_d 1 (some 118) (.pointer (some ⟨C, 1, none⟩)) rfl (by kernel_rfl) (by kernel_rfl) (by kernel_rfl) (by kernel_rfl) rfl (fun _ _ _ h => h) (fun _ _ => by kernel_rfl) (by exact hS) ?_
        simp only [Act.put, List.setIfInBounds_toArray, List.set_cons_succ, List.set_cons_zero]
        refine wpAnyH_take_d 2 (some 119) (.slice (some ⟨hg, 0, none⟩) ym yc) rfl (by kernel_rfl) (by kernel_rfl) (by kernel_rfl) (by kernel_rfl) rfl (fun _ _ _ h => h) (fun w' h => exec_load_cell rfl rfl (CX.out _ h) Try.underlying22 rfl) (by exact hS) ?_
        simp only [Act.put, List.setIfInBounds_toArray, List.set_cons_succ, List.set_cons_zero]
        refine wpAnyH_take_d 3 (some 120) (.pointer (some ⟨hg, 0, none⟩)) rfl (by kernel_rfl) (by kernel_rfl) (by kernel_rfl) (by kernel_rfl) rfl (fun _ _ _ h => h) (fun _ _ => ex_index0 2 rfl rfl rfl hy0 Try.underlying22 szPr) (by exact hS) ?_
        simp only [Act.put, List.setIfInBounds_toArray, List.set_cons_succ, List.set_cons_zero]
        refine wpAnyH_take_d 4 (some 121) (.pointer (some ⟨hg, 0, none⟩)) rfl (by kernel_rfl) (by kernel_rfl) (by kernel_rfl) (by kernel_rfl) rfl (fun _ _ _ h => h) (fun _ _ => by kernel_rfl) (by exact hS) ?_
        simp only [Act.put, List.setIfInBounds_toArray, List.set_cons_succ, List.set_cons_zero]
        refine wpAnyH_take_d 5 (some 122) (.string key) rfl (by kernel_rfl) (by kernel_rfl) (by kernel_rfl) (by kernel_rfl) rfl (fun _ _ _ h => h) (fun w' h => exec_load_cell rfl rfl (DK.out _ h) Try.underlying9 rfl) (by exact hS) ?_
        simp only [Act.put, List.setIfInBounds_toArray, List.set_cons_succ, List.set_cons_zero]
        refine wpAnyH_take_d 6 (some 123) (.agg #[.bool true, .slice (some ⟨hg, 0, none⟩) ym yc, .slice none 0 0, .slice none 0 0]) rfl (by kernel_rfl) (by kernel_rfl) (by kernel_rfl) (by kernel_rfl) rfl (fun _ _ _ h => h) (fun w' h => ex_row rfl rfl (RGC.out _ h) Try.underlying26 rfl (by kernel_rfl)) (by exact hS) ?_
        simp only [Act.put, List.setIfInBounds_toArray, List.set_cons_succ, List.set_cons_zero]
        -- left: [(7, ('none', 'Op.store 26 t2 t117', None)), (8, ('3', 'Op.assign t122', None)), (9, ('none', 'Op.store 26 t4 t123', None)), (10, ('5', 'Op.assign (const (0:i64))', None))]
        have z1 : W4.drew.heap[w.heap.size + 1]? = some zrbO := z1
        have z2 : W4.drew.heap[w.heap.size + 2]? = some zrbO := z2
        have o6 : OwnR elP (w.heap.size + 3) W4.drew (.slice xa xm xc) (n.ps.take i) := O1.out
        have o8 : OwnR elP (w.heap.size + 3) W4.drew (.slice (some ⟨hg, 0, none⟩) ym yc) (n.ps.drop i) := O2.out
        have fr := fr.drew
        clear RGA RGC CX DK
        generalize W4.drew = V5 at *
        have y1 : ∀ k, k ≠ w.heap.size + 1 → (V5.setRow (w.heap.size + 1) #[.bool true, .slice xa xm xc, .slice none 0 0, .slice none 0 0]).heap[k]? = V5.heap[k]? := fun k h => setRow_other V5 (w.heap.size + 1) k _ h
        have n1 := setRow_heap V5 (w.heap.size + 1) _ #[.bool true, .slice xa xm xc, .slice none 0 0, .slice none 0 0] _ _ z1
        refine wpAnyH_one_skip 7 rfl (by kernel_rfl) (by kernel_rfl) (ex_store_row rfl rfl rfl z1 (by kernel_rfl) rfl (by simp [Value.oneCell'])) (fun k h1 h2 => (y1 k h1).trans (hS k h1 h2)) ?_
        simp only [Act.put, List.setIfInBounds_toArray]
        have hS : ∀ k, k ≠ w.heap.size + 1 → k ≠ w.heap.size + 2 → (V5.setRow (w.heap.size + 1) #[.bool true, .slice xa xm xc, .slice none 0 0, .slice none 0 0]).heap[k]? = W4.heap[k]? := fun k h1 h2 => (y1 k h1).trans (hS k h1 h2)
        have z2 := (y1 (w.heap.size + 2) (by omega)).trans z2
        have fr := below_setRow' fr (Nat.le_succ _) #[.bool true, .slice xa xm xc, .slice none 0 0, .slice none 0 0]
        have o6 := o6.keepg (by omega) y1
        have o8 := o8.keepg (by omega) y1
        generalize V5.setRow (w.heap.size + 1) #[.bool true, .slice xa xm xc, .slice none 0 0, .slice none 0 0] = V6 at *
        refine wpAnyH_take_d 8 (some 3) (.string key) rfl (by kernel_rfl) (by kernel_rfl) (by kernel_rfl) (by kernel_rfl) rfl (fun _ _ _ h => h) (fun _ _ => by kernel_rfl) (by exact hS) ?_
        simp only [Act.put]
        have y2 : ∀ k, k ≠ w.heap.size + 2 → (V6.setRow (w.heap.size + 2) #[.bool true, .slice (some ⟨hg, 0, none⟩) ym yc, .slice none 0 0, .slice none 0 0]).heap[k]? = V6.heap[k]? := fun k h => setRow_other V6 (w.heap.size + 2) k _ h
        have n2 := setRow_heap V6 (w.heap.size + 2) _ #[.bool true, .slice (some ⟨hg, 0, none⟩) ym yc, .slice none 0 0, .slice none 0 0] _ _ z2
        refine wpAnyH_one_skip 9 rfl (by kernel_rfl) (by kernel_rfl) (ex_store_row rfl rfl rfl z2 (by kernel_rfl) rfl (by simp [Value.oneCell'])) (fun k h1 h2 => (y2 k h2).trans (hS k h1 h2)) ?_
        simp only [Act.put]
        have hS : ∀ k, k ≠ w.heap.size + 1 → k ≠ w.heap.size + 2 → (V6.setRow (w.heap.size + 2) #[.bool true, .slice (some ⟨hg, 0, none⟩) ym yc, .slice none 0 0, .slice none 0 0]).heap[k]? = W4.heap[k]? := fun k h1 h2 => (y2 k h2).trans (hS k h1 h2)
        have n1 := (y2 (w.heap.size + 1) (by omega)).trans n1
        have fr := below_setRow' fr (Nat.le_add_right _ 2) #[.bool true, .slice (some ⟨hg, 0, none⟩) ym yc, .slice none 0 0, .slice none 0 0]
        have o6 := o6.keepg (by omega) y2
        have o8 := o8.keepg (by omega) y2
        generalize V6.setRow (w.heap.size + 2) #[.bool true, .slice (some ⟨hg, 0, none⟩) ym yc, .slice none 0 0, .slice none 0 0] = V7 at *
        refine wpAnyH_take_d 10 (some 5) (.int .i64 0) rfl (by kernel_rfl) (by kernel_rfl) (by kernel_rfl) (by kernel_rfl) rfl (fun _ _ _ h => h) (fun _ _ => by kernel_rfl) (by exact hS) ?_
        refine wpAnyH_done (by kernel_rfl) ?_ _
        obtain ⟨r0, r1, r2, r3⟩ := NdCells.of n1
        obtain ⟨t0, t1, t2, t3⟩ := NdCells.of n2
        have HFR := Lib.hid fr
        have H6 := Lib.hid o6
        have H8 := Lib.hid o8
        clear fr o6 o8 y1 y2 z1 z2 n1 n2 hS
        go_wp2
        exact bodyPost_ret (v := .tuple #[.agg #[.bool true, .slice xa xm xc, .slice none 0 0, .slice none 0 0], .string key, .agg #[.bool true, .slice (some ⟨hg, 0, none⟩) ym yc, .slice none 0 0, .slice none 0 0], .int .i64 0]) (by simp [results, Try.results30, go_sem, r0, r1, r2, r3, t0, t1, t2, t3]) rfl ⟨i, HF.out, _, _, by rw [hkk]; rfl, ⟨_, _, _, rfl, H6.out.base (by omega), OwnR.nil _ _ _, OwnR.nil _ _ _⟩, ⟨_, _, _, rfl, H8.out.base (by omega), OwnR.nil _ _ _, OwnR.nil _ _ _⟩, HFR.out⟩
    · have hd : decide ((i : Int) < ((pm - 1 : Nat) : Int)) = false := by simp; omega
      have HF := Lib.hid (⟨hi1, hil, hf.out, fun q => by have := HPM.out; omega⟩ : HalfAt n.ps i)
      have hS := FB.out _ _ F ((Below.refl _ _).drew)
      clear hf
      go_wp2_with fail
      refine wp_region_held_drew (S := fun w' => RplW w true (.slice (some ⟨pb, poff, none⟩) pm pc) (.slice ka km kc) (.slice ia im ic) n w') mixed hS (fun _ => ?_)
      show wpAnyH _ _ _ _ _ 21 (Array.replicate 21 false) _ _
      refine wpAnyH_take_d 0 (some 80) (.int .i64 i) rfl (by kernel_rfl) (by kernel_rfl) (by kernel_rfl) (by kernel_rfl) rfl (fun _ _ _ h => h) (fun _ _ => by kernel_rfl) (by exact hS) ?_
      simp only [Act.put, List.setIfInBounds_toArray, List.set_cons_succ, List.set_cons_zero]
      refine wpAnyH_take_d 1 (some 81) (.pointer (some ⟨w.heap.size, 1, none⟩)) rfl (by kernel_rfl) (by kernel_rfl) (by kernel_rfl) (by kernel_rfl) rfl (fun _ _ _ h => h) (fun _ _ => by kernel_rfl) (by exact hS) ?_
      simp only [Act.put, List.setIfInBounds_toArray, List.set_cons_succ, List.set_cons_zero]
      refine wpAnyH_take_d 2 (some 82) (.slice (some ⟨pb, poff, none⟩) pm pc) rfl (by kernel_rfl) (by kernel_rfl) (by kernel_rfl) (by kernel_rfl) rfl (fun _ _ _ h => h) (fun w' h => exec_load_cell rfl rfl h.cs.c1 Try.underlying22 rfl) (by exact hS) ?_
      simp only [Act.put, List.setIfInBounds_toArray, List.set_cons_succ, List.set_cons_zero]
      refine wpAnyH_take_d 3 (some 83) (.int .i64 pm) rfl (by kernel_rfl) (by kernel_rfl) (by kernel_rfl) (by kernel_rfl) rfl (fun _ _ _ h => h) (fun _ _ => ex_len rfl rfl Try.underlying22) (by exact hS) ?_
      simp only [Act.put, List.setIfInBounds_toArray, List.set_cons_succ, List.set_cons_zero]
      refine wpAnyH_take_d 4 (some 84) (.int .i64 (pm - 1 : Nat)) rfl (by kernel_rfl) (by kernel_rfl) (by kernel_rfl) (by kernel_rfl) rfl (fun _ _ _ h => h) (fun _ _ => ex_sub rfl rfl rfl hwm) (by exact hS) ?_
      simp only [Act.put, List.setIfInBounds_toArray, List.set_cons_succ, List.set_cons_zero]
      refine wpAnyH_take_d 5 (some 85) (.bool false) rfl (by kernel_rfl) (by kernel_rfl) (by kernel_rfl) (by kernel_rfl) rfl (fun _ _ _ h => h) (fun _ _ => ex_lt rfl rfl rfl hd) (by exact hS) ?_
      simp only [Act.put, List.setIfInBounds_toArray, List.set_cons_succ, List.set_cons_zero]
      refine wpAnyH_take_d 6 (some 86) (.bool false) rfl (by kernel_rfl) (by kernel_rfl) (by kernel_rfl) (by kernel_rfl) rfl (fun _ _ _ h => h) (fun _ _ => by kernel_rfl) (by exact hS) ?_
      simp only [Act.put, List.setIfInBounds_toArray, List.set_cons_succ, List.set_cons_zero]
      refine wpAnyH_skip_d 7 (some 87) rfl (by kernel_rfl) (by kernel_rfl) (by kernel_rfl) (by kernel_rfl) rfl (fun _ _ _ h => h) (by exact hS) ?_
      simp only [Act.put, List.setIfInBounds_toArray, List.set_cons_succ, List.set_cons_zero]
      refine wpAnyH_skip_d 8 (some 88) rfl (by kernel_rfl) (by kernel_rfl) (by kernel_rfl) (by kernel_rfl) rfl (fun _ _ _ h => h) (by exact hS) ?_
      simp only [Act.put, List.setIfInBounds_toArray, List.set_cons_succ, List.set_cons_zero]
      refine wpAnyH_skip_d 9 (some 89) rfl (by kernel_rfl) (by kernel_rfl) (by kernel_rfl) (by kernel_rfl) rfl (fun _ _ _ h => h) (by exact hS) ?_
      simp only [Act.put, List.setIfInBounds_toArray, List.set_cons_succ, List.set_cons_zero]
      refine wpAnyH_skip_d 10 (some 90) rfl (by kernel_rfl) (by kernel_rfl) (by kernel_rfl) (by kernel_rfl) rfl (fun _ _ _ h => h) (by exact hS) ?_
      simp only [Act.put, List.setIfInBounds_toArray, List.set_cons_succ, List.set_cons_zero]
      refine wpAnyH_skip_d 11 (some 91) rfl (by kernel_rfl) (by kernel_rfl) (by kernel_rfl) (by kernel_rfl) rfl (fun _ _ _ h => h) (by exact hS) ?_
      simp only [Act.put, List.setIfInBounds_toArray, List.set_cons_succ, List.set_cons_zero]
      refine wpAnyH_skip_d 12 (some 92) rfl (by kernel_rfl) (by kernel_rfl) (by kernel_rfl) (by kernel_rfl) rfl (fun _ _ _ h => h) (by exact hS) ?_
      simp only [Act.put, List.setIfInBounds_toArray, List.set_cons_succ, List.set_cons_zero]
      refine wpAnyH_skip_d 13 (some 93) rfl (by kernel_rfl) (by kernel_rfl) (by kernel_rfl) (by kernel_rfl) rfl (fun _ _ _ h => h) (by exact hS) ?_
      simp only [Act.put, List.setIfInBounds_toArray, List.set_cons_succ, List.set_cons_zero]
      refine wpAnyH_skip_d 14 (some 94) rfl (by kernel_rfl) (by kernel_rfl) (by kernel_rfl) (by kernel_rfl) rfl (fun _ _ _ h => h) (by exact hS) ?_
      simp only [Act.put, List.setIfInBounds_toArray, List.set_cons_succ, List.set_cons_zero]
      refine wpAnyH_skip_d 15 (some 95) rfl (by kernel_rfl) (by kernel_rfl) (by kernel_rfl) (by kernel_rfl) rfl (fun _ _ _ h => h) (by exact hS) ?_
      simp only [Act.put, List.setIfInBounds_toArray, List.set_cons_succ, List.set_cons_zero]
      refine wpAnyH_skip_d 16 (some 96) rfl (by kernel_rfl) (by kernel_rfl) (by kernel_rfl) (by kernel_rfl) rfl (fun _ _ _ h => h) (by exact hS) ?_
      simp only [Act.put, List.setIfInBounds_toArray, List.set_cons_succ, List.set_cons_zero]
      refine wpAnyH_skip_d 17 (some 97) rfl (by kernel_rfl) (by kernel_rfl) (by kernel_rfl) (by kernel_rfl) rfl (fun _ _ _ h => h) (by exact hS) ?_
      simp only [Act.put, List.setIfInBounds_toArray, List.set_cons_succ, List.set_cons_zero]
      refine wpAnyH_skip_d 18 (some 98) rfl (by kernel_rfl) (by kernel_rfl) (by kernel_rfl) (by kernel_rfl) rfl (fun _ _ _ h => h) (by exact hS) ?_
      simp only [Act.put, List.setIfInBounds_toArray, List.set_cons_succ, List.set_cons_zero]
      refine wpAnyH_skip_d 19 (some 99) rfl (by kernel_rfl) (by kernel_rfl) (by kernel_rfl) (by kernel_rfl) rfl (fun _ _ _ h => h) (by exact hS) ?_
      simp only [Act.put, List.setIfInBounds_toArray, List.set_cons_succ, List.set_cons_zero]
      refine wpAnyH_take_d 20 (some 100) (.bool false) rfl (by kernel_rfl) (by kernel_rfl) (by kernel_rfl) (by kernel_rfl) rfl (fun _ _ _ h => h) (fun _ _ => by kernel_rfl) (by exact hS) ?_
      simp only [Act.put, List.setIfInBounds_toArray, List.set_cons_succ, List.set_cons_zero]
      refine wpAnyH_done (by kernel_rfl) ?_ _
      obtain ⟨V, hV⟩ : ∃ V, wr.drew = V := ⟨_, rfl⟩
      rw [hV] at hS ⊢
      clear hV F hd hlt
      obtain ⟨q0, q1, q2, q3⟩ := hS.cs
      have hfr := hS.fr
      obtain ⟨bo, hr2, hbo⟩ := slP_from (some ⟨pb, poff, none⟩) (n := pm) (c := pc) (k := i) (by omega)
      have hr1 := fun w' => slP_to (some ⟨pb, poff, none⟩) (n := pm) (c := pc) (k := i) (by omega) w'
      have hlA : (([] : List Pr).length + (n.ps.take i).length) * elP.bytes ≤ 140737488355328 := by
        have : (n.ps.take i).length ≤ 255 := by rw [List.length_take]; omega
        show (0 + _) * 32 ≤ _; omega
      have hlB : (([] : List Pr).length + (n.ps.drop i).length) * elP.bytes ≤ 140737488355328 := by
        have : (n.ps.drop i).length ≤ 255 := by rw [List.length_drop, ← HPM.out]; omega
        show (0 + _) * 32 ≤ _; omega
      have bV := below_new V (.cells #[] 50)
      obtain ⟨q4, q5, q6, q7⟩ := (FB.out _ _ hS (bV.mono hS.sz)).cs
      have sV : V.heap.size ≤ (V.alloc (.cells #[] 50)).heap.size := bV.size
      obtain ⟨xa, xm, xc, W1, hp1, o1, c1, s1, k1⟩ := app_step okP (OwnR.made elP V) (PA.out i (by omega) _ (hfr.trans (bV.mono hfr.size))) hlA sV 22
      rw [List.nil_append] at o1
      have HP1 := Lib.hid hp1
      have HR1 := hr1 (V.alloc (.cells #[] 50))
      have bl1 := BL.out (.slice xa xm xc) (.mk _ _ _) W1
      have e1 : Below V.heap.size V W1 := bV.trans c1
      have hS1 := FB.out _ _ hS (e1.mono hS.sz)
      have hg1 := heap_alloc_new W1 zrbO
      have n1 := below_new W1 zrbO
      have HLB := Lib.hid hlB
      have HR2 := Lib.hid hr2
      have HBO := Lib.hid hbo
      have HHr1 := Lib.hid HR1
      have O1 := Lib.hid (o1.base hS.sz)
      have HV := Lib.hid hS.sz
      clear hr1 hr2 hbo hlA hlB hp1 c1 s1 k1 sV bV o1 hfr e1 HR1
      have hr1 := HHr1.out
      go_wp2_with (first | (with_reducible refine wpList_append_own rfl (.tmp 103) (.tmp 107) 22 22 rfl (.slice (some ⟨V.heap.size, 0, none⟩) 0 0) (.slice (some ⟨pb, poff, none⟩) i pc) (.slice xa xm xc) rfl rfl HP1.out ?_) | (with_reducible refine wpList_store_rn (a0 := W1) (B := W1.heap.size) rfl (.tmp 10) (.tmp 109) rfl W1.heap.size true (.slice xa xm xc) (.slice none 0 0) (.slice none 0 0) rfl rfl #[.bool false, .slice none 0 0, .slice none 0 0, .slice none 0 0] hg1 rfl (.mk _ _ _) (.mk _ _ _) (.mk _ _ _) n1 (Nat.le_refl _) ?_))
      rintro W2 - gA m1 -
      have hS := FB.out _ _ hS1 (m1.mono hS1.sz)
      have O1 := Lib.hid (O1.out.below m1)
      have hAlo := hS1.sz
      obtain ⟨A, hAe⟩ : ∃ A, W1.heap.size = A := ⟨_, rfl⟩
      rw [hAe] at gA hAlo ⊢
      clear hr1 hg1 n1 m1 hS1 bl1 HP1 HHr1 hAe q0 q1 q2 q3 HV q4 q5 q6 q7
      obtain ⟨q0, q1, q2, q3⟩ := hS.cs
      have hfr := hS.fr
      have bV := below_new W2 (.cells #[] 50)
      obtain ⟨q4, q5, q6, q7⟩ := (FB.out _ _ hS (bV.mono hS.sz)).cs
      obtain ⟨ya, ym, yc, W3, hp2, o2, c2, s2, k2⟩ := app_step okP (OwnR.made elP W2) (PB.out i (by omega) _ (hfr.trans (bV.mono hfr.size)) bo (fun b off e hlt => HBO.out b off e (by omega))) HLB.out bV.size 22
      rw [List.nil_append] at o2
      have HP2 := Lib.hid hp2
      have hr2 := HR2.out (W2.alloc (.cells #[] 50))
      have bl2 := BL.out (.slice ya ym yc) (.mk _ _ _) W3
      have e2 : Below W2.heap.size W2 W3 := bV.trans c2
      have hS2 := FB.out _ _ hS (e2.mono hS.sz)
      have O1 := Lib.hid (O1.out.below e2)
      have gA := (e2.block A (lt_of_heap gA)).trans gA
      have hg2 := heap_alloc_new W3 zrbO
      have n2 := below_new W3 zrbO
      have O2 := Lib.hid (o2.base hS.sz)
      clear hp2 c2 s2 k2 bV o2 hfr e2 HLB HBO
      go_wp2_with (first | (with_reducible refine wpList_append_own rfl (.tmp 110) (.tmp 114) 22 22 rfl (.slice (some ⟨W2.heap.size, 0, none⟩) 0 0) (.slice bo (pm - i) (pc - i)) (.slice ya ym yc) rfl rfl HP2.out ?_) | (with_reducible refine wpList_store_rn (a0 := W3) (B := W3.heap.size) rfl (.tmp 11) (.tmp 116) rfl W3.heap.size true (.slice ya ym yc) (.slice none 0 0) (.slice none 0 0) rfl rfl #[.bool false, .slice none 0 0, .slice none 0 0, .slice none 0 0] hg2 rfl (.mk _ _ _) (.mk _ _ _) (.mk _ _ _) n2 (Nat.le_refl _) ?_))
      rintro W4 - gC m2 -
      have hS := FB.out _ _ hS2 (m2.mono hS2.sz)
      have o1 := O1.out.below m2
      have o2 := O2.out.below m2
      have gA := (m2.block A (lt_of_heap gA)).trans gA
      have hClo := hS2.sz
      obtain ⟨C, hCe⟩ : ∃ C, W3.heap.size = C := ⟨_, rfl⟩
      rw [hCe] at gC hClo ⊢
      obtain ⟨hg, rfl, hhg, hkc⟩ := o2.head (by rw [List.length_drop]; omega)
      have hke : (prAt (n.ps.drop i) 0).k = (prAt n.ps i).k := by
        unfold prAt
        rw [List.getD_eq_getElem?_getD, List.getD_eq_getElem?_getD, List.getElem?_drop, Nat.add_zero]
      rw [hke] at hkc
      have hym : ym = n.ps.length - i := by
        obtain ⟨_, _, e, _⟩ := o2.form
        injection e with _ e _
        rw [e, List.length_drop]
      have hy0 : 0 < ym := by omega
      generalize hkk : (prAt n.ps i).k = key at *
      have fr := hS.fr
      have z1 := hS.z1
      have z2 := hS.z2
      have RGA := Lib.hid (fun (w' : World) (h : ∀ k, k ≠ w.heap.size + 1 → k ≠ w.heap.size + 2 → w'.heap[k]? = W4.heap[k]?) => range4s (NdCells.of ((h A (by omega) (by omega)).trans gA)))
      have RGC := Lib.hid (fun (w' : World) (h : ∀ k, k ≠ w.heap.size + 1 → k ≠ w.heap.size + 2 → w'.heap[k]? = W4.heap[k]?) => range4s (NdCells.of ((h C (by omega) (by omega)).trans gC)))
      have CX := Lib.hid (fun (w' : World) (h : ∀ k, k ≠ w.heap.size + 1 → k ≠ w.heap.size + 2 → w'.heap[k]? = W4.heap[k]?) => (NdCells.of ((h C (by omega) (by omega)).trans gC)).c1)
      have DK := Lib.hid (fun (w' : World) (h : ∀ k, k ≠ w.heap.size + 1 → k ≠ w.heap.size + 2 → w'.heap[k]? = W4.heap[k]?) => (World.cell?_of_block (w := W4) (w' := w') (a := ⟨hg, 0, none⟩) (h hg (by omega) (by omega))).trans hkc)
      have O1 := Lib.hid o1
      have O2 := Lib.hid o2
      have HS4 := Lib.hid hS
      clear hr2 hg2 n2 m2 hS2 bl2 HP2 HR2 hCe q0 q1 q2 q3 q4 q5 q6 q7 gA gC hkc hke hym o1 o2 hS PA PB SA SB H1 LF
      go_wp2_with fail
      have hS : ∀ k, k ≠ w.heap.size + 1 → k ≠ w.heap.size + 2 → W4.drew.heap[k]? = W4.heap[k]? := fun _ _ _ => rfl
      refine wp_region_held_drew (S := fun w' => ∀ k, k ≠ w.heap.size + 1 → k ≠ w.heap.size + 2 → w'.heap[k]? = W4.heap[k]?) mixed hS (fun _ => ?_)
      show wpAnyH _ _ _ _ _ 11 (Array.replicate 11 false) _ _
      refine wpAnyH_take_d 0 (some 117) (.agg #[.bool true, .slice xa xm xc, .slice none 0 0, .slice none 0 0]) rfl (by kernel_rfl) (by kernel_rfl) (by kernel_rfl) (by kernel_rfl) rfl (fun _ _ _ h => h) (fun w' h => ex_row rfl rfl (RGA.out _ h) Try.underlying26 rfl (by kernel_rfl)) (by exact hS) ?_
      simp only [Act.put, List.setIfInBounds_toArray, List.set_cons_succ, List.set_cons_zero]
      refine wpAnyH_take_d 1 (some 118) (.pointer (some ⟨C, 1, none⟩)) rfl (by kernel_rfl) (by kernel_rfl) (by kernel_rfl) (by kernel_rfl) rfl (fun _ _ _ h => h) (fun _ _ => by kernel_rfl) (by exact hS) ?_
      simp only [Act.put, List.setIfInBounds_toArray, List.set_cons_succ, List.set_cons_zero]
      refine wpAnyH_take_d 2 (some 119) (.slice (some ⟨hg, 0, none⟩) ym yc) rfl (by kernel_rfl) (by kernel_rfl) (by kernel_rfl) (by kernel_rfl) rfl (fun _ _ _ h => h) (fun w' h => exec_load_cell rfl rfl (CX.out _ h) Try.underlying22 rfl) (by exact hS) ?_
      simp only [Act.put, List.setIfInBounds_toArray, List.set_cons_succ, List.set_cons_zero]
      refine wpAnyH_take_d 3 (some 120) (.pointer (some ⟨hg, 0, none⟩)) rfl (by kernel_rfl) (by kernel_rfl) (by kernel_rfl) (by kernel_rfl) rfl (fun _ _ _ h => h) (fun _ _ => ex_index0 2 rfl rfl rfl hy0 Try.underlying22 szPr) (by exact hS) ?_
      simp only [Act.put, List.setIfInBounds_toArray, List.set_cons_succ, List.set_cons_zero]
      refine wpAnyH_take_d 4 (some 121) (.pointer (some ⟨hg, 0, none⟩)) rfl (by kernel_rfl) (by kernel_rfl) (by kernel_rfl) (by kernel_rfl) rfl (fun _ _ _ h => h) (fun _ _ => by kernel_rfl) (by exact hS) ?_
      simp only [Act.put, List.setIfInBounds_toArray, List.set_cons_succ, List.set_cons_zero]
      refine wpAnyH_take_d 5 (some 122) (.string key) rfl (by kernel_rfl) (by kernel_rfl) (by kernel_rfl) (by kernel_rfl) rfl (fun _ _ _ h => h) (fun w' h => exec_load_cell rfl rfl (DK.out _ h) Try.underlying9 rfl) (by exact hS) ?_
      simp only [Act.put, List.setIfInBounds_toArray, List.set_cons_succ, List.set_cons_zero]
      refine wpAnyH_take_d 6 (some 123) (.agg #[.bool true, .slice (some ⟨hg, 0, none⟩) ym yc, .slice none 0 0, .slice none 0 0]) rfl (by kernel_rfl) (by kernel_rfl) (by kernel_rfl) (by kernel_rfl) rfl (fun _ _ _ h => h) (fun w' h => ex_row rfl rfl (RGC.out _ h) Try.underlying26 rfl (by kernel_rfl)) (by exact hS) ?_
      simp only [Act.put, List.setIfInBounds_toArray, List.set_cons_succ, List.set_cons_zero]
      -- left: [(7, ('none', 'Op.store 26 t2 t117', None)), (8, ('3', 'Op.assign t122', None)), (9, ('none', 'Op.store 26 t4 t123', None)), (10, ('5', 'Op.assign (const (0:i64))', None))]
      have z1 : W4.drew.heap[w.heap.size + 1]? = some zrbO := z1
      have z2 : W4.drew.heap[w.heap.size + 2]? = some zrbO := z2
      have o6 : OwnR elP (w.heap.size + 3) W4.drew (.slice xa xm xc) (n.ps.take i) := O1.out
      have o8 : OwnR elP (w.heap.size + 3) W4.drew (.slice (some ⟨hg, 0, none⟩) ym yc) (n.ps.drop i) := O2.out
      have fr := fr.drew
      clear RGA RGC CX DK
      generalize W4.drew = V5 at *
      have y1 : ∀ k, k ≠ w.heap.size + 1 → (V5.setRow (w.heap.size + 1) #[.bool true, .slice xa xm xc, .slice none 0 0, .slice none 0 0]).heap[k]? = V5.heap[k]? := fun k h => setRow_other V5 (w.heap.size + 1) k _ h
      have n1 := setRow_heap V5 (w.heap.size + 1) _ #[.bool true, .slice xa xm xc, .slice none 0 0, .slice none 0 0] _ _ z1
      refine wpAnyH_one_skip 7 rfl (by kernel_rfl) (by kernel_rfl) (ex_store_row rfl rfl rfl z1 (by kernel_rfl) rfl (by simp [Value.oneCell'])) (fun k h1 h2 => (y1 k h1).trans (hS k h1 h2)) ?_
      simp only [Act.put, List.setIfInBounds_toArray]
      have hS : ∀ k, k ≠ w.heap.size + 1 → k ≠ w.heap.size + 2 → (V5.setRow (w.heap.size + 1) #[.bool true, .slice xa xm xc, .slice none 0 0, .slice none 0 0]).heap[k]? = W4.heap[k]? := fun k h1 h2 => (y1 k h1).trans (hS k h1 h2)
      have z2 := (y1 (w.heap.size + 2) (by omega)).trans z2
      have fr := below_setRow' fr (Nat.le_succ _) #[.bool true, .slice xa xm xc, .slice none 0 0, .slice none 0 0]
      have o6 := o6.keepg (by omega) y1
      have o8 := o8.keepg (by omega) y1
      generalize V5.setRow (w.heap.size + 1) #[.bool true, .slice xa xm xc, .slice none 0 0, .slice none 0 0] = V6 at *
      refine wpAnyH_take_d 8 (some 3) (.string key) rfl (by kernel_rfl) (by kernel_rfl) (by kernel_rfl) (by kernel_rfl) rfl (fun _ _ _ h => h) (fun _ _ => by kernel_rfl) (by exact hS) ?_
      simp only [Act.put]
      have y2 : ∀ k, k ≠ w.heap.size + 2 → (V6.setRow (w.heap.size + 2) #[.bool true, .slice (some ⟨hg, 0, none⟩) ym yc, .slice none 0 0, .slice none 0 0]).heap[k]? = V6.heap[k]? := fun k h => setRow_other V6 (w.heap.size + 2) k _ h
      have n2 := setRow_heap V6 (w.heap.size + 2) _ #[.bool true, .slice (some ⟨hg, 0, none⟩) ym yc, .slice none 0 0, .slice none 0 0] _ _ z2
      refine wpAnyH_one_skip 9 rfl (by kernel_rfl) (by kernel_rfl) (ex_store_row rfl rfl rfl z2 (by kernel_rfl) rfl (by simp [Value.oneCell'])) (fun k h1 h2 => (y2 k h2).trans (hS k h1 h2)) ?_
      simp only [Act.put]
      have hS : ∀ k, k ≠ w.heap.size + 1 → k ≠ w.heap.size + 2 → (V6.setRow (w.heap.size + 2) #[.bool true, .slice (some ⟨hg, 0, none⟩) ym yc, .slice none 0 0, .slice none 0 0]).heap[k]? = W4.heap[k]? := fun k h1 h2 => (y2 k h2).trans (hS k h1 h2)
      have n1 := (y2 (w.heap.size + 1) (by omega)).trans n1
      have fr := below_setRow' fr (Nat.le_add_right _ 2) #[.bool true, .slice (some ⟨hg, 0, none⟩) ym yc, .slice none 0 0, .slice none 0 0]
      have o6 := o6.keepg (by omega) y2
      have o8 := o8.keepg (by omega) y2
      generalize V6.setRow (w.heap.size + 2) #[.bool true, .slice (some ⟨hg, 0, none⟩) ym yc, .slice none 0 0, .slice none 0 0] = V7 at *
      refine wpAnyH_take_d 10 (some 5) (.int .i64 0) rfl (by kernel_rfl) (by kernel_rfl) (by kernel_rfl) (by kernel_rfl) rfl (fun _ _ _ h => h) (fun _ _ => by kernel_rfl) (by exact hS) ?_
      refine wpAnyH_done (by kernel_rfl) ?_ _
      obtain ⟨r0, r1, r2, r3⟩ := NdCells.of n1
      obtain ⟨t0, t1, t2, t3⟩ := NdCells.of n2
      have HFR := Lib.hid fr
      have H6 := Lib.hid o6
      have H8 := Lib.hid o8
      clear fr o6 o8 y1 y2 z1 z2 n1 n2 hS
      go_wp2
      exact bodyPost_ret (v := .tuple #[.agg #[.bool true, .slice xa xm xc, .slice none 0 0, .slice none 0 0], .string key, .agg #[.bool true, .slice (some ⟨hg, 0, none⟩) ym yc, .slice none 0 0, .slice none 0 0], .int .i64 0]) (by simp [results, Try.results30, go_sem, r0, r1, r2, r3, t0, t1, t2, t3]) rfl ⟨i, HF.out, _, _, by rw [hkk]; rfl, ⟨_, _, _, rfl, H6.out.base (by omega), OwnR.nil _ _ _, OwnR.nil _ _ _⟩, ⟨_, _, _, rfl, H8.out.base (by omega), OwnR.nil _ _ _, OwnR.nil _ _ _⟩, HFR.out⟩
end Go.Proofs.Ytdkmfcmndncmcaa
