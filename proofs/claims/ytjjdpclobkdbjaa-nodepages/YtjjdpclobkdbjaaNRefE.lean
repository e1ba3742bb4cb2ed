/- The contracts of the document's text, Encode and DocEncode. No statement of the seat is proved here. -/
import Derived.Test.YtjjdpclobkdbjaaNRefS
import Derived.Test.YtjjdpclobkdbjaaNEncode
namespace Go.Proofs.Ytjjdpclobkdbjaa
set_option maxRecDepth 20000
open Go.RowKit

theorem ex_sadd {P : Program} {w : World} {ρ : Operand → Value} {o : Oper} {t t' : TypeId} {x y : Operand} {a b : ByteArray} (ho : o.op = .binOp .add t x y t') (hx : ρ x = .string a) (hy : ρ y = .string b) (hz : a.size + b.size ≤ 9223372036854775807) : (execOp ρ o).run P w = .ok (.value (.string (a ++ b))) w := by
  unfold execOp
  simp [ho, hx, hy, go_sem, eqGuard, hz]
theorem ex_conv {P : Program} {w w1 : World} {ρ : Operand → Value} {o : Oper} {t t' : TypeId} {x : Operand} {u v : Value} (ho : o.op = .convert t t' x) (hx : ρ x = u) (hrun : (convert t t' u).run P w = .ok v w1) : (execOp ρ o).run P w = .ok (.value v) w1 := by
  unfold execOp
  simp [ho, hx, hrun]
theorem own_one (w : World) {base : Nat} (hb : base ≤ w.heap.size) (x : UInt8) {a : Int} (ha : a = x.toNat) : OwnB base (w.alloc (.cells #[.int .u8 a] 5)) (.slice (some ⟨w.heap.size, 0, none⟩) 1 1) [x] := by
  subst ha
  exact ⟨rfl, .inr ⟨w.heap.size, 1, _, rfl, hb, heap_alloc_new w _, Nat.le_refl _, by simp [maxLen], rfl, rfl⟩⟩
theorem strOf_add (a b : List UInt8) : strOf a ++ strOf b = strOf (a ++ b) := by
  have : (strOf a ++ strOf b).data = (strOf (a ++ b)).data := by simp [strOf, ByteArray.data_append]
  exact ByteArray.ext this
theorem strOf_data (s : ByteArray) : strOf s.data.toList = s := by cases s; simp [strOf]
theorem build1b (a : Int) (w : World) : (Instr.buildSlice 67 1 #[(0, .int .u8 a)]).run Try.prog w = .ok (.slice (some ⟨w.heap.size, 0, none⟩) 1 1) (w.alloc (.cells #[.int .u8 a] 5)) := by kernel_rfl
set_option maxHeartbeats 800000 in
theorem text_ref (w : World) (s : ByteArray) (hs : s.size ≤ 255) : Calls Try.prog 56 #[.string s] w fun e w' => e = .returned (.string (strOf (txtB s))) ∧ Below w.heap.size w w' := by
  have u := u8_nat s.size hs
  have hu := u.1
  have hb := build1b (s.size : Nat) w
  have hr := run_string (own_one w (Nat.le_refl _) (UInt8.ofNat s.size) u.2)
  have e : strOf (txtB s) = strOf [UInt8.ofNat s.size] ++ s := by
    have : strOf (txtB s) = strOf [UInt8.ofNat s.size] ++ strOf s.data.toList := by rw [strOf_add]; rfl
    rw [this, strOf_data]
  have hbn := below_new w (.cells #[.int .u8 (s.size : Nat)] 5)
  rw [e]
  have hT : (strOf [UInt8.ofNat s.size]).size + s.size ≤ 9223372036854775807 := by rw [strOf_size]; simp; omega
  clear e u
  generalize strOf [UInt8.ofNat s.size] = T at *
  go_enter Try.func56, Try.ntmps56
  go_wp2
  go_ret
  exact ⟨rfl, hbn⟩
theorem ex_b2s {P : Program} {w w1 : World} {ρ : Operand → Value} {o : Oper} {t : TypeId} {x y : Operand} {u v r : Value} (ho : o.op = .buildSlice t 2 #[(0, x), (1, y)]) (hx : ρ x = u) (hy : ρ y = v) (hrun : (Instr.buildSlice t 2 #[(0, u), (1, v)]).run P w = .ok r w1) : (execOp ρ o).run P w = .ok (.value r) w1 := by
  unfold execOp
  simp [ho, hx, hy, hrun]
theorem run_c35 {z c : Int} (h : IntKind.u8.wrap z = c) (w : World) : (convert 3 5 (.int .i64 z)).run Try.prog w = .ok (.int .u8 c) w := by
  subst h; kernel_rfl
theorem run_rem {z : Int} (h : 0 ≤ z ∧ z ≤ 65535) (w : World) : (binOp .rem 3 (.int .i64 z) (.int .i64 256)).run Try.prog w = .ok (.int .i64 (z % 256)) w := by
  have e : z.tmod 256 = z % 256 := Int.tmod_eq_emod_of_nonneg h.1
  have : (binOp .rem 3 (.int .i64 z) (.int .i64 256)).run Try.prog w = .ok (.int .i64 (z.tmod 256)) w := by simp [go_sem]
  rw [this, e]
theorem run_quo {z : Int} (h : 0 ≤ z ∧ z ≤ 65535) (w : World) : (binOp .quo 3 (.int .i64 z) (.int .i64 256)).run Try.prog w = .ok (.int .i64 (z / 256)) w := by
  have e : IntKind.i64.wrap (z.tdiv 256) = z / 256 := by rw [Int.tdiv_eq_ediv_of_nonneg h.1, IntKind.wrap_i64]; omega
  have : (binOp .quo 3 (.int .i64 z) (.int .i64 256)).run Try.prog w = .ok (.int .i64 (IntKind.i64.wrap (z.tdiv 256))) w := by simp [go_sem]
  rw [this, e]
set_option maxHeartbeats 6400000 in
theorem refEncode_any {w : World} {v : Value} {n : Nd} (h : NdAt w.heap.size w v n) (hok : okN n = true) : Calls Try.prog 35 #[v] w fun e w' => e = .returned (.string (strOf (encN n))) ∧ Below w.heap.size w w' := by
  obtain ⟨pv, kv, iv, rfl, h1, h2, h3⟩ := h
  obtain ⟨pa, pm, pc, rfl, hpm⟩ := h1.form
  obtain ⟨ka, km, kc, rfl, hkm⟩ := h2.form
  obtain ⟨ia, im, ic, rfl, him⟩ := h3.form
  have HP := Lib.hid h1
  have HK2 := Lib.hid h2
  have HI := Lib.hid h3
  have RB := Lib.hid (fun (w1 : World) b => rbox_facts (W := w) (lf := n.leaf) (pv := .slice pa pm pc) (kv := .slice ka km kc) (iv := .slice ia im ic) (w1 := w1) b)
  have heN : encN n = if n.leaf then 1 :: UInt8.ofNat n.ps.length :: psB n.ps else 2 :: UInt8.ofNat n.is.length :: (isB n.is ++ ksB n.ks) := rfl
  obtain ⟨lf, hlf⟩ : ∃ b, n.leaf = b := ⟨_, rfl⟩
  have HLF := Lib.hid hlf
  rw [hlf] at RB heN
  obtain ⟨SB, hb0, SBc, SBd, br, fin, sz⟩ : ∃ SB : World → Prop, SB (w.alloc (rbO lf (.slice pa pm pc) (.slice ka km kc) (.slice ia im ic))) ∧ (∀ w1 w2, SB w1 → Below w1.heap.size w1 w2 → SB w2) ∧ (∀ w', SB w' → SB w'.drew) ∧ (∀ w', SB w' → NdCells w' w.heap.size lf (.slice pa pm pc) (.slice ka km kc) (.slice ia im ic)) ∧ (∀ w', SB w' → Below w.heap.size w w') ∧ ∀ w', SB w' → w.heap.size ≤ w'.heap.size :=
    ⟨fun w' => Below (w.heap.size + 1) (w.alloc (rbO lf (.slice pa pm pc) (.slice ka km kc) (.slice ia im ic))) w', Below.refl _ _, fun _ _ h k => h.trans (k.mono (by have := h.size; simp at this; omega)), fun _ h => h.drew, fun _ h => (RB.out _ h).1, fun _ h => (RB.out _ h).2.1, fun _ h => (RB.out _ h).2.1.size⟩
  have BR := Lib.hid br
  have FIN := Lib.hid fin
  have SBC := Lib.hid SBc
  obtain ⟨q0, q1, q2, q3⟩ := br _ hb0
  rw [hlf]
  clear h1 h2 h3 RB br fin sz SBc
  have hz1 : (w.alloc (rbO lf (.slice pa pm pc) (.slice ka km kc) (.slice ia im ic))).heap.size = w.heap.size + 1 := by simp
  have hsz := sizN_le hok
  cases lf
  · simp only [Bool.false_eq_true, if_false] at heN
    obtain ⟨-, j2, j3, j4, j5, j6⟩ := okI_true ((okN_inner hlf).symm.trans hok)
    have KOK := Lib.hid (show ∀ x ∈ n.ks, x.size ≤ 255 from fun x hx => by have := okK_size ((risB_mem j5).1 x hx); omega)
    have IOK := Lib.hid j6
    have hl255 : im ≤ 255 := by rw [him.out]; exact j3
    have hk255 : km ≤ 255 := by rw [hkm.out]; omega
    have hIK : (isB n.is).length + (ksB n.ks).length ≤ 21000 := by
      unfold sizN at hsz; rw [hlf] at hsz; simp only [Bool.false_eq_true, if_false] at hsz
      rw [isB_length, ksB_length]; omega
    have KLE := Lib.hid (show ∀ k, (ksB (n.ks.take k)).length ≤ (ksB n.ks).length from fun k => by
      have e : ksB n.ks = ksB (n.ks.take k) ++ ksB (n.ks.drop k) := by unfold ksB; rw [← List.flatMap_append, List.take_append_drop]
      rw [e, List.length_append]; omega)
    rw [← him.out] at heN
    have HE := Lib.hid heN
    have HIM := Lib.hid him.out
    have HKM := Lib.hid hkm.out
    have u := u8_nat im hl255
    have hu := u.1
    have hb1 := build2 2 (im : Nat) (w.alloc (rbO false (.slice pa pm pc) (.slice ka km kc) (.slice ia im ic)))
    have o2 := own_two (w.alloc (rbO false (.slice pa pm pc) (.slice ka km kc) (.slice ia im ic))) (base := w.heap.size) (by simp) 2 (UInt8.ofNat im) (a := 2) (b := (im : Int)) rfl u.2
    have hr := run_string o2
    rw [hz1] at hr
    have hbs := SBC.out _ _ hb0 (below_new _ (.cells #[.int .u8 2, .int .u8 (im : Int)] 5))
    have HT0 := Lib.hid (show strOf [2, UInt8.ofNat im] = strOf (2 :: UInt8.ofNat im :: isB (n.is.take 0)) by rfl)
    obtain ⟨q0, q1, q2, q3⟩ := BR.out _ hb0
    generalize strOf [2, UInt8.ofNat im] = T0 at *
    have HIK := Lib.hid hIK
    clear heN hok hlf u o2 hpm him hkm j2 j3 j4 j5 j6 hz1 hsz hIK
    go_enter Try.func35, Try.ntmps35
    go_wp2
    clear q0 q1 q2 q3 hb1 hr hu
    go_loopw [5, 6] (fun sv iv wr => ∃ (k : Nat) (s : ByteArray), k ≤ im ∧ iv = .int .i64 k ∧ sv = .string s ∧ Hid (s = strOf (2 :: UInt8.ofNat im :: isB (n.is.take k))) ∧ SB wr) (fun _ iv _ => im - (intOf iv).toNat)
    case atStart => exact ⟨0, T0, Nat.zero_le _, rfl, rfl, HT0, hbs⟩
    case round =>
      clear hbs hb0
      obtain ⟨k, s, hk, rfl, rfl, hs, hb⟩ := hrel
      obtain ⟨q0, q1, q2, q3⟩ := BR.out _ hb
      by_cases hlt : k < im
      · have hlt' : k < n.is.length := by rw [← HIM.out]; exact hlt
        obtain ⟨ib, ioff, cap', hv, hB, hc1⟩ := HI.out.getI hlt'
        obtain ⟨rfl, rfl⟩ : ia = some ⟨ib, ioff, none⟩ ∧ ic = cap' := by injection hv with h1 _ h3; exact ⟨h1, h3⟩
        have D1 := Lib.hid (fun w' (h : SB w') => ((FIN.out _ h).cell (p := ⟨ib, ioff + k, none⟩) hB).trans hc1)
        have hst := isB_take n.is hlt'
        have hz := IOK.out _ (getD_mem hlt')
        clear hv hc1
        generalize n.is.getD k 0 = z at *
        have z1 : z % 256 = ((UInt8.ofNat (z % 256).toNat).toNat : Int) := by rw [UInt8.toNat_ofNat']; omega
        have z2 : z / 256 = ((UInt8.ofNat (z / 256).toNat).toNat : Int) := by rw [UInt8.toNat_ofNat']; omega
        have z4 : IntKind.u8.wrap (z % 256) = z % 256 := by rw [IntKind.wrap_u8]; omega
        have z5 : IntKind.u8.wrap (z / 256) = z / 256 := by rw [IntKind.wrap_u8]; omega
        have r1 := Lib.hid (fun (w' : World) => run_rem (z := z) (by omega) w')
        have r2 := Lib.hid (fun (w' : World) => run_quo (z := z) (by omega) w')
        have c1 := Lib.hid (fun (w' : World) => run_c35 z4 w')
        have c2 := Lib.hid (fun (w' : World) => run_c35 z5 w')
        have hb2 := SBd _ hb
        have oy := own_two wr.drew (base := w.heap.size) (FIN.out _ hb2).size (UInt8.ofNat (z % 256).toNat) (UInt8.ofNat (z / 256).toNat) z1 z2
        have hr := Lib.hid (run_string oy)
        have hbt := Lib.hid (build2 (z % 256) (z / 256) wr.drew)
        have hbn := SBC.out _ _ hb2 (below_new wr.drew (.cells #[.int .u8 (z % 256), .int .u8 (z / 256)] 5))
        have hsS : s.size = 2 + 2 * k := by rw [hs.out, strOf_size, List.length_cons, List.length_cons, isB_length, List.length_take]; omega
        have HS : Hid (s ++ strOf [UInt8.ofNat (z % 256).toNat, UInt8.ofNat (z / 256).toNat] = strOf (2 :: UInt8.ofNat im :: isB (n.is.take (k + 1)))) := Lib.hid (by
          rw [hs.out, strOf_add, hst]; rfl)
        have zz : s.size + (strOf [UInt8.ofNat (z % 256).toNat, UInt8.ofNat (z / 256).toNat]).size ≤ 9223372036854775807 := by rw [strOf_size]; simp; omega
        generalize strOf [UInt8.ofNat (z % 256).toNat, UInt8.ofNat (z / 256).toNat] = A at *
        clear hs hst hsS z1 z2 oy z4 z5
        go_wp2_with fail
        clear q0 q1 q2 q3
        have hS := hb2
        refine wp_region_held_drew (S := SB) mixed hS (fun _ => ?_)
        show wpAnyH _ _ _ _ _ 19 (Array.replicate 19 false) _ _
        refine wpAnyH_take_d 0 (some 54) (.string s) rfl (by kernel_rfl) (by kernel_rfl) (by kernel_rfl) (by kernel_rfl) rfl (fun _ _ _ h => h) (fun _ _ => by kernel_rfl) (by exact hS) ?_
        simp only [Act.put, List.setIfInBounds_toArray, List.set_cons_succ, List.set_cons_zero]
        refine wpAnyH_take_d 1 (some 55) (.pointer (some ⟨w.heap.size, 3, none⟩)) rfl (by kernel_rfl) (by kernel_rfl) (by kernel_rfl) (by kernel_rfl) rfl (fun _ _ _ h => h) (fun _ _ => by kernel_rfl) (by exact hS) ?_
        simp only [Act.put, List.setIfInBounds_toArray, List.set_cons_succ, List.set_cons_zero]
        refine wpAnyH_take_d 2 (some 56) (.slice (some ⟨ib, ioff, none⟩) im ic) rfl (by kernel_rfl) (by kernel_rfl) (by kernel_rfl) (by kernel_rfl) rfl (fun _ _ _ h => h) (fun w' h => exec_load_cell rfl rfl (BR.out _ h).c3 Try.underlying24 rfl) (by exact hS) ?_
        simp only [Act.put, List.setIfInBounds_toArray, List.set_cons_succ, List.set_cons_zero]
        refine wpAnyH_take_d 3 (some 57) (.int .i64 k) rfl (by kernel_rfl) (by kernel_rfl) (by kernel_rfl) (by kernel_rfl) rfl (fun _ _ _ h => h) (fun _ _ => by kernel_rfl) (by exact hS) ?_
        simp only [Act.put, List.setIfInBounds_toArray, List.set_cons_succ, List.set_cons_zero]
        refine wpAnyH_take_d 4 (some 58) (.pointer (some ⟨ib, ioff + k, none⟩)) rfl (by kernel_rfl) (by kernel_rfl) (by kernel_rfl) (by kernel_rfl) rfl (fun _ _ _ h => h) (fun _ _ => ex_index1 rfl rfl rfl hlt Try.underlying24 (by kernel_rfl)) (by exact hS) ?_
        simp only [Act.put, List.setIfInBounds_toArray, List.set_cons_succ, List.set_cons_zero]
        refine wpAnyH_take_d 5 (some 59) (.int .i64 z) rfl (by kernel_rfl) (by kernel_rfl) (by kernel_rfl) (by kernel_rfl) rfl (fun _ _ _ h => h) (fun w' h => exec_load_cell rfl rfl (D1.out _ h) Try.underlying3 rfl) (by exact hS) ?_
        simp only [Act.put, List.setIfInBounds_toArray, List.set_cons_succ, List.set_cons_zero]
        refine wpAnyH_take_d 6 (some 60) (.int .i64 (z % 256)) rfl (by kernel_rfl) (by kernel_rfl) (by kernel_rfl) (by kernel_rfl) rfl (fun _ _ _ h => h) (fun w' _ => ex_bin rfl rfl rfl (by kernel_rfl) (r1.out w')) (by exact hS) ?_
        simp only [Act.put, List.setIfInBounds_toArray, List.set_cons_succ, List.set_cons_zero]
        refine wpAnyH_take_d 7 (some 61) (.int .u8 (z % 256)) rfl (by kernel_rfl) (by kernel_rfl) (by kernel_rfl) (by kernel_rfl) rfl (fun _ _ _ h => h) (fun w' _ => ex_conv rfl rfl (c1.out w')) (by exact hS) ?_
        simp only [Act.put, List.setIfInBounds_toArray, List.set_cons_succ, List.set_cons_zero]
        refine wpAnyH_take_d 8 (some 62) (.pointer (some ⟨w.heap.size, 3, none⟩)) rfl (by kernel_rfl) (by kernel_rfl) (by kernel_rfl) (by kernel_rfl) rfl (fun _ _ _ h => h) (fun _ _ => by kernel_rfl) (by exact hS) ?_
        simp only [Act.put, List.setIfInBounds_toArray, List.set_cons_succ, List.set_cons_zero]
        refine wpAnyH_take_d 9 (some 63) (.slice (some ⟨ib, ioff, none⟩) im ic) rfl (by kernel_rfl) (by kernel_rfl) (by kernel_rfl) (by kernel_rfl) rfl (fun _ _ _ h => h) (fun w' h => exec_load_cell rfl rfl (BR.out _ h).c3 Try.underlying24 rfl) (by exact hS) ?_
        simp only [Act.put, List.setIfInBounds_toArray, List.set_cons_succ, List.set_cons_zero]
        refine wpAnyH_take_d 10 (some 64) (.int .i64 k) rfl (by kernel_rfl) (by kernel_rfl) (by kernel_rfl) (by kernel_rfl) rfl (fun _ _ _ h => h) (fun _ _ => by kernel_rfl) (by exact hS) ?_
        simp only [Act.put, List.setIfInBounds_toArray, List.set_cons_succ, List.set_cons_zero]
        refine wpAnyH_take_d 11 (some 65) (.pointer (some ⟨ib, ioff + k, none⟩)) rfl (by kernel_rfl) (by kernel_rfl) (by kernel_rfl) (by kernel_rfl) rfl (fun _ _ _ h => h) (fun _ _ => ex_index1 rfl rfl rfl hlt Try.underlying24 (by kernel_rfl)) (by exact hS) ?_
        simp only [Act.put, List.setIfInBounds_toArray, List.set_cons_succ, List.set_cons_zero]
        refine wpAnyH_take_d 12 (some 66) (.int .i64 z) rfl (by kernel_rfl) (by kernel_rfl) (by kernel_rfl) (by kernel_rfl) rfl (fun _ _ _ h => h) (fun w' h => exec_load_cell rfl rfl (D1.out _ h) Try.underlying3 rfl) (by exact hS) ?_
        simp only [Act.put, List.setIfInBounds_toArray, List.set_cons_succ, List.set_cons_zero]
        refine wpAnyH_take_d 13 (some 67) (.int .i64 (z / 256)) rfl (by kernel_rfl) (by kernel_rfl) (by kernel_rfl) (by kernel_rfl) rfl (fun _ _ _ h => h) (fun w' _ => ex_bin rfl rfl rfl (by kernel_rfl) (r2.out w')) (by exact hS) ?_
        simp only [Act.put, List.setIfInBounds_toArray, List.set_cons_succ, List.set_cons_zero]
        refine wpAnyH_take_d 14 (some 68) (.int .u8 (z / 256)) rfl (by kernel_rfl) (by kernel_rfl) (by kernel_rfl) (by kernel_rfl) rfl (fun _ _ _ h => h) (fun w' _ => ex_conv rfl rfl (c2.out w')) (by exact hS) ?_
        simp only [Act.put, List.setIfInBounds_toArray, List.set_cons_succ, List.set_cons_zero]
        have hS := hbn
        refine wpAnyH_one 15 (some 69) (.slice (some ⟨wr.drew.heap.size, 0, none⟩) 2 2) rfl (by kernel_rfl) (by kernel_rfl) rfl (ex_b2s rfl rfl rfl hbt.out) (by exact hS) ?_
        simp only [Act.put, List.setIfInBounds_toArray, List.set_cons_succ, List.set_cons_zero]
        refine wpAnyH_one 16 (some 70) (.string A) rfl (by kernel_rfl) (by kernel_rfl) rfl (ex_conv rfl rfl hr.out) (by exact hS) ?_
        simp only [Act.put, List.setIfInBounds_toArray, List.set_cons_succ, List.set_cons_zero]
        refine wpAnyH_take_d 17 (some 71) (.string (s ++ A)) rfl (by kernel_rfl) (by kernel_rfl) (by kernel_rfl) (by kernel_rfl) rfl (fun _ _ _ h => h) (fun _ _ => ex_sadd rfl rfl rfl zz) (by exact hS) ?_
        simp only [Act.put, List.setIfInBounds_toArray, List.set_cons_succ, List.set_cons_zero]
        refine wpAnyH_take_d 18 (some 5) (.string (s ++ A)) rfl (by kernel_rfl) (by kernel_rfl) (by kernel_rfl) (by kernel_rfl) rfl (fun _ _ _ h => h) (fun _ _ => by kernel_rfl) (by exact hS) ?_
        simp only [Act.put, List.setIfInBounds_toArray, List.set_cons_succ, List.set_cons_zero]
        refine wpAnyH_done (by kernel_rfl) ?_ _
        clear D1 zz hr hbt hbn
        go_wp2
        go_roundw
        case rel => exact ⟨k + 1, s ++ A, by omega, by go_num, rfl, HS, hS⟩
        case measure => simp [intOf]; omega
      · have HS0 : Hid (s = strOf (2 :: UInt8.ofNat im :: (isB n.is ++ ksB (n.ks.take 0)))) := Lib.hid (by
          have e : isB n.is ++ ksB (n.ks.take 0) = isB n.is := by simp [ksB]
          rw [hs.out, List.take_of_length_le (by have := HIM.out; omega), e])
        clear hs hk
        go_wp2
        clear q0 q1 q2 q3
        go_loopw [5, 7] (fun sv iv wr => ∃ (k : Nat) (s : ByteArray), k ≤ km ∧ iv = .int .i64 k ∧ sv = .string s ∧ Hid (s = strOf (2 :: UInt8.ofNat im :: (isB n.is ++ ksB (n.ks.take k)))) ∧ SB wr) (fun _ iv _ => km - (intOf iv).toNat)
        case atStart => exact ⟨0, s, Nat.zero_le _, rfl, rfl, HS0, hb⟩
        case round =>
          clear hb HS0
          obtain ⟨k, s, hk, rfl, rfl, hs, hb⟩ := hrel
          obtain ⟨q0, q1, q2, q3⟩ := BR.out _ hb
          by_cases hlt : k < km
          · have hlt' : k < n.ks.length := by rw [← HKM.out]; exact hlt
            obtain ⟨kb, koff, cap', hv, hB, hc1⟩ := HK2.out.getS hlt'
            obtain ⟨rfl, rfl⟩ : ka = some ⟨kb, koff, none⟩ ∧ kc = cap' := by injection hv with h1 _ h3; exact ⟨h1, h3⟩
            have d1 := ((FIN.out _ hb).cell (p := ⟨kb, koff + k, none⟩) hB).trans hc1
            have hst := ksB_take n.ks hlt'
            have hle := KLE.out k
            have hxo := KOK.out _ (kAt_mem hlt')
            clear hv hc1
            generalize kAt n.ks k = x at *
            have ta := text_ref wr x hxo
            have hsA : (strOf (txtB x)).size = 1 + x.size := by rw [strOf_size, txtB_length]
            have hsS : s.size = 2 + ((isB n.is).length + (ksB (n.ks.take k)).length) := by rw [hs.out, strOf_size, List.length_cons, List.length_cons, List.length_append]; omega
            have HS : Hid (s ++ strOf (txtB x) = strOf (2 :: UInt8.ofNat im :: (isB n.is ++ ksB (n.ks.take (k + 1))))) := Lib.hid (by
              rw [hs.out, strOf_add, hst]; congr 1; simp)
            have z1 : s.size + (strOf (txtB x)).size ≤ 9223372036854775807 := by have := HIK.out; omega
            generalize strOf (txtB x) = A at *
            clear hs hst hle hsA hsS
            go_wp2_with fail
            refine ta.mono ?_
            rintro e w3 ⟨rfl, b3⟩
            have hb := SBC.out _ _ hb b3
            clear ta b3 q0 q1 q2 q3 d1
            go_wp2
            go_roundw
            case rel => exact ⟨k + 1, s ++ A, by omega, by go_num, rfl, HS, hb⟩
            case measure => simp [intOf]; omega
          · have HS : Hid (s = strOf (encN n)) := Lib.hid (by rw [hs.out, HE.out, List.take_of_length_le (by have := HKM.out; omega)])
            clear hs
            go_wp2
            go_ret
            exact ⟨by rw [← HS.out]; rfl, FIN.out _ hb⟩
  · simp only [if_true] at heN
    have hokk := ok_key hok hlf
    have OK := Lib.hid (show ∀ p ∈ n.ps, p.k.size ≤ 255 ∧ p.v.size ≤ 255 from fun p hp => by have := hokk p hp; omega)
    have hl255 : pm ≤ 255 := by rw [hpm.out]; exact (okL_true ((okN_leaf hlf).symm.trans hok)).2.2.1
    have PLE := Lib.hid (show ∀ k, sizPs (n.ps.take k) ≤ 21000 from fun k => by
      have e : sizPs n.ps = sizPs (n.ps.take k) + sizPs (n.ps.drop k) := by rw [← sizPs_append, List.take_append_drop]
      unfold sizN at hsz; rw [hlf] at hsz; simp only [if_true] at hsz; omega)
    rw [← hpm.out] at heN
    have HE := Lib.hid heN
    have HPM := Lib.hid hpm.out
    have u := u8_nat pm hl255
    have hu := u.1
    have hb1 := build2 1 (pm : Nat) (w.alloc (rbO true (.slice pa pm pc) (.slice ka km kc) (.slice ia im ic)))
    have o2 := own_two (w.alloc (rbO true (.slice pa pm pc) (.slice ka km kc) (.slice ia im ic))) (base := w.heap.size) (by simp) 1 (UInt8.ofNat pm) (a := 1) (b := (pm : Int)) rfl u.2
    have hr := run_string o2
    rw [hz1] at hr
    have hbs := SBC.out _ _ hb0 (below_new _ (.cells #[.int .u8 1, .int .u8 (pm : Int)] 5))
    have HT0 := Lib.hid (show strOf [1, UInt8.ofNat pm] = strOf (1 :: UInt8.ofNat pm :: psB (n.ps.take 0)) by rfl)
    obtain ⟨q0, q1, q2, q3⟩ := BR.out _ hb0
    generalize strOf [1, UInt8.ofNat pm] = T0 at *
    clear heN hok hlf hokk u o2 hpm him hkm hz1 hsz
    go_enter Try.func35, Try.ntmps35
    go_wp2
    clear q0 q1 q2 q3 hb1 hr hu
    go_loopw [3, 4] (fun sv iv wr => ∃ (k : Nat) (s : ByteArray), k ≤ pm ∧ iv = .int .i64 k ∧ sv = .string s ∧ Hid (s = strOf (1 :: UInt8.ofNat pm :: psB (n.ps.take k))) ∧ SB wr) (fun _ iv _ => pm - (intOf iv).toNat)
    case atStart => exact ⟨0, T0, Nat.zero_le _, rfl, rfl, HT0, hbs⟩
    case round =>
      clear hbs hb0
      obtain ⟨k, s, hk, rfl, rfl, hs, hb⟩ := hrel
      obtain ⟨q0, q1, q2, q3⟩ := BR.out _ hb
      by_cases hlt : k < pm
      · have hlt' : k < n.ps.length := by rw [← HPM.out]; exact hlt
        obtain ⟨pb, poff, cap', hv, hB, hc1, hc2⟩ := HP.out.getP hlt'
        obtain ⟨rfl, rfl⟩ : pa = some ⟨pb, poff, none⟩ ∧ pc = cap' := by injection hv with h1 _ h3; exact ⟨h1, h3⟩
        have D1 := Lib.hid (fun w' (h : SB w') => ((FIN.out _ h).cell (p := ⟨pb, poff + k * 2, none⟩) hB).trans hc1)
        have D2 := Lib.hid (fun w' (h : SB w') => ((FIN.out _ h).cell (p := ⟨pb, poff + k * 2 + 1, none⟩) hB).trans hc2)
        have hst := psB_take n.ps hlt'
        have hss := sizPs_take n.ps hlt'
        have hle := PLE.out (k + 1)
        have hxo := OK.out _ (prAt_mem hlt')
        clear hv hc1 hc2
        generalize prAt n.ps k = x at *
        obtain ⟨xk, xv⟩ := x
        obtain ⟨o1, o2⟩ := hxo
        simp only at o1 o2 hst hss
        have TA := Lib.hid (fun (w' : World) => text_ref w' xk o1)
        have TB := Lib.hid (fun (w' : World) => text_ref w' xv o2)
        have hsA : (strOf (txtB xk)).size = 1 + xk.size := by rw [strOf_size, txtB_length]
        have hsB : (strOf (txtB xv)).size = 1 + xv.size := by rw [strOf_size, txtB_length]
        have hsS : s.size = 2 + sizPs (n.ps.take k) := by rw [hs.out, strOf_size, List.length_cons, List.length_cons, psB_length]; omega
        have HS : Hid (s ++ strOf (txtB xk) ++ strOf (txtB xv) = strOf (1 :: UInt8.ofNat pm :: psB (n.ps.take (k + 1)))) := Lib.hid (by
          rw [hs.out, strOf_add, strOf_add, hst]; congr 1; simp)
        have z1 : s.size + (strOf (txtB xk)).size ≤ 9223372036854775807 := by omega
        have z2 : (s ++ strOf (txtB xk)).size + (strOf (txtB xv)).size ≤ 9223372036854775807 := by rw [ByteArray.size_append]; omega
        generalize strOf (txtB xk) = A at *
        generalize strOf (txtB xv) = B at *
        clear hs hst hss hle hsA hsB hsS
        go_wp2_with fail
        clear q0 q1 q2 q3
        have hS := SBd _ hb
        refine wp_region_held_drew (S := SB) mixed hS (fun _ => ?_)
        show wpAnyH _ _ _ _ _ 18 (Array.replicate 18 false) _ _
        refine wpAnyH_take_d 0 (some 23) (.string s) rfl (by kernel_rfl) (by kernel_rfl) (by kernel_rfl) (by kernel_rfl) rfl (fun _ _ _ h => h) (fun _ _ => by kernel_rfl) (by exact hS) ?_
        simp only [Act.put, List.setIfInBounds_toArray, List.set_cons_succ, List.set_cons_zero]
        refine wpAnyH_take_d 1 (some 24) (.pointer (some ⟨w.heap.size, 1, none⟩)) rfl (by kernel_rfl) (by kernel_rfl) (by kernel_rfl) (by kernel_rfl) rfl (fun _ _ _ h => h) (fun _ _ => by kernel_rfl) (by exact hS) ?_
        simp only [Act.put, List.setIfInBounds_toArray, List.set_cons_succ, List.set_cons_zero]
        refine wpAnyH_take_d 2 (some 25) (.slice (some ⟨pb, poff, none⟩) pm pc) rfl (by kernel_rfl) (by kernel_rfl) (by kernel_rfl) (by kernel_rfl) rfl (fun _ _ _ h => h) (fun w' h => exec_load_cell rfl rfl (BR.out _ h).c1 Try.underlying22 rfl) (by exact hS) ?_
        simp only [Act.put, List.setIfInBounds_toArray, List.set_cons_succ, List.set_cons_zero]
        refine wpAnyH_take_d 3 (some 26) (.int .i64 k) rfl (by kernel_rfl) (by kernel_rfl) (by kernel_rfl) (by kernel_rfl) rfl (fun _ _ _ h => h) (fun _ _ => by kernel_rfl) (by exact hS) ?_
        simp only [Act.put, List.setIfInBounds_toArray, List.set_cons_succ, List.set_cons_zero]
        refine wpAnyH_take_d 4 (some 27) (.pointer (some ⟨pb, poff + k * 2, none⟩)) rfl (by kernel_rfl) (by kernel_rfl) (by kernel_rfl) (by kernel_rfl) rfl (fun _ _ _ h => h) (fun _ _ => ex_index 2 rfl rfl rfl hlt Try.underlying22 szPr) (by exact hS) ?_
        simp only [Act.put, List.setIfInBounds_toArray, List.set_cons_succ, List.set_cons_zero]
        refine wpAnyH_take_d 5 (some 28) (.pointer (some ⟨pb, poff + k * 2, none⟩)) rfl (by kernel_rfl) (by kernel_rfl) (by kernel_rfl) (by kernel_rfl) rfl (fun _ _ _ h => h) (fun _ _ => by kernel_rfl) (by exact hS) ?_
        simp only [Act.put, List.setIfInBounds_toArray, List.set_cons_succ, List.set_cons_zero]
        refine wpAnyH_take_d 6 (some 29) (.string xk) rfl (by kernel_rfl) (by kernel_rfl) (by kernel_rfl) (by kernel_rfl) rfl (fun _ _ _ h => h) (fun w' h => exec_load_cell rfl rfl (D1.out _ h) Try.underlying9 rfl) (by exact hS) ?_
        simp only [Act.put, List.setIfInBounds_toArray, List.set_cons_succ, List.set_cons_zero]
        refine wpAnyH_take_d 9 (some 32) (.pointer (some ⟨w.heap.size, 1, none⟩)) rfl (by kernel_rfl) (by kernel_rfl) (by kernel_rfl) (by kernel_rfl) rfl (fun _ _ _ h => h) (fun _ _ => by kernel_rfl) (by exact hS) ?_
        simp only [Act.put, List.setIfInBounds_toArray, List.set_cons_succ, List.set_cons_zero]
        refine wpAnyH_take_d 10 (some 33) (.slice (some ⟨pb, poff, none⟩) pm pc) rfl (by kernel_rfl) (by kernel_rfl) (by kernel_rfl) (by kernel_rfl) rfl (fun _ _ _ h => h) (fun w' h => exec_load_cell rfl rfl (BR.out _ h).c1 Try.underlying22 rfl) (by exact hS) ?_
        simp only [Act.put, List.setIfInBounds_toArray, List.set_cons_succ, List.set_cons_zero]
        refine wpAnyH_take_d 11 (some 34) (.int .i64 k) rfl (by kernel_rfl) (by kernel_rfl) (by kernel_rfl) (by kernel_rfl) rfl (fun _ _ _ h => h) (fun _ _ => by kernel_rfl) (by exact hS) ?_
        simp only [Act.put, List.setIfInBounds_toArray, List.set_cons_succ, List.set_cons_zero]
        refine wpAnyH_take_d 12 (some 35) (.pointer (some ⟨pb, poff + k * 2, none⟩)) rfl (by kernel_rfl) (by kernel_rfl) (by kernel_rfl) (by kernel_rfl) rfl (fun _ _ _ h => h) (fun _ _ => ex_index 2 rfl rfl rfl hlt Try.underlying22 szPr) (by exact hS) ?_
        simp only [Act.put, List.setIfInBounds_toArray, List.set_cons_succ, List.set_cons_zero]
        refine wpAnyH_take_d 13 (some 36) (.pointer (some ⟨pb, poff + k * 2 + 1, none⟩)) rfl (by kernel_rfl) (by kernel_rfl) (by kernel_rfl) (by kernel_rfl) rfl (fun _ _ _ h => h) (fun _ _ => by kernel_rfl) (by exact hS) ?_
        simp only [Act.put, List.setIfInBounds_toArray, List.set_cons_succ, List.set_cons_zero]
        refine wpAnyH_take_d 14 (some 37) (.string xv) rfl (by kernel_rfl) (by kernel_rfl) (by kernel_rfl) (by kernel_rfl) rfl (fun _ _ _ h => h) (fun w' h => exec_load_cell rfl rfl (D2.out _ h) Try.underlying9 rfl) (by exact hS) ?_
        simp only [Act.put, List.setIfInBounds_toArray, List.set_cons_succ, List.set_cons_zero]
        refine wpAnyH_call 7 (some 30) 56 #[.string xk] rfl (by kernel_rfl) (by kernel_rfl) rfl (by kernel_rfl) (TA.out _) ?_
        rintro e wx ⟨rfl, bx⟩
        have hS := SBC.out _ _ hS bx
        refine ⟨_, rfl, hS, ?_⟩
        simp only [Act.put, List.setIfInBounds_toArray, List.set_cons_succ, List.set_cons_zero]
        refine wpAnyH_take_d 8 (some 31) (.string (s ++ A)) rfl (by kernel_rfl) (by kernel_rfl) (by kernel_rfl) (by kernel_rfl) rfl (fun _ _ _ h => h) (fun _ _ => ex_sadd rfl rfl rfl z1) (by exact hS) ?_
        simp only [Act.put, List.setIfInBounds_toArray, List.set_cons_succ, List.set_cons_zero]
        refine wpAnyH_call 15 (some 38) 56 #[.string xv] rfl (by kernel_rfl) (by kernel_rfl) rfl (by kernel_rfl) (TB.out _) ?_
        rintro e wx ⟨rfl, bx⟩
        have hS := SBC.out _ _ hS bx
        refine ⟨_, rfl, hS, ?_⟩
        simp only [Act.put, List.setIfInBounds_toArray, List.set_cons_succ, List.set_cons_zero]
        refine wpAnyH_take_d 16 (some 39) (.string (s ++ A ++ B)) rfl (by kernel_rfl) (by kernel_rfl) (by kernel_rfl) (by kernel_rfl) rfl (fun _ _ _ h => h) (fun _ _ => ex_sadd rfl rfl rfl z2) (by exact hS) ?_
        simp only [Act.put, List.setIfInBounds_toArray, List.set_cons_succ, List.set_cons_zero]
        refine wpAnyH_take_d 17 (some 3) (.string (s ++ A ++ B)) rfl (by kernel_rfl) (by kernel_rfl) (by kernel_rfl) (by kernel_rfl) rfl (fun _ _ _ h => h) (fun _ _ => by kernel_rfl) (by exact hS) ?_
        simp only [Act.put, List.setIfInBounds_toArray, List.set_cons_succ, List.set_cons_zero]
        refine wpAnyH_done (by kernel_rfl) ?_ _
        clear D1 D2 z1 z2
        go_wp2
        go_roundw
        case rel => exact ⟨k + 1, s ++ A ++ B, by omega, by go_num, rfl, HS, hS⟩
        case measure => simp [intOf]; omega
      · have HS : Hid (s = strOf (encN n)) := Lib.hid (by rw [hs.out, HE.out, List.take_of_length_le (by have := HPM.out; omega)])
        clear hs
        go_wp2
        go_ret
        exact ⟨by rw [← HS.out]; rfl, FIN.out _ hb⟩
end Go.Proofs.Ytjjdpclobkdbjaa
