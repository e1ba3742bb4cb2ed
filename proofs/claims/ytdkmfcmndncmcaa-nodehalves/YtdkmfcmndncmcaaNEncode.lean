/- The contract of node.Encode. No statement of the seat is proved here. -/
import Derived.Test.YtdkmfcmndncmcaaNEnc
namespace Go.Proofs.Ytdkmfcmndncmcaa
set_option maxRecDepth 20000
open Go.RowKit

theorem box_facts {w : World} {lf : Bool} {pv kv iv : Value} {n : Nd} (h : NdAt w.heap.size w (.agg #[.bool lf, pv, kv, iv]) n) {w1 : World} (b : Below (w.heap.size + 1) (w.alloc (ndO lf pv kv iv)) w1) :
    NdAt w1.heap.size w1 (.agg #[.bool lf, pv, kv, iv]) n ∧ NdCells w1 w.heap.size lf pv kv iv ∧ Below w.heap.size w w1 ∧ w.heap.size + 1 ≤ w1.heap.size := by
  have hz : (w.alloc (ndO lf pv kv iv)).heap.size = w.heap.size + 1 := by simp
  have hb : Below w.heap.size w w1 := (below_new _ _).trans (b.mono (Nat.le_succ _))
  have hs : w.heap.size + 1 ≤ w1.heap.size := by have := b.size; omega
  exact ⟨(h.below hb).more hb.size, NdCells.of ((b.block w.heap.size (Nat.lt_succ_self _)).trans (heap_alloc_new _ _)), hb, hs⟩
theorem build2 (a b : Int) (w : World) : (Instr.buildSlice 67 2 #[(0, .int .u8 a), (1, .int .u8 b)]).run Try.prog w = .ok (.slice (some ⟨w.heap.size, 0, none⟩) 2 2) (w.alloc (.cells #[.int .u8 a, .int .u8 b] 5)) := by kernel_rfl
theorem own_two (w : World) {base : Nat} (hb : base ≤ w.heap.size) (x y : UInt8) {a b : Int} (ha : a = x.toNat) (hb2 : b = y.toNat) : OwnB base (w.alloc (.cells #[.int .u8 a, .int .u8 b] 5)) (.slice (some ⟨w.heap.size, 0, none⟩) 2 2) [x, y] := by
  subst ha; subst hb2
  exact ⟨rfl, .inr ⟨w.heap.size, 2, _, rfl, hb, heap_alloc_new w _, Nat.le_refl _, by simp [maxLen], rfl, rfl⟩⟩
def encE (n : Nd) : Int := if okN n then (if 160 < sizN n then 14 else 0) else 2
def encS (n : Nd) : ByteArray := if okN n then (if 160 < sizN n then ⟨#[]⟩ else strOf (encN n)) else ⟨#[]⟩
theorem psB_le {n : Nd} (h : sizN n ≤ 160) (hl : n.leaf = true) (k : Nat) : (psB (n.ps.take k)).length ≤ 160 := by
  have e : sizPs n.ps = sizPs (n.ps.take k) + sizPs (n.ps.drop k) := by rw [← sizPs_append, List.take_append_drop]
  unfold sizN at h; rw [hl, if_pos rfl] at h
  rw [psB_length]; omega
theorem isB_le {n : Nd} (h : sizN n ≤ 160) (hl : n.leaf = false) (k : Nat) : (isB (n.is.take k)).length ≤ 160 := by
  unfold sizN at h; rw [hl] at h; simp only [Bool.false_eq_true, if_false] at h
  rw [isB_length, List.length_take]; omega
theorem ksB_le {n : Nd} (h : sizN n ≤ 160) (hl : n.leaf = false) (k : Nat) : (isB n.is).length + (ksB (n.ks.take k)).length ≤ 160 := by
  have e : sizKs n.ks = sizKs (n.ks.take k) + sizKs (n.ks.drop k) := by rw [← sizKs_append, List.take_append_drop]
  unfold sizN at h; rw [hl] at h; simp only [Bool.false_eq_true, if_false] at h
  rw [isB_length, ksB_length]; omega
theorem u8_nat (k : Nat) (h : k ≤ 255) : IntKind.u8.wrap (k : Int) = (k : Int) ∧ (k : Int) = ((UInt8.ofNat k).toNat : Int) := by
  rw [IntKind.wrap_u8, UInt8.toNat_ofNat']; omega
set_option maxHeartbeats 6400000 in
theorem encode_any {w : World} {v : Value} {n : Nd} (h : NdAt w.heap.size w v n) : Calls Try.prog 14 #[v] w fun e w' => e = .returned (.tuple #[.string (encS n), .int .i64 (encE n)]) ∧ Below w.heap.size w w' := by
  have H := Lib.hid h
  obtain ⟨pv, kv, iv, rfl, h1, h2, h3⟩ := h
  obtain ⟨pa, pm, pc, rfl, hpm⟩ := h1.form
  obtain ⟨ka, km, kc, rfl, hkm⟩ := h2.form
  obtain ⟨ia, im, ic, rfl, him⟩ := h3.form
  have i1 := h1.len okP
  have i2 := h2.len okS
  have i3 := h3.len okZ
  rw [← hpm.out] at i1
  rw [← hkm.out] at i2
  rw [← him.out] at i3
  have H1 := Lib.hid h1
  have H2 := Lib.hid h2
  have H3 := Lib.hid h3
  generalize hlf : n.leaf = lf at *
  have BF := Lib.hid (fun w1 b => box_facts H.out (w1 := w1) b)
  have hz : (w.alloc (ndO lf (.slice pa pm pc) (.slice ka km kc) (.slice ia im ic))).heap.size = w.heap.size + 1 := by simp
  have HZ := Lib.hid hz
  have b0 : Below (w.heap.size + 1) (w.alloc (ndO lf (.slice pa pm pc) (.slice ka km kc) (.slice ia im ic))) (w.alloc (ndO lf (.slice pa pm pc) (.slice ka km kc) (.slice ia im ic))) := Below.refl _ _
  have fc := formed_any (BF.out _ b0).1
  have hq := (BF.out _ b0).2.1
  obtain ⟨q0, q1, q2, q3⟩ := hq
  clear h1 h2 h3 hz
  cases hk : okN n
  · have e1 : encE n = 2 := by unfold encE; rw [hk]; rfl
    have e2 : encS n = ⟨#[]⟩ := by unfold encS; rw [hk]; rfl
    rw [e1, e2]
    rw [hk] at fc
    clear hk e1 e2
    go_enter Try.func14, Try.ntmps14
    go_wp2_with fail
    refine Calls.mono fc ?_
    rintro e w1 ⟨rfl, b1⟩
    rw [HZ.out] at b1
    obtain ⟨-, -, B1, -⟩ := BF.out w1 b1
    clear fc b1 b0
    go_wp2
    go_ret2
    exact ⟨rfl, B1⟩
  · rw [hk] at fc
    have SZ := Lib.hid (fun w1 b => size_ok (BF.out w1 b).1 hk)
    by_cases hb : 160 < sizN n
    · have e1 : encE n = 14 := by unfold encE; rw [hk, if_pos rfl, if_pos hb]
      have e2 : encS n = ⟨#[]⟩ := by unfold encS; rw [hk, if_pos rfl, if_pos hb]
      rw [e1, e2]
      have hle := sizN_le hk
      generalize sizN n = S at *
      clear hk e1 e2
      go_enter Try.func14, Try.ntmps14
      go_wp2_with fail
      refine Calls.mono fc ?_
      rintro e w1 ⟨rfl, b1⟩
      rw [HZ.out] at b1
      obtain ⟨-, hq, -, -⟩ := BF.out w1 b1
      obtain ⟨q0, q1, q2, q3⟩ := hq
      have sz := SZ.out w1 b1
      clear fc b0
      go_wp2_with fail
      refine Calls.mono sz ?_
      rintro e w2 ⟨rfl, b2⟩
      obtain ⟨-, -, B1, -⟩ := BF.out w2 (Below.then b1 b2 (by rw [HZ.out]; omega))
      clear sz b1 b2 q0 q1 q2 q3
      go_wp2
      go_ret2
      exact ⟨rfl, B1⟩
    · have e1 : encE n = 0 := by unfold encE; rw [hk, if_pos rfl, if_neg hb]
      have e2 : encS n = strOf (encN n) := by unfold encS; rw [hk, if_pos rfl, if_neg hb]
      rw [e1, e2]
      have hb160 : sizN n ≤ 160 := by omega
      have HB := Lib.hid hb160
      have HK := Lib.hid hk
      have hsn : ∃ S, sizN n = S := ⟨_, rfl⟩
      obtain ⟨S, hS⟩ := hsn
      rw [hS] at hb SZ
      clear hk e1 e2 hb160 hS
      go_enter Try.func14, Try.ntmps14
      go_wp2_with fail
      refine Calls.mono fc ?_
      rintro e w1 ⟨rfl, b1⟩
      rw [HZ.out] at b1
      obtain ⟨-, hq, -, -⟩ := BF.out w1 b1
      obtain ⟨q0, q1, q2, q3⟩ := hq
      have sz := SZ.out w1 b1
      clear fc b0 SZ
      go_wp2_with fail
      refine Calls.mono sz ?_
      rintro e w2 ⟨rfl, b2⟩
      have b3 := Below.then b1 b2 (by rw [HZ.out]; omega)
      obtain ⟨-, hq, B1, hs2⟩ := BF.out w2 b3
      clear sz b1 b2 q0 q1 q2 q3
      obtain ⟨q0, q1, q2, q3⟩ := hq
      cases lf
      · obtain ⟨-, m2, m3, m4, m5, m6⟩ := okI_true ((okN_inner hlf).symm.trans HK.out)
        rw [← him.out] at m2 m3
        have u1 := u8_nat im m3
        have hbs := build2 2 (im : Int) w2
        have o2 := own_two w2 (base := w.heap.size + 1) hs2 2 (UInt8.ofNat im) (a := 2) (b := (im : Int)) rfl u1.2
        have b4 := b3.alloc hs2 (.cells #[.int .u8 2, .int .u8 (im : Int)] 5)
        have hw1 := u1.1
        obtain ⟨-, hq, -, -⟩ := BF.out _ b4
        obtain ⟨r0, r1, r2, r3⟩ := hq
        have o2' : OwnB (w.heap.size + 1) (w2.alloc (.cells #[.int .u8 2, .int .u8 (im : Int)] 5)) (.slice (some ⟨w2.heap.size, 0, none⟩) 2 2) (2 :: UInt8.ofNat im :: isB (n.is.take 0)) := o2
        clear u1 B1 hs2 o2
        go_wp2
        go_loopw [7, 50] (fun av iv wr => ∃ k : Nat, k ≤ im ∧ iv = .int .i64 k ∧ OwnB (w.heap.size + 1) wr av (2 :: UInt8.ofNat im :: isB (n.is.take k)) ∧ Below (w.heap.size + 1) (w.alloc (ndO false (.slice pa pm pc) (.slice ka km kc) (.slice ia im ic))) wr) (fun _ iv _ => im - (intOf iv).toNat)
        case atStart => exact ⟨0, Nat.zero_le _, rfl, o2', b4⟩
        case round =>
          clear o2' b4 r0 r1 r2 r3 q0 q1 q2 q3 b3 hbs
          obtain ⟨k, hk, rfl, o, bk⟩ := hrel
          obtain ⟨va, vm, vc, rfl, hvm⟩ := o.form'
          obtain ⟨-, hq, B1, hs2⟩ := BF.out wr bk
          by_cases hlt : k < im
          · have hlt' : k < n.is.length := by rw [← him.out]; exact hlt
            obtain ⟨b, off, cap', hv, hB, hc1⟩ := H3.out.getI hlt'
            obtain ⟨rfl, -, rfl⟩ : ia = some ⟨b, off, none⟩ ∧ im = n.is.length ∧ ic = cap' := by cases hv; exact ⟨rfl, rfl, rfl⟩
            have d1 := (B1.cell (p := ⟨b, off + k, none⟩) hB).trans hc1
            have hz := m6 _ (getD_mem hlt')
            have hst := isB_take n.is hlt'
            have hll := isB_le HB.out hlf k
            generalize n.is.getD k 0 = z at *
            have z1 : z % 256 = ((UInt8.ofNat (z % 256).toNat).toNat : Int) := by rw [UInt8.toNat_ofNat']; omega
            have z2 : z / 256 = ((UInt8.ofNat (z / 256).toNat).toNat : Int) := by rw [UInt8.toNat_ofNat']; omega
            have z4 : IntKind.u8.wrap z = z % 256 := IntKind.wrap_u8 z
            have z5 : IntKind.u8.wrap (z / 256) = z / 256 := by rw [IntKind.wrap_u8]; omega
            have z3 : z / 2 ^ 8 = z / 256 := rfl
            have hzz : -9223372036854775808 ≤ z ∧ z ≤ 9223372036854775807 := by omega
            have oy := own_two wr (base := w.heap.size + 1) hs2 (UInt8.ofNat (z % 256).toNat) (UInt8.ofNat (z / 256).toNat) z1 z2
            have bn := below_new wr (.cells #[.int .u8 (z % 256), .int .u8 (z / 256)] 5)
            obtain ⟨v9, w9, hr9, o9, b9, s9, -⟩ := own_append (o.alloc (.cells #[.int .u8 (z % 256), .int .u8 (z / 256)] 5)) oy.at (by simp only [List.length_cons, List.length_nil]; omega) (by simp; omega) 67
            have e9 : 2 :: UInt8.ofNat im :: isB (n.is.take k) ++ [UInt8.ofNat (z % 256).toNat, UInt8.ofNat (z / 256).toNat] = 2 :: UInt8.ofNat im :: isB (n.is.take (k + 1)) := by rw [hst]; rfl
            rw [e9] at o9
            obtain ⟨ya, ym, yc, rfl, hym⟩ := o9.form'
            have hbs := build2 (z % 256) (z / 256) wr
            have b10 := (bk.trans (bn.mono hs2)).trans b9
            have HR := Lib.hid hr9
            have HO := Lib.hid o9
            clear hr9 o9 oy bn b9 s9 e9 hst hll o hc1 hv hym hvm z1 z2 B1 hq bk
            go_wp2_with (with_reducible refine wpList_append_own rfl (.tmp 54) (.tmp 60) 67 67 rfl (.slice va vm vc) (.slice (some ⟨wr.heap.size, 0, none⟩) 2 2) (.slice ya ym yc) rfl rfl HR.out ?_)
            go_roundw
            case rel => exact ⟨k + 1, by omega, by go_num, HO.out, b10⟩
            case measure => simp [intOf]; omega
          · have hkl : isB (n.is.take k) = isB n.is := by rw [List.take_of_length_le (by have := him.out; omega)]
            rw [hkl] at o
            have o2' : OwnB (w.heap.size + 1) wr (.slice va vm vc) (2 :: UInt8.ofNat im :: (isB n.is ++ ksB (n.ks.take 0))) := by
              have : isB n.is ++ ksB (n.ks.take 0) = isB n.is := by simp [ksB]
              rw [this]; exact o
            obtain ⟨r0, r1, r2, r3⟩ := hq
            clear o hkl hvm
            go_wp2
            go_loopw [7, 66] (fun av iv wr' => ∃ k : Nat, k ≤ km ∧ iv = .int .i64 k ∧ OwnB (w.heap.size + 1) wr' av (2 :: UInt8.ofNat im :: (isB n.is ++ ksB (n.ks.take k))) ∧ Below (w.heap.size + 1) (w.alloc (ndO false (.slice pa pm pc) (.slice ka km kc) (.slice ia im ic))) wr') (fun _ iv _ => km - (intOf iv).toNat)
            case atStart => exact ⟨0, Nat.zero_le _, rfl, o2', bk⟩
            case round =>
              clear o2' bk r0 r1 r2 r3 B1 hs2
              obtain ⟨k, hk, rfl, o, bk⟩ := hrel
              obtain ⟨va, vm, vc, rfl, hvm⟩ := o.form'
              obtain ⟨-, -, B1, hs2⟩ := BF.out _ bk
              by_cases hlt : k < km
              · have hlt' : k < n.ks.length := by rw [← hkm.out]; exact hlt
                obtain ⟨b, off, cap', hv, hB, hc1⟩ := H2.out.getS hlt'
                obtain ⟨rfl, -, rfl⟩ : ka = some ⟨b, off, none⟩ ∧ km = n.ks.length ∧ kc = cap' := by cases hv; exact ⟨rfl, rfl, rfl⟩
                have d1 := (B1.cell (p := ⟨b, off + k, none⟩) hB).trans hc1
                have hst := ksB_take n.ks hlt'
                have hll := ksB_le HB.out hlf k
                have hks := (okK_size ((risB_mem m5).1 _ (kAt_mem hlt'))).2
                generalize kAt n.ks k = x at *
                have at1 := appendText_any o x (by omega) hs2 (by simp only [List.length_cons, List.length_append]; omega)
                have e9 : 2 :: UInt8.ofNat im :: (isB n.is ++ ksB (n.ks.take k)) ++ txtB x = 2 :: UInt8.ofNat im :: (isB n.is ++ ksB (n.ks.take (k + 1))) := by rw [hst]; simp
                rw [e9] at at1
                clear e9 hst hll o hc1 hv hvm hks B1
                go_wp2_with fail
                refine Calls.mono at1 ?_
                rintro e w9 ⟨v9, rfl, o9, b9, -, -⟩
                have b10 := bk.trans b9
                obtain ⟨ya, ym, yc, rfl, hym⟩ := o9.form'
                have HO := Lib.hid o9
                clear at1 b9 o9 bk hym
                go_wp2
                go_roundw
                case rel => exact ⟨k + 1, by omega, by go_num, HO.out, b10⟩
                case measure => simp [intOf]; omega
              · have hkl : ksB (n.ks.take k) = ksB n.ks := by rw [List.take_of_length_le (by have := hkm.out; omega)]
                have hen : encN n = 2 :: UInt8.ofNat im :: (isB n.is ++ ksB n.ks) := by unfold encN; rw [hlf, him.out]; rfl
                rw [hkl, ← hen] at o
                have hr := run_string o
                have HB1 := Lib.hid B1
                obtain ⟨page, hpg⟩ : ∃ p, strOf (encN n) = p := ⟨_, rfl⟩
                rw [hpg] at hr
                have HPG := Lib.hid hpg
                clear hpg
                clear o hkl hen hvm B1
                go_wp2
                go_ret2
                exact ⟨by rw [HPG.out]; rfl, HB1.out⟩
      · obtain ⟨-, -, m3, -, -⟩ := okL_true ((okN_leaf hlf).symm.trans HK.out)
        have mk := ok_key HK.out hlf
        rw [← hpm.out] at m3
        have u1 := u8_nat pm m3
        have hbs := build2 1 (pm : Int) w2
        have o2 := own_two w2 (base := w.heap.size + 1) hs2 1 (UInt8.ofNat pm) (a := 1) (b := (pm : Int)) rfl u1.2
        have b4 := b3.alloc hs2 (.cells #[.int .u8 1, .int .u8 (pm : Int)] 5)
        have hw1 := u1.1
        obtain ⟨-, hq, -, -⟩ := BF.out _ b4
        obtain ⟨r0, r1, r2, r3⟩ := hq
        have o2' : OwnB (w.heap.size + 1) (w2.alloc (.cells #[.int .u8 1, .int .u8 (pm : Int)] 5)) (.slice (some ⟨w2.heap.size, 0, none⟩) 2 2) (1 :: UInt8.ofNat pm :: psB (n.ps.take 0)) := o2
        clear u1 B1 hs2 o2
        go_wp2
        go_loopw [4, 28] (fun av iv wr => ∃ k : Nat, k ≤ pm ∧ iv = .int .i64 k ∧ OwnB (w.heap.size + 1) wr av (1 :: UInt8.ofNat pm :: psB (n.ps.take k)) ∧ Below (w.heap.size + 1) (w.alloc (ndO true (.slice pa pm pc) (.slice ka km kc) (.slice ia im ic))) wr) (fun _ iv _ => pm - (intOf iv).toNat)
        case atStart => exact ⟨0, Nat.zero_le _, rfl, o2', b4⟩
        case round =>
          clear o2' b4 r0 r1 r2 r3 q0 q1 q2 q3 b3 hbs
          obtain ⟨k, hk, rfl, o, bk⟩ := hrel
          obtain ⟨va, vm, vc, rfl, hvm⟩ := o.form'
          obtain ⟨-, -, B1, hs2⟩ := BF.out wr bk
          by_cases hlt : k < pm
          · have hlt' : k < n.ps.length := by rw [← hpm.out]; exact hlt
            obtain ⟨b, off, cap', hv, hB, hc1, hc2⟩ := H1.out.getP hlt'
            obtain ⟨rfl, -, rfl⟩ : pa = some ⟨b, off, none⟩ ∧ pm = n.ps.length ∧ pc = cap' := by cases hv; exact ⟨rfl, rfl, rfl⟩
            have d1 := (B1.cell (p := ⟨b, off + k * 2, none⟩) hB).trans hc1
            have d2 := (B1.cell (p := ⟨b, off + k * 2 + 1, none⟩) hB).trans hc2
            have hst := psB_take n.ps hlt'
            have hll := psB_le HB.out hlf k
            have hll2 := psB_le HB.out hlf (k + 1)
            have hks := mk _ (prAt_mem hlt')
            rw [hst] at hll2
            simp only [List.length_append] at hll2
            generalize prAt n.ps k = x at *
            obtain ⟨xk, xv⟩ := x
            simp only at d1 d2 hks hst hll2
            have bP := bk.alloc hs2 (prO ⟨xk, xv⟩)
            have hP := heap_alloc_new wr (prO ⟨xk, xv⟩)
            have hsP : (wr.alloc (prO ⟨xk, xv⟩)).heap.size = wr.heap.size + 1 := by simp
            have at1 := appendText_any (w := (wr.alloc (prO ⟨xk, xv⟩)).drew) ((o.alloc (prO ⟨xk, xv⟩)).below (Below.refl _ _).drew) xk (by omega) (by show _ ≤ (wr.alloc (prO ⟨xk, xv⟩)).heap.size; rw [hsP]; omega) (by simp only [List.length_cons]; omega)
            have hne := o.ne_new (k := wr.heap.size) (Nat.le_refl _)
            have LD := Lib.hid (fun (w' : World) (h : w'.heap[wr.heap.size]? = some (prO ⟨xk, xv⟩)) => And.intro (show w'.cell? ⟨wr.heap.size, 0, none⟩ = some (.string xk) by rw [cell_of_row _ _ _ _ _ _ h]; rfl) (show w'.cell? ⟨wr.heap.size, 1, none⟩ = some (.string xv) by rw [cell_of_row _ _ _ _ _ _ h]; rfl))
            have HP := Lib.hid hP
            have hsz1 : wr.heap.size < (wr.alloc (prO ⟨xk, xv⟩)).drew.heap.size := by show _ < (wr.alloc (prO ⟨xk, xv⟩)).heap.size; rw [hsP]; omega
            have SZ1 := Lib.hid hsz1
            have NE := Lib.hid hne
            have HST := Lib.hid hst
            have BP := Lib.hid bP
            clear hc1 hc2 hv o hP hsz1 hne hvm B1 hst bP
            go_wp2_with fail
            have hS : (wr.alloc (prO ⟨xk, xv⟩)).drew.heap[wr.heap.size]? = some (prO ⟨xk, xv⟩) := HP.out
            refine wp_region_held_drew (S := fun w' => w'.heap[wr.heap.size]? = some (prO ⟨xk, xv⟩)) mixed hS (fun _ => ?_)
            show wpAnyH _ _ _ _ _ 8 (Array.replicate 8 false) _ _
            refine wpAnyH_take_d 0 (some 32) (.slice va vm vc) rfl (by kernel_rfl) (by kernel_rfl) (by kernel_rfl) (by kernel_rfl) rfl (fun _ _ _ h => h) (fun _ _ => by kernel_rfl) (by exact hS) ?_
            simp only [Act.put, List.setIfInBounds_toArray, List.set_cons_succ, List.set_cons_zero]
            refine wpAnyH_take_d 1 (some 33) (.pointer (some ⟨wr.heap.size, 0, none⟩)) rfl (by kernel_rfl) (by kernel_rfl) (by kernel_rfl) (by kernel_rfl) rfl (fun _ _ _ h => h) (fun _ _ => by kernel_rfl) (by exact hS) ?_
            simp only [Act.put, List.setIfInBounds_toArray, List.set_cons_succ, List.set_cons_zero]
            refine wpAnyH_take_d 2 (some 34) (.string xk) rfl (by kernel_rfl) (by kernel_rfl) (by kernel_rfl) (by kernel_rfl) rfl (fun _ _ _ h => h) (fun w' h => exec_load_cell rfl rfl (LD.out _ h).1 Try.underlying9 rfl) (by exact hS) ?_
            simp only [Act.put, List.setIfInBounds_toArray, List.set_cons_succ, List.set_cons_zero]
            refine wpAnyH_take_d 4 (some 36) (.pointer (some ⟨wr.heap.size, 1, none⟩)) rfl (by kernel_rfl) (by kernel_rfl) (by kernel_rfl) (by kernel_rfl) rfl (fun _ _ _ h => h) (fun _ _ => by kernel_rfl) (by exact hS) ?_
            simp only [Act.put, List.setIfInBounds_toArray, List.set_cons_succ, List.set_cons_zero]
            refine wpAnyH_take_d 5 (some 37) (.string xv) rfl (by kernel_rfl) (by kernel_rfl) (by kernel_rfl) (by kernel_rfl) rfl (fun _ _ _ h => h) (fun w' h => exec_load_cell rfl rfl (LD.out _ h).2 Try.underlying9 rfl) (by exact hS) ?_
            simp only [Act.put, List.setIfInBounds_toArray, List.set_cons_succ, List.set_cons_zero]
            refine wpAnyH_call 3 (some 35) 37 #[.slice va vm vc, .string xk] rfl (by kernel_rfl) (by kernel_rfl) rfl (by kernel_rfl) (at1) ?_
            rintro e w6 ⟨v6, rfl, o6, b6, s6, k6⟩
            obtain ⟨ya, ym, yc, rfl, -⟩ := o6.form'
            have hS : w6.heap[wr.heap.size]? = some (prO ⟨xk, xv⟩) := (k6 _ SZ1.out NE.out).trans HP.out
            refine ⟨_, rfl, hS, ?_⟩
            simp only [Act.put, List.setIfInBounds_toArray, List.set_cons_succ, List.set_cons_zero]
            refine wpAnyH_call 6 (some 38) 37 #[.slice ya ym yc, .string xv] rfl (by kernel_rfl) (by kernel_rfl) rfl (by kernel_rfl) ((appendText_any o6 xv (by omega) (by have := SZ1.out; omega) (by simp only [List.length_append, List.length_cons, txtB_length]; omega))) ?_
            rintro e w7 ⟨v7, rfl, o7, b7, s7, k7⟩
            obtain ⟨xa, xm, xc, rfl, -⟩ := o7.form'
            have hS : w7.heap[wr.heap.size]? = some (prO ⟨xk, xv⟩) := (k7 _ (lt_of_heap hS) (o6.ne_kind hS (by decide))).trans hS
            refine ⟨_, rfl, hS, ?_⟩
            simp only [Act.put, List.setIfInBounds_toArray, List.set_cons_succ, List.set_cons_zero]
            refine wpAnyH_take_d 7 (some 4) (.slice xa xm xc) rfl (by kernel_rfl) (by kernel_rfl) (by kernel_rfl) (by kernel_rfl) rfl (fun _ _ _ h => h) (fun _ _ => by kernel_rfl) (by exact hS) ?_
            simp only [Act.put, List.setIfInBounds_toArray, List.set_cons_succ, List.set_cons_zero]
            refine wpAnyH_done (by kernel_rfl) ?_ _
            have e9 : 1 :: UInt8.ofNat pm :: psB (n.ps.take k) ++ txtB xk ++ txtB xv = 1 :: UInt8.ofNat pm :: psB (n.ps.take (k + 1)) := by rw [HST.out]; simp
            rw [e9] at o7
            have b10 := (BP.out.drew.trans b6).trans b7
            have HO := Lib.hid o7
            clear at1 b6 o6 s6 k6 b7 o7 s7 k7 bk hS e9
            go_wp2
            go_roundw
            case rel => exact ⟨k + 1, by omega, by go_num, HO.out, b10⟩
            case measure => simp [intOf]; omega
          · have hkl : psB (n.ps.take k) = psB n.ps := by rw [List.take_of_length_le (by have := hpm.out; omega)]
            have hen : encN n = 1 :: UInt8.ofNat pm :: psB n.ps := by unfold encN; rw [hlf, hpm.out]; rfl
            rw [hkl, ← hen] at o
            have hr := run_string o
            have HB1 := Lib.hid B1
            obtain ⟨page, hpg⟩ : ∃ p, strOf (encN n) = p := ⟨_, rfl⟩
            rw [hpg] at hr
            have HPG := Lib.hid hpg
            clear hpg
            clear o hkl hen hvm B1
            go_wp2
            go_ret2
            exact ⟨by rw [HPG.out]; rfl, HB1.out⟩
end Go.Proofs.Ytdkmfcmndncmcaa
