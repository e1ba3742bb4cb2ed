/- cisternlaw07.RecordEncodes returns true at every input: for all records the sectors are what the document says. -/
import Derived.Test.YtmkomhdlcbimoaaRRec
namespace Go.Proofs.Ytmkomhdlcbimoaa.recordEncodes
set_option maxRecDepth 20000
open Go.RowKit Go.ChangeShapes Go.WideShapes Go.ChangeAt

theorem own : ownKnob Try.prog.godebug = none := by kernel_rfl
set_option maxRecDepth 20000 in
set_option maxHeartbeats 1600000 in
theorem walk (g e t : Int) (h1 : inI g) (h2 : inI e) (h3 : inI t) (l : Lg) (hl : l.ok) (p : Int) (d : ByteArray) (hp : inI p) (hd : d.size ≤ maxLen) (W : World) : Calls Try.prog 3 #[superV g e t, logVal l, homeV p d] W fun x w' => x = .returned (.bool true) ∧ Below W.heap.size W w' := by
  obtain ⟨a0, a1, a2, a3, a4, a5, a6, s⟩ := l
  have B1 := below_new W (.cells #[.int .i64 g, .int .i64 e, .int .i64 t] 23)
  have B2 := B1.alloc B1.size (.cells #[.int .i64 a0, .int .i64 a1, .int .i64 a2, .int .i64 a3, .int .i64 a4, .int .i64 a5, .int .i64 a6, .string s] 25)
  have BB := B2.alloc B2.size (.cells #[.int .i64 p, .string d] 27)
  have s1 := heap_alloc_new W (.cells #[.int .i64 g, .int .i64 e, .int .i64 t] 23)
  have s2 := (Below.heap_alloc (W.alloc (.cells #[.int .i64 g, .int .i64 e, .int .i64 t] 23)) (.cells #[.int .i64 a0, .int .i64 a1, .int .i64 a2, .int .i64 a3, .int .i64 a4, .int .i64 a5, .int .i64 a6, .string s] 25) W.heap.size (by simp)).trans s1
  have rS := (Below.heap_alloc ((W.alloc (.cells #[.int .i64 g, .int .i64 e, .int .i64 t] 23)).alloc (.cells #[.int .i64 a0, .int .i64 a1, .int .i64 a2, .int .i64 a3, .int .i64 a4, .int .i64 a5, .int .i64 a6, .string s] 25)) (.cells #[.int .i64 p, .string d] 27) W.heap.size (by simp; omega)).trans s2
  have q1 := heap_alloc_new (W.alloc (.cells #[.int .i64 g, .int .i64 e, .int .i64 t] 23)) (.cells #[.int .i64 a0, .int .i64 a1, .int .i64 a2, .int .i64 a3, .int .i64 a4, .int .i64 a5, .int .i64 a6, .string s] 25)
  rw [size_alloc] at q1
  have rL := (Below.heap_alloc ((W.alloc (.cells #[.int .i64 g, .int .i64 e, .int .i64 t] 23)).alloc (.cells #[.int .i64 a0, .int .i64 a1, .int .i64 a2, .int .i64 a3, .int .i64 a4, .int .i64 a5, .int .i64 a6, .string s] 25)) (.cells #[.int .i64 p, .string d] 27) (W.heap.size + 1) (by simp)).trans q1
  have rH := heap_alloc_new ((W.alloc (.cells #[.int .i64 g, .int .i64 e, .int .i64 t] 23)).alloc (.cells #[.int .i64 a0, .int .i64 a1, .int .i64 a2, .int .i64 a3, .int .i64 a4, .int .i64 a5, .int .i64 a6, .string s] 25)) (.cells #[.int .i64 p, .string d] 27)
  rw [size_alloc, size_alloc] at rH
  have hz : W.heap.size + 2 < (((W.alloc (.cells #[.int .i64 g, .int .i64 e, .int .i64 t] 23)).alloc (.cells #[.int .i64 a0, .int .i64 a1, .int .i64 a2, .int .i64 a3, .int .i64 a4, .int .i64 a5, .int .i64 a6, .string s] 25)).alloc (.cells #[.int .i64 p, .string d] 27)).heap.size := by simp
  have hkn := known_any (((W.alloc (.cells #[.int .i64 g, .int .i64 e, .int .i64 t] 23)).alloc (.cells #[.int .i64 a0, .int .i64 a1, .int .i64 a2, .int .i64 a3, .int .i64 a4, .int .i64 a5, .int .i64 a6, .string s] 25)).alloc (.cells #[.int .i64 p, .string d] 27))
  have hsI : ∀ z ∈ [g, e, t], inI z := by intro z hz; simp only [List.mem_cons, List.not_mem_nil, or_false] at hz; rcases hz with rfl | rfl | rfl <;> assumption
  have hlI : ∀ z ∈ [a0, a1, a2, a3, a4, a5, a6], inI z := by
    obtain ⟨k1, k2, k3, k4, k5, k6, k7, k8⟩ := hl
    intro z hz; simp only [List.mem_cons, List.not_mem_nil, or_false] at hz; rcases hz with rfl | rfl | rfl | rfl | rfl | rfl | rfl <;> assumption
  have hhI : ∀ z ∈ [p], inI z := by intro z hz; rw [List.mem_singleton.1 hz]; exact hp
  have HSI := Lib.hid hsI
  have HLI := Lib.hid hlI
  have HHI := Lib.hid hhI
  have HL := Lib.hid hl
  have hs8 : s.size ≤ maxLen := hl.2.2.2.2.2.2.2
  clear B1 B2 s1 s2 q1 hsI hlI hhI hl
  go_enter Try.func3, Try.ntmps3
  go_wp2_with fail
  refine Calls.mono hkn ?_
  clear hkn
  generalize ((W.alloc (.cells #[.int .i64 g, .int .i64 e, .int .i64 t] 23)).alloc (.cells #[.int .i64 a0, .int .i64 a1, .int .i64 a2, .int .i64 a3, .int .i64 a4, .int .i64 a5, .int .i64 a6, .string s] 25)).alloc (.cells #[.int .i64 p, .string d] 27) = w0 at BB rS rL rH hz ⊢
  rintro x w1 ⟨rfl, b1⟩
  have rS := (b1.block W.heap.size (by omega)).trans rS
  have rL := (b1.block (W.heap.size + 1) (by omega)).trans rL
  have rH := (b1.block (W.heap.size + 2) hz).trans rH
  have BB := BB.trans (b1.mono BB.size)
  have hz := Nat.lt_of_lt_of_le hz b1.size
  clear b1
  have x0 : w1.cell? ⟨W.heap.size, 0, none⟩ = some (.int .i64 g) := cell_row rS 0 rfl
  have x1 : w1.cell? ⟨W.heap.size, 1, none⟩ = some (.int .i64 e) := cell_row rS 1 rfl
  have x2 : w1.cell? ⟨W.heap.size, 2, none⟩ = some (.int .i64 t) := cell_row rS 2 rfl
  have hrec := superRec_any g e t w1
  go_wp2_with fail
  refine Calls.mono hrec ?_
  rintro x w2 ⟨nv, rfl, hI, b2⟩
  have hdo := docRec_any hI HSI.out 1 (.inl rfl) ByteArray.empty (by decide)
  obtain ⟨nao, ncap, hnv, -⟩ := hI
  subst hnv
  clear hrec x0 x1 x2
  have rS := (b2.block W.heap.size (by omega)).trans rS
  have rL := (b2.block (W.heap.size + 1) (by omega)).trans rL
  have rH := (b2.block (W.heap.size + 2) hz).trans rH
  have BB := BB.trans (b2.mono BB.size)
  have hz := Nat.lt_of_lt_of_le hz b2.size
  clear b2
  go_wp2_with fail
  refine Calls.mono hdo ?_
  rintro x w3 ⟨rfl, b3⟩
  clear hdo
  have rS := (b3.block W.heap.size (by omega)).trans rS
  have rL := (b3.block (W.heap.size + 1) (by omega)).trans rL
  have rH := (b3.block (W.heap.size + 2) hz).trans rH
  have BB := BB.trans (b3.mono BB.size)
  have hz := Nat.lt_of_lt_of_le hz b3.size
  clear b3
  have x0 : w3.cell? ⟨W.heap.size, 0, none⟩ = some (.int .i64 g) := cell_row rS 0 rfl
  have x1 : w3.cell? ⟨W.heap.size, 1, none⟩ = some (.int .i64 e) := cell_row rS 1 rfl
  have x2 : w3.cell? ⟨W.heap.size, 2, none⟩ = some (.int .i64 t) := cell_row rS 2 rfl
  have hen := encodeSuper_any g e t h1 h2 h3 w3
  have eR : strOf (drR 1 [g, e, t] ByteArray.empty) = strOf (esupR g e t) := by unfold drR esupR; rw [dr_super]; rfl
  have eE : drE 1 [g, e, t] ByteArray.empty = esupE g e t := by unfold drE esupE; rw [dr_super]
  rw [eR, eE]
  generalize esupR g e t = RR at hen
  generalize esupE g e t = EE at hen
  clear eR eE
  go_wp2_with fail
  refine Calls.mono hen ?_
  rintro x w4 ⟨vv, rfl, hv, b4⟩
  have hst := run_string hv
  obtain ⟨vao, vm, vcap, hvv, hvm⟩ := hv.form'
  subst hvv
  clear hen hv hvm x0 x1 x2
  have rS := (b4.block W.heap.size (by omega)).trans rS
  have rL := (b4.block (W.heap.size + 1) (by omega)).trans rL
  have rH := (b4.block (W.heap.size + 2) hz).trans rH
  have BB := BB.trans (b4.mono BB.size)
  have hz := Nat.lt_of_lt_of_le hz b4.size
  clear b4
  have x0 : w4.cell? ⟨W.heap.size + 1, 0, none⟩ = some (.int .i64 a0) := cell_row rL 0 rfl
  have x1 : w4.cell? ⟨W.heap.size + 1, 1, none⟩ = some (.int .i64 a1) := cell_row rL 1 rfl
  have x2 : w4.cell? ⟨W.heap.size + 1, 2, none⟩ = some (.int .i64 a2) := cell_row rL 2 rfl
  have x3 : w4.cell? ⟨W.heap.size + 1, 3, none⟩ = some (.int .i64 a3) := cell_row rL 3 rfl
  have x4 : w4.cell? ⟨W.heap.size + 1, 4, none⟩ = some (.int .i64 a4) := cell_row rL 4 rfl
  have x5 : w4.cell? ⟨W.heap.size + 1, 5, none⟩ = some (.int .i64 a5) := cell_row rL 5 rfl
  have x6 : w4.cell? ⟨W.heap.size + 1, 6, none⟩ = some (.int .i64 a6) := cell_row rL 6 rfl
  have x7 : w4.cell? ⟨W.heap.size + 1, 7, none⟩ = some (.string s) := cell_row rL 7 rfl
  have hrec := logRec_any a0 a1 a2 a3 a4 a5 a6 s w4
  go_wp2_with fail
  refine Calls.mono hrec ?_
  rintro x w5 ⟨nv, rfl, hI, b2⟩
  have hdo := docRec_any hI HLI.out 2 (.inr (.inl rfl)) s hs8
  obtain ⟨nao, ncap, hnv, -⟩ := hI
  subst hnv
  clear hrec x0 x1 x2 x3 x4 x5 x6 x7
  have rS := (b2.block W.heap.size (by omega)).trans rS
  have rL := (b2.block (W.heap.size + 1) (by omega)).trans rL
  have rH := (b2.block (W.heap.size + 2) hz).trans rH
  have BB := BB.trans (b2.mono BB.size)
  have hz := Nat.lt_of_lt_of_le hz b2.size
  clear b2
  go_wp2_with fail
  refine Calls.mono hdo ?_
  rintro x w6 ⟨rfl, b3⟩
  clear hdo
  have rS := (b3.block W.heap.size (by omega)).trans rS
  have rL := (b3.block (W.heap.size + 1) (by omega)).trans rL
  have rH := (b3.block (W.heap.size + 2) hz).trans rH
  have BB := BB.trans (b3.mono BB.size)
  have hz := Nat.lt_of_lt_of_le hz b3.size
  clear b3
  have x0 : w6.cell? ⟨W.heap.size + 1, 0, none⟩ = some (.int .i64 a0) := cell_row rL 0 rfl
  have x1 : w6.cell? ⟨W.heap.size + 1, 1, none⟩ = some (.int .i64 a1) := cell_row rL 1 rfl
  have x2 : w6.cell? ⟨W.heap.size + 1, 2, none⟩ = some (.int .i64 a2) := cell_row rL 2 rfl
  have x3 : w6.cell? ⟨W.heap.size + 1, 3, none⟩ = some (.int .i64 a3) := cell_row rL 3 rfl
  have x4 : w6.cell? ⟨W.heap.size + 1, 4, none⟩ = some (.int .i64 a4) := cell_row rL 4 rfl
  have x5 : w6.cell? ⟨W.heap.size + 1, 5, none⟩ = some (.int .i64 a5) := cell_row rL 5 rfl
  have x6 : w6.cell? ⟨W.heap.size + 1, 6, none⟩ = some (.int .i64 a6) := cell_row rL 6 rfl
  have x7 : w6.cell? ⟨W.heap.size + 1, 7, none⟩ = some (.string s) := cell_row rL 7 rfl
  have hen := encodeLog_any ⟨a0, a1, a2, a3, a4, a5, a6, s⟩ HL.out w6
  have eR : strOf (drR 2 [a0, a1, a2, a3, a4, a5, a6] s) = strOf (elogR ⟨a0, a1, a2, a3, a4, a5, a6, s⟩) := by unfold drR elogR; rw [dr_log ⟨a0, a1, a2, a3, a4, a5, a6, s⟩]; rfl
  have eE : drE 2 [a0, a1, a2, a3, a4, a5, a6] s = elogE ⟨a0, a1, a2, a3, a4, a5, a6, s⟩ := by unfold drE elogE; rw [dr_log ⟨a0, a1, a2, a3, a4, a5, a6, s⟩]
  rw [eR, eE]
  generalize elogR ⟨a0, a1, a2, a3, a4, a5, a6, s⟩ = RR at hen
  generalize elogE ⟨a0, a1, a2, a3, a4, a5, a6, s⟩ = EE at hen
  clear eR eE
  go_wp2_with fail
  refine Calls.mono hen ?_
  rintro x w7 ⟨vv, rfl, hv, b4⟩
  have hst := run_string hv
  obtain ⟨vao, vm, vcap, hvv, hvm⟩ := hv.form'
  subst hvv
  clear hen hv hvm x0 x1 x2 x3 x4 x5 x6 x7
  have rS := (b4.block W.heap.size (by omega)).trans rS
  have rL := (b4.block (W.heap.size + 1) (by omega)).trans rL
  have rH := (b4.block (W.heap.size + 2) hz).trans rH
  have BB := BB.trans (b4.mono BB.size)
  have hz := Nat.lt_of_lt_of_le hz b4.size
  clear b4
  have x0 : w7.cell? ⟨W.heap.size + 2, 0, none⟩ = some (.int .i64 p) := cell_row rH 0 rfl
  have x1 : w7.cell? ⟨W.heap.size + 2, 1, none⟩ = some (.string d) := cell_row rH 1 rfl
  have hrec := homeRec_any p d w7
  go_wp2_with fail
  refine Calls.mono hrec ?_
  rintro x w8 ⟨nv, rfl, hI, b2⟩
  have hdo := docRec_any hI HHI.out 3 (.inr (.inr rfl)) d hd
  obtain ⟨nao, ncap, hnv, -⟩ := hI
  subst hnv
  clear hrec x0 x1
  have rS := (b2.block W.heap.size (by omega)).trans rS
  have rL := (b2.block (W.heap.size + 1) (by omega)).trans rL
  have rH := (b2.block (W.heap.size + 2) hz).trans rH
  have BB := BB.trans (b2.mono BB.size)
  have hz := Nat.lt_of_lt_of_le hz b2.size
  clear b2
  go_wp2_with fail
  refine Calls.mono hdo ?_
  rintro x w9 ⟨rfl, b3⟩
  clear hdo
  have rS := (b3.block W.heap.size (by omega)).trans rS
  have rL := (b3.block (W.heap.size + 1) (by omega)).trans rL
  have rH := (b3.block (W.heap.size + 2) hz).trans rH
  have BB := BB.trans (b3.mono BB.size)
  have hz := Nat.lt_of_lt_of_le hz b3.size
  clear b3
  have x0 : w9.cell? ⟨W.heap.size + 2, 0, none⟩ = some (.int .i64 p) := cell_row rH 0 rfl
  have x1 : w9.cell? ⟨W.heap.size + 2, 1, none⟩ = some (.string d) := cell_row rH 1 rfl
  have hen := encodeHome_any p d hp hd w9
  have eR : strOf (drR 3 [p] d) = strOf (ehomR p d) := by unfold drR ehomR; rw [dr_home]; rfl
  have eE : drE 3 [p] d = ehomE p d := by unfold drE ehomE; rw [dr_home]
  rw [eR, eE]
  generalize ehomR p d = RR at hen
  generalize ehomE p d = EE at hen
  clear eR eE
  go_wp2_with fail
  refine Calls.mono hen ?_
  rintro x w10 ⟨vv, rfl, hv, b4⟩
  have hst := run_string hv
  obtain ⟨vao, vm, vcap, hvv, hvm⟩ := hv.form'
  subst hvv
  clear hen hv hvm x0 x1
  have rS := (b4.block W.heap.size (by omega)).trans rS
  have rL := (b4.block (W.heap.size + 1) (by omega)).trans rL
  have rH := (b4.block (W.heap.size + 2) hz).trans rH
  have BB := BB.trans (b4.mono BB.size)
  have hz := Nat.lt_of_lt_of_le hz b4.size
  clear b4
  go_wp2
  go_ret
  exact ⟨rfl, BB⟩

/-! ### the row -/
theorem laidOut : laidOutB Try.prog = true := by kernel_rfl
theorem bytesInt : Try.prog.bytesOf 3 = 8 := by kernel_rfl
set_option maxRecDepth 100000 in
theorem lifted (os : Os) (started : os.Started) (H : Type) (enc : TypeId × Value → H) :
    ReturnsInHanded {} Try.checked os 3 .any (Rows.recordEncodesSpec.pre6 enc Try.prog Try.f3 Rows.recordEncodesRow.domain false) (Rows.recordEncodesSpec.post enc Try.prog Try.f3 false true false false) := by
  refine returnsInHanded_of_change_sized (C := Try.checked) own started (by kernel_rfl) Try.func3
    (ChangeSpec.witness6 (enc := enc) (C := Try.checked) false ⟨#[], #[.agg #[.int .i64 0, .int .i64 0, .int .i64 0], .agg #[.int .i64 0, .int .i64 0, .int .i64 0, .int .i64 0, .int .i64 0, .int .i64 0, .int .i64 0, .string ByteArray.empty], .agg #[.int .i64 0, .string ByteArray.empty]], []⟩ 8 (by kernel_rfl) (by kernel_rfl) (by kernel_rfl) (by kernel_rfl)) ?_
  intro W base args ds gs before hval0 hW hcnd hsz0 _
  have hval : ∀ (j : Nat) t v, Try.f3.params[j]? = some t → args[j]? = some v → Value.okWide Try.prog W .any base t v := hval0
  have hW' := hW
  obtain ⟨p, q, hA0, hV, rfl, hfz, hnd⟩ := hW
  have hA : DataW.TrodAll enc Try.prog W 0 (fun _ => true) true Try.f3.params.toList args.toList ds p := hA0
  have hsz : (DataW.weightsEach Try.prog (Try.f3.params.toList ++ Rows.recordEncodesSpec.plain.varTypes Try.prog) (ds ++ gs)).all (· ≤ reachBytes) = true := hsz0
  rw [Try.params3] at hA hval hsz
  obtain ⟨v0, vs0, d0, ds0, p0, q0, hargs, rfl, rfl, h0, r0⟩ := trodAll_cons hA
  obtain ⟨v1, vs1, d1, ds1, p1, q1, rfl, rfl, rfl, h1, r1⟩ := trodAll_cons r0
  obtain ⟨v2, vs2, d2, ds2, p2, q2, rfl, rfl, rfl, h2, r2⟩ := trodAll_cons r1
  obtain ⟨rfl, rfl, rfl⟩ := trodAll_nil r2
  obtain rfl : args = #[v0, v1, v2] := by cases args; simp_all
  obtain ⟨rfl, rfl⟩ := trodVars_none hV
  have k0 := h0
  have lt0 := args_lt k0
  obtain ⟨a0, b0, c0, rfl, x0, y0, z0⟩ := super_arg (hval 0 23 v0 rfl rfl) h0
  have k1 := h1
  have lt1 := args_lt k1
  obtain ⟨a1, rfl, x1⟩ := log_arg (hval 1 25 v1 rfl rfl) h1
  have k2 := h2
  have lt2 := args_lt k2
  obtain ⟨a2, b2, rfl, x2, y2⟩ := home_arg (hval 2 27 v2 rfl rfl) h2
  clear hA0 hval0 hsz0
  refine (walk a0 b0 c0 x0 y0 z0 a1 x1 a2 b2 x2 y2 W ).mono fun e W' ⟨he, bel⟩ => ?_
  subst he
  exact ⟨_, rfl, _, _, _, [], _, [], hW', trodAll_mk1 (shut_bool Try.underlying4 _), (trodAll_cons_mk (Below.trod laidOut (by kernel_rfl) (of_decide_eq_true (by kernel_rfl)) k0 bel lt0) (trodAll_cons_mk (Below.trod laidOut (by kernel_rfl) (of_decide_eq_true (by kernel_rfl)) k1 bel lt1) (trodAll_cons_mk (Below.trod laidOut (by kernel_rfl) (of_decide_eq_true (by kernel_rfl)) k2 bel lt2) trodAll_mk0))), rfl, bel.frame _, fun h => by cases h⟩

theorem over : Rows.recordEncodesRow.holds Try.pinned (OpenSpec.ofChange Rows.recordEncodesSpec) :=
  OpenClaim.holds_of_wide 3 Try.f3 rfl rfl rfl rfl rfl rfl rfl ⟨rfl, rfl, rfl, rfl, rfl⟩ rfl rfl rfl rfl rfl (by kernel_rfl) Try.func3 (by kernel_rfl)
    (of_decide_eq_true (by kernel_rfl)) (by unfold Func.isWrapper; first | (rw [if_pos (by decide +kernel)]; kernel_rfl) | (rw [if_neg (by decide +kernel)]; exact ⟨rfl, rfl⟩))
    (fun os started H enc _ => lifted os started H enc)
end Go.Proofs.Ytmkomhdlcbimoaa.recordEncodes

namespace Go.Proofs.Ytmkomhdlcbimoaa
/-- The law returns true at every input. -/
theorem recordEncodes_holds : Rows.RecordEncodesSaid := recordEncodes.over
end Go.Proofs.Ytmkomhdlcbimoaa

