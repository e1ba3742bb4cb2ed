/- Going from parent to parent comes to the root in as many steps as there are names: the law cisternlaw13.RouteParents returns true at every input. No condition. -/
import Derived.Test.YtclkgbelmacmfaaOKnown
import Derived.Test.YtclkgbelmacmfaaOArgs
namespace Go.Proofs.Ytclkgbelmacmfaa.routeParents
set_option maxRecDepth 20000
open Go.RowKit Go.ChangeShapes Go.WideShapes Go.ChangeAt

theorem own : ownKnob Try.prog.godebug = none := by kernel_rfl
theorem ns_path {ns : List ByteArray} (h : okNs ns = true) : nsOf (txt (pathL ns)) = ns ∧ erOf (txt (pathL ns)) = 0 := by
  unfold nsOf erOf; rw [bl_txt, parse_path h]; exact ⟨rfl, rfl⟩
theorem step_up {ns : List ByteArray} (h : okNs ns = true) {i : Nat} (hi : i < ns.length) :
    paUp (txt (pathL (ns.take (i + 1)))) = txt (pathL (ns.take i)) ∧ paNm (txt (pathL (ns.take (i + 1)))) = kAt ns i ∧ paE (txt (pathL (ns.take (i + 1)))) = 0 := by
  obtain ⟨h1, -⟩ := ns_path (okNs_take h (i + 1))
  obtain ⟨a, b, c⟩ := pa_some (p := txt (pathL (ns.take (i + 1)))) (k := i) (by rw [h1, List.length_take]; omega)
  rw [h1] at a b
  refine ⟨by rw [a, List.take_take, Nat.min_eq_left (by omega)], ?_, c⟩
  rw [b]
  unfold kAt
  rw [List.getD_eq_getElem?_getD, List.getElem?_take, if_pos (by omega), List.getD_eq_getElem?_getD]
theorem below_up {ns : List ByteArray} (h : okNs ns = true) {i : Nat} (hi : i < ns.length) : unB (txt (pathL ns)) (txt (pathL (ns.take i))) = true ∧ unE (txt (pathL ns)) (txt (pathL (ns.take i))) = 0 := by
  obtain ⟨a1, a2⟩ := ns_path h
  obtain ⟨b1, b2⟩ := ns_path (okNs_take h i)
  obtain ⟨c1, c2⟩ := un_both a2 b2
  refine ⟨?_, c2⟩
  rw [c1, a1, b1]
  have hl : (ns.take i).length = i := by rw [List.length_take]; omega
  unfold isUnder
  rw [hl, decide_eq_true hi, decide_eq_true rfl]; rfl
set_option maxHeartbeats 6400000 in
theorem walk (p : ByteArray) (_ : p.size ≤ maxLen) (W : World) :
    Calls Try.prog 8 #[.string p] W fun e w' => e = .returned (.bool true) ∧ Below W.heap.size W w' := by
  have kn := known_any W
  have pp := Lib.hid (fun w => parse_any p w)
  rcases erOf_cases p with ⟨he, -, hok, hp⟩ | ⟨he, -, hn⟩
  · have PA := Lib.hid (fun (i : Nat) (hi : i < (nsOf p).length) => step_up hok hi)
    have UN := Lib.hid (fun (i : Nat) (hi : i < (nsOf p).length) => below_up hok hi)
    have K := Lib.hid (ok10 hok)
    rw [he] at pp
    rw [← hp] at UN
    have HP := Lib.hid (show p = txt (pathL ((nsOf p).take (nsOf p).length)) by rw [List.take_length]; exact hp)
    clear he hok hp
    generalize nsOf p = ns at *
    go_enter Try.func8, Try.ntmps8
    go_wp2_with fail
    refine Calls.mono kn ?_
    rintro e w1 ⟨rfl, hb⟩
    clear kn
    go_wp2_with fail
    refine Calls.mono (pp.out _) ?_
    rintro e w2 ⟨v, rfl, ho, b2⟩
    have hb := Below.then hb b2 (Nat.le_refl _)
    have s1 := own_sl ho K.out
    obtain ⟨ao, am, ac, rfl, hm⟩ := s1.form
    have S1 := Lib.hid s1
    have h10 : am ≤ 10 := by rw [hm.out]; exact K.out
    clear b2 pp ho s1
    go_wp2
    go_loopw [8, 9] (fun av iv wr => ∃ (j : Nat) (z : Int) (a : ByteArray), j ≤ am ∧ iv = .int .i64 z ∧ av = .string a ∧ Hid (z = (j : Int) - 1 ∧ a = txt (pathL (ns.take j))) ∧ Below w2.heap.size w2 wr) (fun _ iv _ => (intOf iv + 1).toNat)
    case atStart => exact ⟨am, (am : Int) - 1, p, Nat.le_refl _, by go_num, rfl, Lib.hid ⟨rfl, by rw [hm.out]; exact HP.out⟩, Below.refl _ _⟩
    case round =>
      obtain ⟨j, z, a, hj, rfl, rfl, hz, hb2⟩ := hrel
      by_cases h0 : j = 0
      · have hz1 : z = -1 := by rw [hz.out.1, h0]; rfl
        have ha : a = ⟨#[47]⟩ := by rw [hz.out.2, h0]; rfl
        subst hz1; subst ha
        have hb := Below.then hb hb2 (Nat.le_refl _)
        clear hz h0 HP
        go_wp2
        go_ret
        exact ⟨rfl, hb⟩
      · obtain ⟨i, rfl⟩ : ∃ i, j = i + 1 := ⟨j - 1, by omega⟩
        have hz1 : z = (i : Int) := by rw [hz.out.1]; omega
        subst hz1
        have hil : i < ns.length := by rw [← hm.out]; omega
        obtain ⟨q1, q2, q3⟩ := PA.out i hil
        obtain ⟨u1, u2⟩ := UN.out i hil
        have pa := fun w' => parent_any a w'
        rw [hz.out.2, q1, q2, q3, ← hz.out.2] at pa
        have un := fun w' => under_any p (txt (pathL (ns.take i))) w'
        rw [u1, u2] at un
        obtain ⟨b, off, cap', hv, hB, hc⟩ := S1.out.getS hil
        obtain ⟨rfl, rfl⟩ : ao = some ⟨b, off, none⟩ ∧ ac = cap' := by injection hv with h1 _ h3; exact ⟨h1, h3⟩
        have d1 := (hb2.cell (p := ⟨b, off + i, none⟩) hB).trans hc
        have hBr : b < wr.heap.size := Nat.lt_of_lt_of_le hB hb2.size
        obtain ⟨x, hx⟩ : ∃ x, kAt ns i = x := ⟨_, rfl⟩
        obtain ⟨U, hU⟩ : ∃ U, txt (pathL (ns.take i)) = U := ⟨_, rfl⟩
        rw [hU] at pa un
        rw [hx] at pa d1
        have HU := Lib.hid hU
        have hia : i < am := by omega
        have hxx : (x.toList == x.toList) = true := by simp
        clear hv hc hil q1 q2 q3 u1 u2 hx hU h0 hz hB
        go_wp2_with fail
        refine Calls.mono (pa _) ?_
        rintro e w3 ⟨rfl, b3⟩
        have hb2 := Below.then hb2 b3 (Nat.le_refl _)
        have d1 := (b3.cell (p := ⟨b, off + i, none⟩) hBr).trans d1
        have hBr := Nat.lt_of_lt_of_le hBr b3.size
        clear b3 pa
        go_wp2_with fail
        refine Calls.mono (un _) ?_
        rintro e w4 ⟨rfl, b4⟩
        have hb2 := Below.then hb2 b4 (Nat.le_refl _)
        have d1 := (b4.cell (p := ⟨b, off + i, none⟩) hBr).trans d1
        clear b4 un hBr
        go_wp2
        go_roundw
        case rel => exact ⟨i, (i : Int) - 1, U, by omega, by go_num, rfl, Lib.hid ⟨rfl, HU.out.symm⟩, hb2⟩
        case measure => simp [intOf]
  · have pa := Lib.hid (fun w => parent_any p w)
    obtain ⟨q1, q2, q3⟩ := pa_none hn
    rw [q1, q2, q3] at pa
    rw [he] at pp
    clear q1 q2 q3 he hn
    go_enter Try.func8, Try.ntmps8
    go_wp2_with fail
    refine Calls.mono kn ?_
    rintro e w1 ⟨rfl, hb⟩
    clear kn
    go_wp2_with fail
    refine Calls.mono (pp.out _) ?_
    rintro e w2 ⟨v, rfl, ho, b2⟩
    have hb := Below.then hb b2 (Nat.le_refl _)
    obtain ⟨ao, am, ac, rfl, hm⟩ := ho.form'
    clear b2 pp ho hm
    go_wp2_with fail
    refine Calls.mono (pa.out _) ?_
    rintro e w3 ⟨rfl, b3⟩
    have hb := Below.then hb b3 (Nat.le_refl _)
    clear b3 pa
    go_wp2
    go_ret
    exact ⟨rfl, hb⟩

/-! ### the row -/
theorem laidOut : laidOutB Try.prog = true := by kernel_rfl
theorem bytesInt : Try.prog.bytesOf 3 = 8 := by kernel_rfl
set_option maxRecDepth 100000 in
theorem lifted (os : Os) (started : os.Started) (H : Type) (enc : TypeId × Value → H) :
    ReturnsInHanded {} Try.checked os 8 .any (Rows.routeParentsSpec.pre6 enc Try.prog Try.f8 Rows.routeParentsRow.domain false) (Rows.routeParentsSpec.post enc Try.prog Try.f8 false true false false) := by
  refine returnsInHanded_of_change_sized (C := Try.checked) own started (by kernel_rfl) Try.func8
    (ChangeSpec.witness6 (enc := enc) (C := Try.checked) false ⟨#[], #[.string ByteArray.empty], []⟩ 8 (by kernel_rfl) (by kernel_rfl) (by kernel_rfl) (by kernel_rfl)) ?_
  intro W base args ds gs before hval0 hW hcnd hsz0 _
  have hval : ∀ (j : Nat) t v, Try.f8.params[j]? = some t → args[j]? = some v → Value.okWide Try.prog W .any base t v := hval0
  have hW' := hW
  obtain ⟨p, q, hA0, hV, rfl, hfz, hnd⟩ := hW
  have hA : DataW.TrodAll enc Try.prog W 0 (fun _ => true) true Try.f8.params.toList args.toList ds p := hA0
  have hsz : (DataW.weightsEach Try.prog (Try.f8.params.toList ++ Rows.routeParentsSpec.plain.varTypes Try.prog) (ds ++ gs)).all (· ≤ reachBytes) = true := hsz0
  rw [Try.params8] at hA hval hsz
  obtain ⟨v0, vs0, d0, ds0, p0, q0, hargs, rfl, rfl, h0, r0⟩ := trodAll_cons hA
  obtain ⟨rfl, rfl, rfl⟩ := trodAll_nil r0
  obtain rfl : args = #[v0] := by cases args; simp_all
  obtain ⟨rfl, rfl⟩ := trodVars_none hV
  obtain ⟨a0, rfl, rfl, rfl, w0⟩ := Go.ChangeMaps.open_string Try.underlying9 (hval 0 9 v0 rfl rfl) h0
  clear hA0 hval0 hsz0
  refine (walk a0 w0 W ).mono fun e W' ⟨he, bel⟩ => ?_
  subst he
  exact ⟨_, rfl, _, _, _, [], _, [], hW', trodAll_mk1 (shut_bool Try.underlying4 _), (trodAll_cons_mk (Go.ChangeMaps.shut_string Try.underlying9 w0) trodAll_mk0), rfl, bel.frame _, fun h => by cases h⟩

theorem over : Rows.routeParentsRow.holds Try.pinned (OpenSpec.ofChange Rows.routeParentsSpec) :=
  OpenClaim.holds_of_wide 8 Try.f8 rfl rfl rfl rfl rfl rfl rfl ⟨rfl, rfl, rfl, rfl, rfl⟩ rfl rfl rfl rfl rfl (by kernel_rfl) Try.func8 (by kernel_rfl)
    (of_decide_eq_true (by kernel_rfl)) (by unfold Func.isWrapper; first | (rw [if_pos (by decide +kernel)]; kernel_rfl) | (rw [if_neg (by decide +kernel)]; exact ⟨rfl, rfl⟩))
    (fun os started H enc _ => lifted os started H enc)
end Go.Proofs.Ytclkgbelmacmfaa.routeParents

namespace Go.Proofs.Ytclkgbelmacmfaa
/-- The law returns true at every input. -/
theorem routeParents_holds : Rows.RouteParentsSaid := routeParents.over
end Go.Proofs.Ytclkgbelmacmfaa

