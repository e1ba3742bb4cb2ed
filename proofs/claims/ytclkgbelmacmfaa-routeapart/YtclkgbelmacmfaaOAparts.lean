/- What is handed in stays as it is, spare room too; answers are memory of their own: the law cisternlaw13.RouteApart returns true at every input. No condition. -/
import Derived.Test.YtclkgbelmacmfaaOKnown
import Derived.Test.YtclkgbelmacmfaaOArgs
namespace Go.Proofs.Ytclkgbelmacmfaa.routeApart
set_option maxRecDepth 20000
open Go.RowKit Go.ChangeShapes Go.WideShapes Go.ChangeAt

theorem own : ownKnob Try.prog.godebug = none := by kernel_rfl
theorem made_emp (n : Nat) : (madeCells (Value.string ByteArray.empty).cells (n * 1)).toList = cells elS (List.replicate n ByteArray.empty) := by
  rw [Nat.mul_one]
  unfold madeCells
  have hz : (Value.string ByteArray.empty).cells = #[.string ByteArray.empty] := rfl
  rw [hz]
  apply List.ext_getElem
  · simp [cells]
  · intro i h1 h2
    simp [Nat.mod_one, cells, List.flatMap_replicate]
/-- 'append(make([]string, 0, len(l)+2), l...)': the row with all of its room -/
theorem in_full {w : World} {B : Nat} {x : Value} {l : List ByteArray} (hx : SlAt elS B w x l) (hB : B ≤ w.heap.size) :
    ∃ w1 w2, (Instr.makeSlice 23 (.int .i64 0) (.int .i64 ((l.length + 2 : Nat) : Int))).run Try.prog w = .ok (.slice (some ⟨w.heap.size, 0, none⟩) 0 (l.length + 2)) w1 ∧
      (Builtin.append_ #[23, 23] 23 #[.slice (some ⟨w.heap.size, 0, none⟩) 0 (l.length + 2), x]).run Try.prog w1 = .ok (.slice (some ⟨w.heap.size, 0, none⟩) l.length (l.length + 2)) w2 ∧
      OwnR elS w.heap.size w2 (.slice (some ⟨w.heap.size, 0, none⟩) (l.length + 2) (l.length + 2)) (l ++ [ByteArray.empty, ByteArray.empty]) ∧ Below w.heap.size w w2 := by
  obtain ⟨i, hi, hi0, hi1, hi2⟩ := okS.info
  have hl16 : l.length * 16 ≤ 140737488351232 := by obtain ⟨_, _, _, _, h, _⟩ := hx; exact h
  have hi1' : i.size = 1 := hi1
  have hi2' : i.bytes = 16 := hi2
  have hr := run_make (P := Try.prog) w 23 9 i (.string ByteArray.empty) Try.underlying23 hi hi0 .i64 .i64 0 ((l.length + 2 : Nat) : Int) (Int.le_refl _) (by omega) (by rw [hi2']; omega) (by omega)
  simp only [Int.toNat_zero, Int.toNat_natCast, hi1'] at hr
  have hmade := made_emp (l.length + 2)
  have hb1 := below_new w (.cells (madeCells (Value.string ByteArray.empty).cells ((l.length + 2) * 1)) 9)
  have hx1 := (hx.more hB).below hb1
  have hg : (w.alloc (.cells (madeCells (Value.string ByteArray.empty).cells ((l.length + 2) * 1)) 9)).heap[w.heap.size]? = some (.cells (madeCells (Value.string ByteArray.empty).cells ((l.length + 2) * 1)) 9 (0, 0)) := heap_alloc_new w _
  generalize madeCells (Value.string ByteArray.empty).cells ((l.length + 2) * 1) = cur at hr hmade hb1 hx1 hg
  have hcs : cur.size = l.length + 2 := by rw [← Array.length_toList, hmade, cells_length okS, List.length_replicate, Nat.mul_one]
  have hsz1 : (w.alloc (.cells cur 9)).heap.size = w.heap.size + 1 := by simp
  generalize w.alloc (.cells cur 9) = w1 at hr hb1 hx1 hg hsz1
  obtain ⟨bo, c, hxv, hxl, _, hxc⟩ := hx1
  subst hxv
  have hcl : (cells elS l).length = l.length := by rw [cells_length okS, Nat.mul_one]
  by_cases h0 : 0 < l.length
  · obtain ⟨b', off', rfl, _, hat⟩ := hxc h0
    have ha := run_append_room (P := Try.prog) w1 23 23 9 i Try.underlying23 hi w.heap.size 0 (l.length + 2) cur hg ⟨b', off', none⟩ l.length c (cells elS l) (by rw [hcl, hi1']; simp) (fun j u hu => by
        rw [Addr.add_mid]; exact hat j u hu) (cells_one okS l) (by omega) (by rw [hcl, hcs]; omega)
    rw [Nat.zero_add] at ha
    have hL : (l ++ [ByteArray.empty, ByteArray.empty]).length = l.length + 2 := by simp
    refine ⟨w1, _, hr, ha, ?_, ?_⟩
    · unfold OwnR
      rw [hL]
      refine ⟨?_, .inr ⟨w.heap.size, _, _, rfl, Nat.le_refl _, setRow_heap w1 w.heap.size cur _ _ _ hg, Nat.le_refl _, by unfold maxLen; omega, ?_, ?_⟩⟩
      · rw [cells_length okS, hL]
      · simp [hcl, hcs]
      · rw [hmade]
        simp only [Nat.zero_mul, List.take_zero, List.nil_append, Nat.zero_add, hcl]
        rw [cells_append, Nat.mul_one]
        have e : (cells elS (List.replicate (l.length + 2) ByteArray.empty)).drop l.length = cells elS [ByteArray.empty, ByteArray.empty] := by
          have h1 : List.replicate (l.length + 2) ByteArray.empty = List.replicate l.length ByteArray.empty ++ [ByteArray.empty, ByteArray.empty] := by
            rw [← List.replicate_append_replicate]; rfl
          rw [h1, cells_append]
          have h2 : (cells elS (List.replicate l.length ByteArray.empty)).length = l.length := by rw [cells_length okS, List.length_replicate, Nat.mul_one]
          generalize cells elS (List.replicate l.length ByteArray.empty) = A at h2
          rw [← h2, List.drop_append_of_le_length (Nat.le_refl _), List.drop_length, List.nil_append]
        rw [e, List.take_of_length_le]
        rw [List.length_append, hcl]; simp [cells]
    · exact hb1.trans ⟨rfl, rfl, rfl, by simp, fun k hk => setRow_other w1 w.heap.size k _ (by omega)⟩
  · have hnil : l = [] := List.eq_nil_of_length_eq_zero (by omega)
    subst hnil
    have hcs2 : cur.size = 2 := by simpa using hcs
    refine ⟨w1, w1, hr, run_append_none w1 23 23 9 Try.underlying23 i hi _ bo 0 2 c (by omega), ⟨by rw [cells_length okS], .inr ⟨w.heap.size, _, cur, rfl, Nat.le_refl _, hg, Nat.le_refl _, by simp [maxLen], by rw [hcs2]; rfl, ?_⟩⟩, hb1⟩
    rw [hmade]; rfl
/-- an own row of texts, whatever it holds -/
def AnyS (base : Nat) (w : World) (v : Value) : Prop := ∃ l, OwnR elS base w v l
theorem AnyS.cell {base : Nat} {w : World} {ao : Option Addr} {m cap k : Nat} (h : AnyS base w (.slice ao m cap)) (hk : k < m) :
    ∃ g, ao = some ⟨g, 0, none⟩ ∧ base ≤ g ∧ (∃ c, w.cell? ⟨g, k, none⟩ = some (.string c)) ∧ w.frozen? ⟨g, k, none⟩ = false ∧ ∀ x, AnyS base (w.setCell ⟨g, k, none⟩ (.string x)) (.slice (some ⟨g, 0, none⟩) m cap) := by
  obtain ⟨l, h⟩ := h
  have hh := h
  rcases h.2 with ⟨hv, hz⟩ | ⟨g, cap', cur, hv, hbg, hg, hr⟩
  · cases hv; omega
  · obtain ⟨rfl, hml, rfl⟩ : ao = some ⟨g, 0, none⟩ ∧ m = l.length ∧ cap = cap' := by cases hv; exact ⟨rfl, rfl, rfl⟩
    subst hml
    have ho : w.ownsRow base 9 1 (.slice (some ⟨g, 0, none⟩) l.length cap) l.length (cells elS l) := hh
    have h0 := World.ownsRow.cellAt ho k (by omega)
    have hc := cells_get okS l k (kAt l k) (by rw [← kAt_get hk, List.getElem?_eq_getElem hk]) 0 (by decide)
    rw [Nat.mul_one, Nat.add_zero] at hc
    refine ⟨g, rfl, hbg, ⟨kAt l k, by rw [h0, hc]; rfl⟩, World.ownsRow.frozenAt ho k, fun x => ?_⟩
    refine ⟨l.set k x, ?_⟩
    have := World.ownsRow.stored ho k (.string x)
    unfold OwnR
    rw [List.length_set, show cells elS (l.set k x) = (cells elS l).set k (.string x) by simp [cells, ← List.map_eq_flatMap, List.map_set]]
    exact this.1
theorem below_store {B g q : Nat} {w w' : World} (h : Below B w w') (hg : B ≤ g) (x : Value) : Below B w (w'.setCell ⟨g, q, none⟩ x) :=
  h.trans ⟨rfl, rfl, rfl, by simp [World.setCell], fun k hk => Below.heap_setCell w' _ x k (by simp; omega)⟩
theorem OwnR.cut {base g cap n : Nat} {w : World} {l r : List ByteArray} (h : OwnR elS base w (.slice (some ⟨g, 0, none⟩) n cap) (l ++ r)) : OwnR elS base w (.slice (some ⟨g, 0, none⟩) l.length cap) l := by
  refine ⟨cells_length okS l, ?_⟩
  rcases h.2 with ⟨hv, _⟩ | ⟨g', cap', cur, hv, hbg, hg, h1, h2, h3, h4⟩
  · cases hv
  · obtain ⟨rfl, -, rfl⟩ : g = g' ∧ n = (l ++ r).length ∧ cap = cap' := by cases hv; exact ⟨rfl, rfl, rfl⟩
    refine .inr ⟨g, cap, cur, rfl, hbg, hg, by rw [List.length_append] at h1; omega, h2, h3, ?_⟩
    have h5 := congrArg (List.take (l.length * 1)) h4
    have hcl : (cells elS l).length = l.length := by rw [cells_length okS, Nat.mul_one]
    have h6 : (cells elS (l ++ r)).take (l.length * 1) = cells elS l := by
      rw [cells_append, Nat.mul_one, ← hcl, List.take_append_of_le_length (Nat.le_refl _), List.take_length]
    rw [h6, List.take_take, Nat.mul_one, List.length_append] at h5
    rw [← h5, Nat.min_eq_left (by show l.length ≤ (l.length + r.length) * 1; omega)]
    rw [show elS.k = 1 from rfl, Nat.mul_one]
theorem kAt_app0 (l r : List ByteArray) (i : Nat) : kAt (l ++ r) (l.length + i) = kAt r i := by
  unfold kAt
  rw [List.getD_eq_getElem?_getD, List.getElem?_append_right (by omega), List.getD_eq_getElem?_getD]
  congr 2; omega
set_option maxHeartbeats 6400000 in
theorem walk (p : ByteArray) (hp : p.size ≤ maxLen) (v1 : Value) (z1 : List ByteArray) (W : World) (w1 : StrlArg W v1 z1) :
    Calls Try.prog 7 #[.string p, v1] W fun e w' => e = .returned (.bool true) ∧ Below W.heap.size W w' := by
  have kn := known_any W
  have pp := Lib.hid (fun w => parse_any p w)
  have pr := Lib.hid (fun w => refParse_any p hp w)
  have K := Lib.hid (ok10 (nsOf_ok p))
  have SL := Lib.hid w1.1
  obtain ⟨ao, am, ac, rfl, hm⟩ := w1.1.form
  have hl16 : am * 16 ≤ 140737488351232 := by
    obtain ⟨_, _, _, _, h, _⟩ := w1.1
    rw [hm.out]; exact h
  clear hp w1
  generalize nsOf p = ns at *
  generalize erOf p = E at *
  go_enter Try.func7, Try.ntmps7
  go_wp2_with fail
  refine Calls.mono kn ?_
  rintro e w1 ⟨rfl, b1⟩
  obtain ⟨wm, w2, rm, ra, hfull, b2⟩ := in_full (SL.out.below b1) b1.size
  have hb := b1.trans (b2.mono b1.size)
  have hin := OwnR.cut hfull
  have e16 : elS.bytes = 16 := rfl
  have sin := hin.at (by rw [e16, ← hm.out]; omega)
  rw [← hm.out] at rm ra hfull hin sin
  obtain ⟨g0, hg0⟩ : ∃ g0, w1.heap.size = g0 := ⟨_, rfl⟩
  rw [hg0] at rm ra hfull hin sin
  have RA := Lib.hid ra
  have rm' : ∀ z : Int, z = ((am + 2 : Nat) : Int) → (Instr.makeSlice 23 (.int .i64 0) (.int .i64 z)).run Try.prog w1 = .ok (.slice (some ⟨g0, 0, none⟩) 0 (am + 2)) wm := fun z hz => by rw [hz]; exact rm
  have rm2 := rm' ((am : Int) + 2) (by omega)
  have HF2 := Lib.hid hfull
  have hsz0 : g0 < w2.heap.size := by
    rcases hin.2 with ⟨hv, _⟩ | ⟨g, c', cur, hv, _, hg, _⟩
    · cases hv
    · cases hv; exact (Array.getElem?_eq_some_iff.1 hg).1
  have jo := join_any sin (Nat.le_refl _)
  have SIN := Lib.hid sin
  clear kn b1 b2 ra rm rm' hfull hin sin hg0
  go_wp2_with (with_reducible refine wpList_append_own rfl (.tmp 20) (.tmp 21) 23 23 rfl (.slice (some ⟨g0, 0, none⟩) 0 (am + 2)) (.slice ao am ac) (.slice (some ⟨g0, 0, none⟩) am (am + 2)) rfl rfl RA.out ?_)
  refine Calls.mono jo ?_
  rintro e w3 ⟨rfl, b3⟩
  have hb := Below.then hb b3 (Nat.le_refl _)
  have SIN := Lib.hid ((SIN.out.below b3).more b3.size)
  have HF3 := Lib.hid (HF2.out.below b3)
  have hsz0 := Nat.lt_of_lt_of_le hsz0 b3.size
  clear b3 jo rm2 HF2
  go_wp2_with fail
  refine Calls.mono (pp.out _) ?_
  rintro e w4 ⟨v, rfl, ho, b4⟩
  have any4 : AnyS w3.heap.size w4 v := ⟨_, ho⟩
  obtain ⟨bo, bm, bc, rfl, hbm⟩ := ho.form'
  have hbm10 : bm ≤ 10 := by rw [hbm.out]; exact K.out
  clear ho hbm
  go_wp2
  go_loopw [8] (fun iv wr => ∃ k : Nat, k ≤ bm ∧ iv = .int .i64 k ∧ Hid (AnyS w3.heap.size wr (.slice bo bm bc)) ∧ Below w3.heap.size w3 wr) (fun iv _ => bm - (intOf iv).toNat)
  case atStart => exact ⟨0, Nat.zero_le _, rfl, Lib.hid any4, b4⟩
  case round =>
    obtain ⟨k, hk, rfl, ha, hb2⟩ := hrel
    by_cases hlt : k < bm
    · obtain ⟨g, rfl, hgb, ⟨c, hcell⟩, hfree, hst⟩ := ha.out.cell hlt
      have ha2 := Lib.hid (hst ⟨#[33]⟩)
      have hb3 := below_store (q := k) hb2 hgb (.string ⟨#[33]⟩)
      clear hst ha
      go_wp2
      go_roundw
      case rel => exact ⟨k + 1, by omega, by go_num, ha2, hb3⟩
      case measure => simp [intOf]; omega
    · clear ha any4 b4
      go_wp2_with fail
      refine Calls.mono (pp.out _) ?_
      rintro e w5 ⟨v, rfl, ho, b5⟩
      have hb2 := Below.then hb2 b5 (Nat.le_refl _)
      have s1 := own_sl ho K.out
      obtain ⟨co, cm, cc, rfl, -⟩ := s1.form
      have S1 := Lib.hid s1
      clear b5 ho s1
      go_wp2_with fail
      refine Calls.mono (pr.out _) ?_
      rintro e w6 ⟨v, rfl, ho, b6⟩
      have hb2 := Below.then hb2 b6 (Nat.le_refl _)
      have s2 := own_sl ho K.out
      obtain ⟨d0, dm, dc, rfl, -⟩ := s2.form
      have S1 := Lib.hid ((S1.out.below b6).more b6.size)
      have S2 := Lib.hid s2
      clear b6 ho s2
      have HF6 := Lib.hid (HF3.out.below hb2)
      have SIN := Lib.hid ((SIN.out.below hb2).more hb2.size)
      have hb := Below.then hb hb2 (Nat.le_refl _)
      have rs := fun w' => slS_to (some ⟨g0, 0, none⟩) (n := am) (c := am + 2) (k := am + 2) (Nat.le_refl _) w'
      have rs' : ∀ (z : Int) (w' : World), z = ((am + 2 : Nat) : Int) → (Instr.sliceAt 23 (.slice (some ⟨g0, 0, none⟩) am (am + 2)) none (some (.int .i64 z)) none).run Try.prog w' = .ok (.slice (some ⟨g0, 0, none⟩) (am + 2) (am + 2)) w' := fun z w' hz => by rw [hz]; exact rs w'
      have rs2 := fun w' => rs' ((am : Int) + 2) w' (by omega)
      clear rs rs' HF3 hb2
      go_wp2
      go_loopw [14] (fun iv wr => ∃ k : Nat, am ≤ k ∧ k ≤ am + 2 ∧ iv = .int .i64 k ∧ Below w6.heap.size w6 wr) (fun iv _ => am + 2 - (intOf iv).toNat)
      case atStart => exact ⟨am, Nat.le_refl _, by omega, rfl, Below.refl _ _⟩
      case round =>
        obtain ⟨k, hk1, hk2, rfl, hb3⟩ := hrel
        by_cases hlt : k < am + 2
        · have hcl : (z1 ++ [ByteArray.empty, ByteArray.empty])[k]? = some ByteArray.empty := by
            rw [List.getElem?_append_right (by rw [← hm.out]; exact hk1), ← hm.out]
            match k - am, (by omega : k - am < 2) with
            | 0, _ => rfl
            | 1, _ => rfl
          have hcc := cells_get okS _ _ _ hcl 0 (by decide)
          rw [show elS.k = 1 from rfl, Nat.mul_one, Nat.add_zero] at hcc
          obtain ⟨b, hv, -, hcell⟩ := ownsRow_cell (HF6.out.below hb3) (j := k) (u := .string ByteArray.empty) (by rw [hcc]; rfl)
          obtain rfl : g0 = b := by injection hv with h; injection h
          clear hcl hcc hv
          go_wp2
          go_roundw
          case rel => exact ⟨k + 1, by omega, by omega, by go_num, hb3⟩
          case measure => simp [intOf]; omega
        · have hlt' : ¬ ((k : Int) < (am : Int) + 2) := by omega
          have sm := refSame_any ((S1.out.below hb3).more hb3.size) ((S2.out.below hb3).more hb3.size) (Nat.le_refl _) (Nat.le_refl _)
          rw [decide_eq_true (rfl : ns = ns)] at sm
          have hb := Below.then hb hb3 (Nat.le_refl _)
          have SIN := Lib.hid ((SIN.out.below hb3).more hb3.size)
          clear S1 S2 HF6 hb3
          go_wp2_with fail
          refine Calls.mono sm ?_
          rintro e w7 ⟨rfl, b7⟩
          have hb := Below.then hb b7 (Nat.le_refl _)
          have sn := refSame_any ((SIN.out.below b7).more b7.size) (SL.out.below hb) (Nat.le_refl _) hb.size
          rw [decide_eq_true (rfl : z1 = z1)] at sn
          clear sm b7 SIN
          go_wp2_with fail
          refine Calls.mono sn ?_
          rintro e w8 ⟨rfl, b8⟩
          have hb := Below.then hb b8 (Nat.le_refl _)
          clear sn b8
          go_wp2
          go_ret
          exact ⟨rfl, hb⟩

/-! ### the row -/
theorem laidOut : laidOutB Try.prog = true := by kernel_rfl
theorem bytesInt : Try.prog.bytesOf 3 = 8 := by kernel_rfl
set_option maxRecDepth 100000 in
theorem lifted (os : Os) (started : os.Started) (H : Type) (enc : TypeId × Value → H) :
    ReturnsInHanded {} Try.checked os 7 .any (Rows.routeApartSpec.pre6 enc Try.prog Try.f7 Rows.routeApartRow.domain false) (Rows.routeApartSpec.post enc Try.prog Try.f7 false true false false) := by
  refine returnsInHanded_of_change_sized (C := Try.checked) own started (by kernel_rfl) Try.func7
    (ChangeSpec.witness6 (enc := enc) (C := Try.checked) false ⟨#[], #[.string ByteArray.empty, .slice none 0 0], []⟩ 8 (by kernel_rfl) (by kernel_rfl) (by kernel_rfl) (by kernel_rfl)) ?_
  intro W base args ds gs before hval0 hW hcnd hsz0 _
  have hval : ∀ (j : Nat) t v, Try.f7.params[j]? = some t → args[j]? = some v → Value.okWide Try.prog W .any base t v := hval0
  have hW' := hW
  obtain ⟨p, q, hA0, hV, rfl, hfz, hnd⟩ := hW
  have hA : DataW.TrodAll enc Try.prog W 0 (fun _ => true) true Try.f7.params.toList args.toList ds p := hA0
  have hsz : (DataW.weightsEach Try.prog (Try.f7.params.toList ++ Rows.routeApartSpec.plain.varTypes Try.prog) (ds ++ gs)).all (· ≤ reachBytes) = true := hsz0
  rw [Try.params7] at hA hval hsz
  obtain ⟨v0, vs0, d0, ds0, p0, q0, hargs, rfl, rfl, h0, r0⟩ := trodAll_cons hA
  obtain ⟨v1, vs1, d1, ds1, p1, q1, rfl, rfl, rfl, h1, r1⟩ := trodAll_cons r0
  obtain ⟨rfl, rfl, rfl⟩ := trodAll_nil r1
  obtain rfl : args = #[v0, v1] := by cases args; simp_all
  obtain ⟨rfl, rfl⟩ := trodVars_none hV
  obtain ⟨a0, rfl, rfl, rfl, w0⟩ := Go.ChangeMaps.open_string Try.underlying9 (hval 0 9 v0 rfl rfl) h0
  have k1 := h1
  have lt1 := args_lt k1
  obtain ⟨z1, w1⟩ := strl_arg (hval 1 23 v1 rfl rfl) (fun k hk => of_decide_eq_true (List.all_eq_true.1 hsz _ (DataW.weights_mem_each (j := 1) (t := 23) (d := d1) rfl rfl k hk))) h1
  clear hA0 hval0 hsz0
  refine (walk a0 w0 v1 z1 W w1).mono fun e W' ⟨he, bel⟩ => ?_
  subst he
  exact ⟨_, rfl, _, _, _, [], _, [], hW', trodAll_mk1 (shut_bool Try.underlying4 _), (trodAll_cons_mk (Go.ChangeMaps.shut_string Try.underlying9 w0) (trodAll_cons_mk (Below.trod laidOut (by kernel_rfl) (of_decide_eq_true (by kernel_rfl)) k1 bel lt1) trodAll_mk0)), rfl, bel.frame _, fun h => by cases h⟩

theorem over : Rows.routeApartRow.holds Try.pinned (OpenSpec.ofChange Rows.routeApartSpec) :=
  OpenClaim.holds_of_wide 7 Try.f7 rfl rfl rfl rfl rfl rfl rfl ⟨rfl, rfl, rfl, rfl, rfl⟩ rfl rfl rfl rfl rfl (by kernel_rfl) Try.func7 (by kernel_rfl)
    (of_decide_eq_true (by kernel_rfl)) (by unfold Func.isWrapper; first | (rw [if_pos (by decide +kernel)]; kernel_rfl) | (rw [if_neg (by decide +kernel)]; exact ⟨rfl, rfl⟩))
    (fun os started H enc _ => lifted os started H enc)
end Go.Proofs.Ytclkgbelmacmfaa.routeApart

namespace Go.Proofs.Ytclkgbelmacmfaa
/-- The law returns true at every input. -/
theorem routeApart_holds : Rows.RouteApartSaid := routeApart.over
end Go.Proofs.Ytclkgbelmacmfaa

