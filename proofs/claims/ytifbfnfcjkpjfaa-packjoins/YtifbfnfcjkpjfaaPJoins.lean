/- The bytes of two lists, one behind the other, are the bytes of one list: the law cisternlaw03.PackJoins returns true at every input. No condition. -/
import Derived.Test.YtifbfnfcjkpjfaaPIArgs
namespace Go.Proofs.Ytifbfnfcjkpjfaa.packJoins
open Go.RowKit Go.ChangeShapes Go.WideShapes Go.ChangeAt

theorem own : ownKnob Try.prog.godebug = none := by kernel_rfl
theorem enc_join {l m : List It} (h1 : encE l = 0) (h2 : encE m = 0) (h3 : l.length + m.length ≤ 4000) : encE (l ++ m) = 0 ∧ encR (l ++ m) = encR l ++ encR m := by
  obtain ⟨a1, a2⟩ := encE_ok h1
  obtain ⟨b1, b2⟩ := encE_ok h2
  have hE : encE (l ++ m) = 0 := by
    unfold bigB at a1 b1
    rw [Bool.or_eq_false_iff] at a1 b1
    have hb : bigB (l ++ m) = false := by
      unfold bigB; rw [Bool.or_eq_false_iff, List.any_append, a1.2, b1.2]
      exact ⟨by simp; omega, rfl⟩
    unfold encE; rw [hb, List.all_append, a2, b2]; rfl
  exact ⟨hE, by rw [encR_ok hE, encR_ok h1, encR_ok h2, List.flatMap_append]⟩
theorem strOf_append (a b : List UInt8) : strOf (a ++ b) = strOf a ++ strOf b := by
  unfold strOf
  apply WideShapes.bytes_inj
  simp
theorem flat_len (l : List It) (h : ∀ x ∈ l, (itemB x).length ≤ 50003) : (l.flatMap itemB).length ≤ l.length * 50003 := by
  induction l with
  | nil => simp
  | cons x r ih =>
    rw [List.flatMap_cons, List.length_append, List.length_cons]
    have := h x (List.mem_cons_self ..)
    have := ih (fun y hy => h y (List.mem_cons_of_mem _ hy))
    omega
theorem encR_len {l : List It} (h : encE l = 0) (hok : ∀ x ∈ l, x.ok) : (strOf (encR l)).size ≤ 200012000 := by
  show (List.toArray _).size ≤ _
  rw [List.size_toArray, encR_ok h]
  obtain ⟨h1, h2⟩ := enc_facts h hok
  have := flat_len l (fun x hx => item_len (form_size (h2 x hx).1 (h2 x hx).2.1))
  omega
theorem own_emptyI (w : World) : OwnI w.heap.size (w.alloc (.cells #[] 50)) (.slice (some ⟨w.heap.size, 0, none⟩) 0 0) [] :=
  ⟨rfl, .inr ⟨w.heap.size, 0, #[], rfl, Nat.le_refl _, heap_alloc_new w _, Nat.le_refl _, Nat.zero_le _, rfl, rfl⟩⟩
set_option maxRecDepth 20000 in
set_option maxHeartbeats 1600000 in
theorem walk (v : Value) (l : List It) (u : Value) (m : List It) (W : World) (hl : ItemsArg W v l) (hm : ItemsArg W u m) :
    Calls Try.prog 9 #[v, u] W fun e w' => e = .returned (.bool true) ∧ Below W.heap.size W w' := by
  obtain ⟨il, sl⟩ := hl
  obtain ⟨im, sm⟩ := hm
  obtain ⟨ao, lm, cap, hv, hlm⟩ : ∃ ao n cap, v = .slice ao n cap ∧ Hid (n = l.length) := by
    obtain ⟨ao, cap, hv, _⟩ := il
    exact ⟨ao, _, cap, hv, Lib.hid rfl⟩
  obtain ⟨bo, mm, bap, hu, hmm⟩ : ∃ ao n cap, u = .slice ao n cap ∧ Hid (n = m.length) := by
    obtain ⟨ao, cap, hv, _⟩ := im
    exact ⟨ao, _, cap, hv, Lib.hid rfl⟩
  subst hv
  subst hu
  have slm : lm * 32 ≤ 140737488351232 := by rw [hlm.out]; exact sl
  have smm : mm * 32 ≤ 140737488351232 := by rw [hmm.out]; exact sm
  by_cases hE : encE l = 0
  · by_cases hF : encE m = 0
    · by_cases hS : lm + mm ≤ 4000
      · have hj := enc_join hE hF (by rw [← hlm.out, ← hmm.out]; exact hS)
        go_enter Try.func9, Try.ntmps9
        go_wp2_with fail
        refine (known_any _).mono ?_
        rintro e w1 ⟨rfl, b1⟩
        have he := encode_any ((il.below b1).more b1.size)
        rw [hE] at he
        go_wp2_with fail
        refine he.mono ?_
        rintro e w2 ⟨v2, rfl, h2, b2⟩
        have bb2 := b1.trans (b2.mono b1.size)
        have hf := encode_any ((im.below bb2).more bb2.size)
        rw [hF] at hf
        obtain ⟨ao2, m2, cap2, hv2, hm2⟩ := h2.form'
        subst hv2
        go_wp2_with fail
        refine hf.mono ?_
        rintro e w3 ⟨v3, rfl, h3, b3⟩
        have bb3 := bb2.trans (b3.mono bb2.size)
        obtain ⟨ao3, m3, cap3, hv3, hm3⟩ := h3.form'
        subst hv3
        clear he hf
        have bn : Below W.heap.size W (w3.alloc (.cells #[] 50)) := bb3.alloc bb3.size _
        obtain ⟨v4, w4, hr4, h4, b4, s4⟩ := own_append_items (own_emptyI w3) (il.below bn) (by rw [← hlm.out]; simp; omega) (by simp) 22
        have bw4 : Below w3.heap.size w3 w4 := (below_new w3 (.cells #[] 50)).trans b4
        have bb4 := bb3.trans (bw4.mono bb3.size)
        obtain ⟨v5, w5, hr5, h5, b5, s5⟩ := own_append_items h4 (im.below bb4) (by rw [List.nil_append, ← hlm.out, ← hmm.out]; omega) bw4.size 22
        have bw5 := bw4.trans b5
        have bb5 := bb3.trans (bw5.mono bb3.size)
        rw [List.nil_append] at h5
        have hg := encode_any (h5.items (fun x hx => by
          rcases List.mem_append.1 hx with e | e
          · obtain ⟨_, _, _, _, _, hok, _⟩ := il; exact hok x e
          · obtain ⟨_, _, _, _, _, hok, _⟩ := im; exact hok x e))
        rw [hj.1, hj.2] at hg
        obtain ⟨ao4, m4, cap4, hv4, hm4⟩ := h4.form'
        subst hv4
        obtain ⟨ao5, m5, cap5, hv5, hm5⟩ := h5.form'
        subst hv5
        have HR4 := Lib.hid hr4
        have HR5 := Lib.hid hr5
        have A2 : ByC w5 (.slice ao2 m2 cap2) (encR l) := (h2.at.below b3).below bw5
        have A3 : ByC w5 (.slice ao3 m3 cap3) (encR m) := h3.at.below bw5
        have z1 := encR_len hE (by obtain ⟨_, _, _, _, _, hok, _⟩ := il; exact hok)
        have z2 := encR_len hF (by obtain ⟨_, _, _, _, _, hok, _⟩ := im; exact hok)
        clear hr4 hr5 h4 h5 b4 b5 s4 s5 h2 h3 b1 b2 b3 bn il im hj
        go_wp2_with (first
          | (with_reducible refine wpList_append_eq rfl (.tmp 38) (.tmp 39) 22 22 rfl (.slice (some ⟨w3.heap.size, 0, none⟩) 0 0) (.slice ao lm cap) (.slice ao4 m4 cap4) rfl rfl HR4.out ?_)
          | (with_reducible refine wpList_append_eq rfl (.tmp 40) (.tmp 41) 22 22 rfl (.slice ao4 m4 cap4) (.slice bo mm bap) (.slice ao5 m5 cap5) rfl rfl HR5.out ?_))
        refine hg.mono ?_
        rintro e w6 ⟨v6, rfl, h6, b6⟩
        have c6 := run_string h6
        have c2 := run_string_c (A2.below b6)
        have c3 := run_string_c (A3.below b6)
        have bb6 := bb5.trans (b6.mono bb5.size)
        obtain ⟨ao6, m6, cap6, hv6, hm6⟩ := h6.form'
        subst hv6
        have hq := strOf_append (encR l) (encR m)
        rw [hq] at c6
        clear hg h6 b6 A2 A3 hq
        go_wp2
        go_ret
        exact ⟨rfl, bb6⟩
      · go_enter Try.func9, Try.ntmps9
        go_wp2_with fail
        refine (known_any _).mono ?_
        rintro e w1 ⟨rfl, b1⟩
        have he := encode_any ((il.below b1).more b1.size)
        rw [hE] at he
        go_wp2_with fail
        refine he.mono ?_
        rintro e w2 ⟨v2, rfl, h2, b2⟩
        have bb2 := b1.trans (b2.mono b1.size)
        have hf := encode_any ((im.below bb2).more bb2.size)
        rw [hF] at hf
        obtain ⟨ao2, m2, cap2, hv2, hm2⟩ := h2.form'
        subst hv2
        go_wp2_with fail
        refine hf.mono ?_
        rintro e w3 ⟨v3, rfl, h3, b3⟩
        have bb3 := bb2.trans (b3.mono bb2.size)
        obtain ⟨ao3, m3, cap3, hv3, hm3⟩ := h3.form'
        subst hv3
        clear he hf h2 h3 b1 b2 b3
        go_wp2
        go_ret
        exact ⟨rfl, bb3⟩
    · have hq : (encE m != 0) = true := by simpa using hF
      go_enter Try.func9, Try.ntmps9
      go_wp2_with fail
      refine (known_any _).mono ?_
      rintro e w1 ⟨rfl, b1⟩
      have he := encode_any ((il.below b1).more b1.size)
      rw [hE] at he
      go_wp2_with fail
      refine he.mono ?_
      rintro e w2 ⟨v2, rfl, h2, b2⟩
      have bb2 := b1.trans (b2.mono b1.size)
      have hf := encode_any ((im.below bb2).more bb2.size)
      obtain ⟨ao2, m2, cap2, hv2, hm2⟩ := h2.form'
      subst hv2
      go_wp2_with fail
      refine hf.mono ?_
      rintro e w3 ⟨v3, rfl, h3, b3⟩
      have bb3 := bb2.trans (b3.mono bb2.size)
      obtain ⟨ao3, m3, cap3, hv3, hm3⟩ := h3.form'
      subst hv3
      clear he hf h2 h3 b1 b2 b3 hF
      go_wp2
      go_ret
      exact ⟨rfl, bb3⟩
  · have hq : (encE l != 0) = true := by simpa using hE
    go_enter Try.func9, Try.ntmps9
    go_wp2_with fail
    refine (known_any _).mono ?_
    rintro e w1 ⟨rfl, b1⟩
    have he := encode_any ((il.below b1).more b1.size)
    go_wp2_with fail
    refine he.mono ?_
    rintro e w2 ⟨v2, rfl, h2, b2⟩
    have bb2 := b1.trans (b2.mono b1.size)
    have hf := encode_any ((im.below bb2).more bb2.size)
    obtain ⟨ao2, m2, cap2, hv2, hm2⟩ := h2.form'
    subst hv2
    go_wp2_with fail
    refine hf.mono ?_
    rintro e w3 ⟨v3, rfl, h3, b3⟩
    have bb3 := bb2.trans (b3.mono bb2.size)
    obtain ⟨ao3, m3, cap3, hv3, hm3⟩ := h3.form'
    subst hv3
    clear he hf h2 h3 b1 b2 b3 hE
    go_wp2
    go_ret
    exact ⟨rfl, bb3⟩

/-! ### the row -/
theorem laidOut : laidOutB Try.prog = true := by kernel_rfl
theorem bytesInt : Try.prog.bytesOf 3 = 8 := by kernel_rfl
set_option maxRecDepth 100000 in
theorem lifted (os : Os) (started : os.Started) (H : Type) (enc : TypeId × Value → H) :
    ReturnsInHanded {} Try.checked os 9 .any (Rows.packJoinsSpec.pre6 enc Try.prog Try.f9 Rows.packJoinsRow.domain false) (Rows.packJoinsSpec.post enc Try.prog Try.f9 false true false false) := by
  refine returnsInHanded_of_change_sized (C := Try.checked) own started (by kernel_rfl) Try.func9
    (ChangeSpec.witness6 (enc := enc) (C := Try.checked) false ⟨#[], #[.slice none 0 0, .slice none 0 0], []⟩ 8 (by kernel_rfl) (by kernel_rfl) (by kernel_rfl) (by kernel_rfl)) ?_
  intro W base args ds gs before hval0 hW hcnd hsz0 _
  have hval : ∀ (j : Nat) t v, Try.f9.params[j]? = some t → args[j]? = some v → Value.okWide Try.prog W .any base t v := hval0
  have hW' := hW
  obtain ⟨p, q, hA0, hV, rfl, hfz, hnd⟩ := hW
  have hA : DataW.TrodAll enc Try.prog W 0 (fun _ => true) true Try.f9.params.toList args.toList ds p := hA0
  have hsz : (DataW.weightsEach Try.prog (Try.f9.params.toList ++ Rows.packJoinsSpec.plain.varTypes Try.prog) (ds ++ gs)).all (· ≤ reachBytes) = true := hsz0
  rw [Try.params9] at hA hval hsz
  obtain ⟨v0, vs0, d0, ds0, p0, q0, hargs, rfl, rfl, h0, r0⟩ := trodAll_cons hA
  obtain ⟨v1, vs1, d1, ds1, p1, q1, rfl, rfl, rfl, h1, r1⟩ := trodAll_cons r0
  obtain ⟨rfl, rfl, rfl⟩ := trodAll_nil r1
  obtain rfl : args = #[v0, v1] := by cases args; simp_all
  obtain ⟨rfl, rfl⟩ := trodVars_none hV
  have k0 := h0
  have lt0 := args_lt k0
  obtain ⟨z0, w0⟩ := items_arg (hval 0 22 v0 rfl rfl) (fun el sp e => by subst e; have := sized_slice hsz (j := 0) (t := 22) (e := 50) rfl rfl Try.underlying22; rwa [bytesItem] at this) h0
  have k1 := h1
  have lt1 := args_lt k1
  obtain ⟨z1, w1⟩ := items_arg (hval 1 22 v1 rfl rfl) (fun el sp e => by subst e; have := sized_slice hsz (j := 1) (t := 22) (e := 50) rfl rfl Try.underlying22; rwa [bytesItem] at this) h1
  clear hA0 hval0 hsz0
  refine (walk v0 z0 v1 z1 W w0 w1).mono fun e W' ⟨he, bel⟩ => ?_
  subst he
  exact ⟨_, rfl, _, _, _, [], _, [], hW', trodAll_mk1 (shut_bool Try.underlying4 _), (trodAll_cons_mk (Below.trod laidOut (by kernel_rfl) (of_decide_eq_true (by kernel_rfl)) k0 bel lt0) (trodAll_cons_mk (Below.trod laidOut (by kernel_rfl) (of_decide_eq_true (by kernel_rfl)) k1 bel lt1) trodAll_mk0)), rfl, bel.frame _, fun h => by cases h⟩

theorem over : Rows.packJoinsRow.holds Try.pinned (OpenSpec.ofChange Rows.packJoinsSpec) :=
  OpenClaim.holds_of_wide 9 Try.f9 rfl rfl rfl rfl rfl rfl rfl ⟨rfl, rfl, rfl, rfl, rfl⟩ rfl rfl rfl rfl rfl (by kernel_rfl) Try.func9 (by kernel_rfl)
    (of_decide_eq_true (by kernel_rfl)) (by unfold Func.isWrapper; first | (rw [if_pos (by decide +kernel)]; kernel_rfl) | (rw [if_neg (by decide +kernel)]; exact ⟨rfl, rfl⟩))
    (fun os started H enc _ => lifted os started H enc)
end Go.Proofs.Ytifbfnfcjkpjfaa.packJoins

namespace Go.Proofs.Ytifbfnfcjkpjfaa
/-- The law returns true at every input. -/
theorem packJoins_holds : Rows.PackJoinsSaid := packJoins.over
end Go.Proofs.Ytifbfnfcjkpjfaa

