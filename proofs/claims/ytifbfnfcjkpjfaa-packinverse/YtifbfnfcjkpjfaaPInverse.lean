/- What is encoded is decoded to the same list; what is decoded is encoded to the same bytes; of two unlike lists the bytes are unlike: the law cisternlaw03.PackInverse returns true at every input. No condition. -/
import Derived.Test.YtifbfnfcjkpjfaaPSame
import Derived.Test.YtifbfnfcjkpjfaaPSteps
namespace Go.Proofs.Ytifbfnfcjkpjfaa.packInverse
open Go.RowKit Go.ChangeShapes Go.WideShapes Go.ChangeAt

theorem own : ownKnob Try.prog.godebug = none := by kernel_rfl
theorem enc_cases (l : List It) : encE l = 0 ∨ encE l = 2 ∨ encE l = 14 := by unfold encE; split <;> (try split) <;> simp
theorem str_eq (a b : List UInt8) : ((strOf a).toList == (strOf b).toList) = decide (a = b) := by
  rw [strOf_toList, strOf_toList]; rw [Bool.eq_iff_iff]; simp
theorem enc_same {l m : List It} (h1 : encE l = 0) (h2 : encE m = 0) (hl : ∀ x ∈ l, x.ok) (hm : ∀ x ∈ m, x.ok) : ((strOf (encR l)).toList == (strOf (encR m)).toList) = sameL l m := by
  rw [str_eq, Bool.eq_iff_iff, decide_eq_true_eq, sameL_iff]
  constructor
  · intro h
    have a := decode_encode h1 hl
    have b := decode_encode h2 hm
    rw [h, b] at a
    cases a; rfl
  · rintro rfl; rfl
set_option maxRecDepth 20000 in
set_option maxHeartbeats 3200000 in
theorem walk (v : Value) (l : List It) (u : Value) (m : List It) (b : Value) (bs : List UInt8) (W : World) (hl : ItemsArg W v l) (hm : ItemsArg W u m) (hbs : BytesArg W b bs) :
    Calls Try.prog 4 #[v, u, b] W fun e w' => e = .returned (.bool true) ∧ Below W.heap.size W w' := by
  obtain ⟨il, -⟩ := hl
  obtain ⟨im, -⟩ := hm
  obtain ⟨hb, hcap, -⟩ := hbs
  have okl : ∀ x ∈ l, x.ok := by obtain ⟨_, _, _, _, _, hok, _⟩ := il; exact hok
  have okm : ∀ x ∈ m, x.ok := by obtain ⟨_, _, _, _, _, hok, _⟩ := im; exact hok
  have OKL := Lib.hid okl
  have OKM := Lib.hid okm
  clear okl okm
  obtain ⟨ao, lm, cap, hv, hlm⟩ : ∃ ao n cap, v = .slice ao n cap ∧ Hid (n = l.length) := by
    obtain ⟨ao, cap, hv, _⟩ := il
    exact ⟨ao, _, cap, hv, Lib.hid rfl⟩
  obtain ⟨bo, mm, bap, hu, hmm⟩ : ∃ ao n cap, u = .slice ao n cap ∧ Hid (n = m.length) := by
    obtain ⟨ao, cap, hv, _⟩ := im
    exact ⟨ao, _, cap, hv, Lib.hid rfl⟩
  obtain ⟨co, cm, cap3, hcv, hcm⟩ : ∃ ao n cap, b = .slice ao n cap ∧ Hid (n = bs.length) := by
    obtain ⟨ao, cap, hv, _⟩ := hb
    exact ⟨ao, _, cap, hv, Lib.hid rfl⟩
  subst hv
  subst hu
  subst hcv
  by_cases hE : encE l = 0
  · rcases enc_cases m with hF | hF | hF
    · have hX0 := enc_same hE hF OKL.out OKM.out
      obtain ⟨bX, hX2⟩ : ∃ x, sameL l m = x := ⟨_, rfl⟩
      rw [hX2] at hX0
      cases bX
      · have hX := hX0
        clear hX0
        go_enter Try.func4, Try.ntmps4
        go_wp2_with fail
        refine (known_any _).mono ?_
        rintro e w1 ⟨rfl, b1⟩
        have he := encode_any ((il.below b1).more b1.size)
        rw [hE] at he
        go_wp2_with fail
        refine he.mono ?_
        rintro e w2 ⟨v2, rfl, h2, b2⟩
        have bb2 := b1.trans (b2.mono b1.size)
        have hdo := decode_encode hE OKL.out
        have hd := decode_any h2.at h2.cap
        rw [show decE (encR l) = 0 by unfold decE; rw [hdo]; rfl, show decR (encR l) = l by unfold decR; rw [hdo]; rfl] at hd
        obtain ⟨ao2, m2, cap2, hv2, hm2⟩ := h2.form'
        subst hv2
        clear he hdo
        go_wp2_with fail
        refine hd.mono ?_
        rintro e w3 ⟨v3, rfl, h3, b3⟩
        have bb3 := bb2.trans (b3.mono bb2.size)
        have hsm := same_any (h3.items OKL.out) ((il.below bb3).more bb3.size)
        rw [(sameL_iff l l).2 rfl] at hsm
        obtain ⟨ao3, m3, cap4, hv3, hm3⟩ := h3.form'
        subst hv3
        clear hd h3
        go_wp2_with fail
        refine hsm.mono ?_
        rintro e w4 ⟨rfl, b4⟩
        have bb4 := bb3.trans (b4.mono bb3.size)
        have hf := encode_any ((im.below bb4).more bb4.size)
        rw [hF] at hf
        clear hsm
        go_wp2_with fail
        refine hf.mono ?_
        rintro e w5 ⟨v5, rfl, h5, b5⟩
        have bb5 := bb4.trans (b5.mono bb4.size)
        have A2 : ByC w5 (.slice ao2 m2 cap2) (encR l) := h2.at.below (b3.trans ((b4.trans (b5.mono b4.size)).mono b3.size))
        have A5 := h5.at
        obtain ⟨ao5, m5, cap5, hv5, hm5⟩ := h5.form'
        subst hv5
        clear hf h2 h5 b1 b2 b3 b4 b5 bb2 bb3 bb4
        go_wp2_with fail
        have hS : Below w5.heap.size w5 w5.drew := (Below.refl _ _).drew
        refine wp_region_held_drew (S := fun w' => Below w5.heap.size w5 w') mixed hS (fun _ => ?_)
        show wpAnyH _ _ _ _ _ 13 (Array.replicate 13 false) _ _
        refine wpAnyH_take_d 0 (some 44) (.int .i64 0) rfl (by kernel_rfl) (by kernel_rfl) (by kernel_rfl) (by kernel_rfl) rfl (fun _ _ _ h => h) (fun _ _ => by kernel_rfl) (by exact hS) ?_
        simp only [Act.put, List.setIfInBounds_toArray, List.set_cons_succ, List.set_cons_zero]
        refine wpAnyH_take_d 1 (some 45) (.bool true) rfl (by kernel_rfl) (by kernel_rfl) (by kernel_rfl) (by kernel_rfl) rfl (fun _ _ _ h => h) (fun _ _ => by kernel_rfl) (by exact hS) ?_
        simp only [Act.put, List.setIfInBounds_toArray, List.set_cons_succ, List.set_cons_zero]
        refine wpAnyH_take_d 2 (some 46) (.bool true) rfl (by kernel_rfl) (by kernel_rfl) (by kernel_rfl) (by kernel_rfl) rfl (fun _ _ _ h => h) (fun _ _ => by kernel_rfl) (by exact hS) ?_
        simp only [Act.put, List.setIfInBounds_toArray, List.set_cons_succ, List.set_cons_zero]
        refine wpAnyH_take_d 3 (some 47) (.slice ao2 m2 cap2) rfl (by kernel_rfl) (by kernel_rfl) (by kernel_rfl) (by kernel_rfl) rfl (fun _ _ _ h => h) (fun _ _ => by kernel_rfl) (by exact hS) ?_
        simp only [Act.put, List.setIfInBounds_toArray, List.set_cons_succ, List.set_cons_zero]
        refine wpAnyH_take_d 4 (some 48) (.string (strOf (encR l))) rfl (by kernel_rfl) (by kernel_rfl) (by kernel_rfl) (by kernel_rfl) rfl (fun _ _ _ h => h) (fun w' h => exec_convert rfl rfl (run_string_c (A2.below h))) (by exact hS) ?_
        simp only [Act.put, List.setIfInBounds_toArray, List.set_cons_succ, List.set_cons_zero]
        refine wpAnyH_take_d 5 (some 49) (.slice ao5 m5 cap5) rfl (by kernel_rfl) (by kernel_rfl) (by kernel_rfl) (by kernel_rfl) rfl (fun _ _ _ h => h) (fun _ _ => by kernel_rfl) (by exact hS) ?_
        simp only [Act.put, List.setIfInBounds_toArray, List.set_cons_succ, List.set_cons_zero]
        refine wpAnyH_take_d 6 (some 50) (.string (strOf (encR m))) rfl (by kernel_rfl) (by kernel_rfl) (by kernel_rfl) (by kernel_rfl) rfl (fun _ _ _ h => h) (fun w' h => exec_convert rfl rfl (run_string_c (A5.below h))) (by exact hS) ?_
        simp only [Act.put, List.setIfInBounds_toArray, List.set_cons_succ, List.set_cons_zero]
        refine wpAnyH_take_d 7 (some 51) (.bool false) rfl (by kernel_rfl) (by kernel_rfl) (by kernel_rfl) (by kernel_rfl) rfl (fun _ _ _ h => h) (fun w' h => exec_streq rfl rfl rfl hX) (by exact hS) ?_
        simp only [Act.put, List.setIfInBounds_toArray, List.set_cons_succ, List.set_cons_zero]
        refine wpAnyH_take_d 8 (some 52) (.slice ao lm cap) rfl (by kernel_rfl) (by kernel_rfl) (by kernel_rfl) (by kernel_rfl) rfl (fun _ _ _ h => h) (fun _ _ => by kernel_rfl) (by exact hS) ?_
        simp only [Act.put, List.setIfInBounds_toArray, List.set_cons_succ, List.set_cons_zero]
        refine wpAnyH_take_d 9 (some 53) (.slice bo mm bap) rfl (by kernel_rfl) (by kernel_rfl) (by kernel_rfl) (by kernel_rfl) rfl (fun _ _ _ h => h) (fun _ _ => by kernel_rfl) (by exact hS) ?_
        simp only [Act.put, List.setIfInBounds_toArray, List.set_cons_succ, List.set_cons_zero]
        refine wpAnyH_call 10 (some 54) 17 #[.slice ao lm cap, .slice bo mm bap] rfl (by kernel_rfl) (by kernel_rfl) rfl (by kernel_rfl) (same_any (w := w5.drew) ((il.below (bb5.drew)).more bb5.size) ((im.below (bb5.drew)).more bb5.size)) ?_
        rintro e w6 ⟨rfl, b6⟩
        have hS : Below w5.heap.size w5 w6 := ((Below.refl _ _).drew).trans b6
        refine ⟨_, rfl, hS, ?_⟩
        rw [hX2]
        simp only [Act.put, List.setIfInBounds_toArray, List.set_cons_succ, List.set_cons_zero]
        refine wpAnyH_take_d 11 (some 55) (.bool false) rfl (by kernel_rfl) (by kernel_rfl) (by kernel_rfl) (by kernel_rfl) rfl (fun _ _ _ h => h) (fun _ _ => by kernel_rfl) (by exact hS) ?_
        simp only [Act.put, List.setIfInBounds_toArray, List.set_cons_succ, List.set_cons_zero]
        refine wpAnyH_take_d 12 (some 56) (.bool false) rfl (by kernel_rfl) (by kernel_rfl) (by kernel_rfl) (by kernel_rfl) rfl (fun _ _ _ h => h) (fun _ _ => by kernel_rfl) (by exact hS) ?_
        simp only [Act.put, List.setIfInBounds_toArray, List.set_cons_succ, List.set_cons_zero]
        refine wpAnyH_done (by kernel_rfl) ?_ _
        have bb := bb5.trans (hS.mono bb5.size)
        clear b6 hS A2 A5 bb5 hX hX2 il im OKL OKM hE hF
        go_wp2_with fail
        cases hdo : decO bs with
        | none =>
          have hd := decode_any (hb.below bb) hcap
          rw [show decE bs = 2 by unfold decE; rw [hdo]; rfl, show decR bs = [] by unfold decR; rw [hdo]; rfl] at hd
          clear hdo
          go_wp2_with fail
          refine hd.mono ?_
          rintro e wa ⟨va, rfl, ha, ba⟩
          have bba := bb.trans (ba.mono bb.size)
          obtain ⟨aoa, ma, capa, hva, hma⟩ := ha.form'
          obtain rfl : ma = 0 := hma.out
          subst hva
          clear hd ha ba
          go_wp2
          go_ret
          exact ⟨rfl, bba⟩
        | some items =>
          have hd := decode_any (hb.below bb) hcap
          have hed := encode_decode hdo
          rw [show decE bs = 0 by unfold decE; rw [hdo]; rfl, show decR bs = items by unfold decR; rw [hdo]; rfl] at hd
          clear hdo
          go_wp2_with fail
          refine hd.mono ?_
          rintro e wa ⟨va, rfl, ha, ba⟩
          have bba := bb.trans (ba.mono bb.size)
          have he2 := encode_any (ha.items hed.2.2)
          rw [hed.1, hed.2.1] at he2
          obtain ⟨aoa, ma, capa, hva, hma⟩ := ha.form'
          subst hva
          clear hd ha ba hed
          go_wp2_with fail
          refine he2.mono ?_
          rintro e wb ⟨vb, rfl, hyb, byb⟩
          have bbb := bba.trans (byb.mono bba.size)
          have cy := run_string hyb
          have cb := run_string_c (hb.below bbb)
          obtain ⟨aob, mb, capb, hvb, hmb⟩ := hyb.form'
          subst hvb
          clear he2 hyb byb
          go_wp2
          go_ret
          exact ⟨rfl, bbb⟩
      · have hX := hX0
        clear hX0
        go_enter Try.func4, Try.ntmps4
        go_wp2_with fail
        refine (known_any _).mono ?_
        rintro e w1 ⟨rfl, b1⟩
        have he := encode_any ((il.below b1).more b1.size)
        rw [hE] at he
        go_wp2_with fail
        refine he.mono ?_
        rintro e w2 ⟨v2, rfl, h2, b2⟩
        have bb2 := b1.trans (b2.mono b1.size)
        have hdo := decode_encode hE OKL.out
        have hd := decode_any h2.at h2.cap
        rw [show decE (encR l) = 0 by unfold decE; rw [hdo]; rfl, show decR (encR l) = l by unfold decR; rw [hdo]; rfl] at hd
        obtain ⟨ao2, m2, cap2, hv2, hm2⟩ := h2.form'
        subst hv2
        clear he hdo
        go_wp2_with fail
        refine hd.mono ?_
        rintro e w3 ⟨v3, rfl, h3, b3⟩
        have bb3 := bb2.trans (b3.mono bb2.size)
        have hsm := same_any (h3.items OKL.out) ((il.below bb3).more bb3.size)
        rw [(sameL_iff l l).2 rfl] at hsm
        obtain ⟨ao3, m3, cap4, hv3, hm3⟩ := h3.form'
        subst hv3
        clear hd h3
        go_wp2_with fail
        refine hsm.mono ?_
        rintro e w4 ⟨rfl, b4⟩
        have bb4 := bb3.trans (b4.mono bb3.size)
        have hf := encode_any ((im.below bb4).more bb4.size)
        rw [hF] at hf
        clear hsm
        go_wp2_with fail
        refine hf.mono ?_
        rintro e w5 ⟨v5, rfl, h5, b5⟩
        have bb5 := bb4.trans (b5.mono bb4.size)
        have A2 : ByC w5 (.slice ao2 m2 cap2) (encR l) := h2.at.below (b3.trans ((b4.trans (b5.mono b4.size)).mono b3.size))
        have A5 := h5.at
        obtain ⟨ao5, m5, cap5, hv5, hm5⟩ := h5.form'
        subst hv5
        clear hf h2 h5 b1 b2 b3 b4 b5 bb2 bb3 bb4
        go_wp2_with fail
        have hS : Below w5.heap.size w5 w5.drew := (Below.refl _ _).drew
        refine wp_region_held_drew (S := fun w' => Below w5.heap.size w5 w') mixed hS (fun _ => ?_)
        show wpAnyH _ _ _ _ _ 13 (Array.replicate 13 false) _ _
        refine wpAnyH_take_d 0 (some 44) (.int .i64 0) rfl (by kernel_rfl) (by kernel_rfl) (by kernel_rfl) (by kernel_rfl) rfl (fun _ _ _ h => h) (fun _ _ => by kernel_rfl) (by exact hS) ?_
        simp only [Act.put, List.setIfInBounds_toArray, List.set_cons_succ, List.set_cons_zero]
        refine wpAnyH_take_d 1 (some 45) (.bool true) rfl (by kernel_rfl) (by kernel_rfl) (by kernel_rfl) (by kernel_rfl) rfl (fun _ _ _ h => h) (fun _ _ => by kernel_rfl) (by exact hS) ?_
        simp only [Act.put, List.setIfInBounds_toArray, List.set_cons_succ, List.set_cons_zero]
        refine wpAnyH_take_d 2 (some 46) (.bool true) rfl (by kernel_rfl) (by kernel_rfl) (by kernel_rfl) (by kernel_rfl) rfl (fun _ _ _ h => h) (fun _ _ => by kernel_rfl) (by exact hS) ?_
        simp only [Act.put, List.setIfInBounds_toArray, List.set_cons_succ, List.set_cons_zero]
        refine wpAnyH_take_d 3 (some 47) (.slice ao2 m2 cap2) rfl (by kernel_rfl) (by kernel_rfl) (by kernel_rfl) (by kernel_rfl) rfl (fun _ _ _ h => h) (fun _ _ => by kernel_rfl) (by exact hS) ?_
        simp only [Act.put, List.setIfInBounds_toArray, List.set_cons_succ, List.set_cons_zero]
        refine wpAnyH_take_d 4 (some 48) (.string (strOf (encR l))) rfl (by kernel_rfl) (by kernel_rfl) (by kernel_rfl) (by kernel_rfl) rfl (fun _ _ _ h => h) (fun w' h => exec_convert rfl rfl (run_string_c (A2.below h))) (by exact hS) ?_
        simp only [Act.put, List.setIfInBounds_toArray, List.set_cons_succ, List.set_cons_zero]
        refine wpAnyH_take_d 5 (some 49) (.slice ao5 m5 cap5) rfl (by kernel_rfl) (by kernel_rfl) (by kernel_rfl) (by kernel_rfl) rfl (fun _ _ _ h => h) (fun _ _ => by kernel_rfl) (by exact hS) ?_
        simp only [Act.put, List.setIfInBounds_toArray, List.set_cons_succ, List.set_cons_zero]
        refine wpAnyH_take_d 6 (some 50) (.string (strOf (encR m))) rfl (by kernel_rfl) (by kernel_rfl) (by kernel_rfl) (by kernel_rfl) rfl (fun _ _ _ h => h) (fun w' h => exec_convert rfl rfl (run_string_c (A5.below h))) (by exact hS) ?_
        simp only [Act.put, List.setIfInBounds_toArray, List.set_cons_succ, List.set_cons_zero]
        refine wpAnyH_take_d 7 (some 51) (.bool true) rfl (by kernel_rfl) (by kernel_rfl) (by kernel_rfl) (by kernel_rfl) rfl (fun _ _ _ h => h) (fun w' h => exec_streq rfl rfl rfl hX) (by exact hS) ?_
        simp only [Act.put, List.setIfInBounds_toArray, List.set_cons_succ, List.set_cons_zero]
        refine wpAnyH_take_d 8 (some 52) (.slice ao lm cap) rfl (by kernel_rfl) (by kernel_rfl) (by kernel_rfl) (by kernel_rfl) rfl (fun _ _ _ h => h) (fun _ _ => by kernel_rfl) (by exact hS) ?_
        simp only [Act.put, List.setIfInBounds_toArray, List.set_cons_succ, List.set_cons_zero]
        refine wpAnyH_take_d 9 (some 53) (.slice bo mm bap) rfl (by kernel_rfl) (by kernel_rfl) (by kernel_rfl) (by kernel_rfl) rfl (fun _ _ _ h => h) (fun _ _ => by kernel_rfl) (by exact hS) ?_
        simp only [Act.put, List.setIfInBounds_toArray, List.set_cons_succ, List.set_cons_zero]
        refine wpAnyH_call 10 (some 54) 17 #[.slice ao lm cap, .slice bo mm bap] rfl (by kernel_rfl) (by kernel_rfl) rfl (by kernel_rfl) (same_any (w := w5.drew) ((il.below (bb5.drew)).more bb5.size) ((im.below (bb5.drew)).more bb5.size)) ?_
        rintro e w6 ⟨rfl, b6⟩
        have hS : Below w5.heap.size w5 w6 := ((Below.refl _ _).drew).trans b6
        refine ⟨_, rfl, hS, ?_⟩
        rw [hX2]
        simp only [Act.put, List.setIfInBounds_toArray, List.set_cons_succ, List.set_cons_zero]
        refine wpAnyH_take_d 11 (some 55) (.bool false) rfl (by kernel_rfl) (by kernel_rfl) (by kernel_rfl) (by kernel_rfl) rfl (fun _ _ _ h => h) (fun _ _ => by kernel_rfl) (by exact hS) ?_
        simp only [Act.put, List.setIfInBounds_toArray, List.set_cons_succ, List.set_cons_zero]
        refine wpAnyH_take_d 12 (some 56) (.bool false) rfl (by kernel_rfl) (by kernel_rfl) (by kernel_rfl) (by kernel_rfl) rfl (fun _ _ _ h => h) (fun _ _ => by kernel_rfl) (by exact hS) ?_
        simp only [Act.put, List.setIfInBounds_toArray, List.set_cons_succ, List.set_cons_zero]
        refine wpAnyH_done (by kernel_rfl) ?_ _
        have bb := bb5.trans (hS.mono bb5.size)
        clear b6 hS A2 A5 bb5 hX hX2 il im OKL OKM hE hF
        go_wp2_with fail
        cases hdo : decO bs with
        | none =>
          have hd := decode_any (hb.below bb) hcap
          rw [show decE bs = 2 by unfold decE; rw [hdo]; rfl, show decR bs = [] by unfold decR; rw [hdo]; rfl] at hd
          clear hdo
          go_wp2_with fail
          refine hd.mono ?_
          rintro e wa ⟨va, rfl, ha, ba⟩
          have bba := bb.trans (ba.mono bb.size)
          obtain ⟨aoa, ma, capa, hva, hma⟩ := ha.form'
          obtain rfl : ma = 0 := hma.out
          subst hva
          clear hd ha ba
          go_wp2
          go_ret
          exact ⟨rfl, bba⟩
        | some items =>
          have hd := decode_any (hb.below bb) hcap
          have hed := encode_decode hdo
          rw [show decE bs = 0 by unfold decE; rw [hdo]; rfl, show decR bs = items by unfold decR; rw [hdo]; rfl] at hd
          clear hdo
          go_wp2_with fail
          refine hd.mono ?_
          rintro e wa ⟨va, rfl, ha, ba⟩
          have bba := bb.trans (ba.mono bb.size)
          have he2 := encode_any (ha.items hed.2.2)
          rw [hed.1, hed.2.1] at he2
          obtain ⟨aoa, ma, capa, hva, hma⟩ := ha.form'
          subst hva
          clear hd ha ba hed
          go_wp2_with fail
          refine he2.mono ?_
          rintro e wb ⟨vb, rfl, hyb, byb⟩
          have bbb := bba.trans (byb.mono bba.size)
          have cy := run_string hyb
          have cb := run_string_c (hb.below bbb)
          obtain ⟨aob, mb, capb, hvb, hmb⟩ := hyb.form'
          subst hvb
          clear he2 hyb byb
          go_wp2
          go_ret
          exact ⟨rfl, bbb⟩
    · skip
      go_enter Try.func4, Try.ntmps4
      go_wp2_with fail
      refine (known_any _).mono ?_
      rintro e w1 ⟨rfl, b1⟩
      have he := encode_any ((il.below b1).more b1.size)
      rw [hE] at he
      go_wp2_with fail
      refine he.mono ?_
      rintro e w2 ⟨v2, rfl, h2, b2⟩
      have bb2 := b1.trans (b2.mono b1.size)
      have hdo := decode_encode hE OKL.out
      have hd := decode_any h2.at h2.cap
      rw [show decE (encR l) = 0 by unfold decE; rw [hdo]; rfl, show decR (encR l) = l by unfold decR; rw [hdo]; rfl] at hd
      obtain ⟨ao2, m2, cap2, hv2, hm2⟩ := h2.form'
      subst hv2
      clear he hdo
      go_wp2_with fail
      refine hd.mono ?_
      rintro e w3 ⟨v3, rfl, h3, b3⟩
      have bb3 := bb2.trans (b3.mono bb2.size)
      have hsm := same_any (h3.items OKL.out) ((il.below bb3).more bb3.size)
      rw [(sameL_iff l l).2 rfl] at hsm
      obtain ⟨ao3, m3, cap4, hv3, hm3⟩ := h3.form'
      subst hv3
      clear hd h3
      go_wp2_with fail
      refine hsm.mono ?_
      rintro e w4 ⟨rfl, b4⟩
      have bb4 := bb3.trans (b4.mono bb3.size)
      have hf := encode_any ((im.below bb4).more bb4.size)
      rw [hF] at hf
      clear hsm
      go_wp2_with fail
      refine hf.mono ?_
      rintro e w5 ⟨v5, rfl, h5, b5⟩
      have bb5 := bb4.trans (b5.mono bb4.size)
      have A2 : ByC w5 (.slice ao2 m2 cap2) (encR l) := h2.at.below (b3.trans ((b4.trans (b5.mono b4.size)).mono b3.size))
      have A5 := h5.at
      obtain ⟨ao5, m5, cap5, hv5, hm5⟩ := h5.form'
      subst hv5
      clear hf h2 h5 b1 b2 b3 b4 b5 bb2 bb3 bb4
      go_wp2_with fail
      have hS : Below w5.heap.size w5 w5.drew := (Below.refl _ _).drew
      refine wp_region_held_drew (S := fun w' => Below w5.heap.size w5 w') mixed hS (fun _ => ?_)
      show wpAnyH _ _ _ _ _ 13 (Array.replicate 13 false) _ _
      refine wpAnyH_take_d 0 (some 44) (.int .i64 2) rfl (by kernel_rfl) (by kernel_rfl) (by kernel_rfl) (by kernel_rfl) rfl (fun _ _ _ h => h) (fun _ _ => by kernel_rfl) (by exact hS) ?_
      simp only [Act.put, List.setIfInBounds_toArray, List.set_cons_succ, List.set_cons_zero]
      refine wpAnyH_take_d 1 (some 45) (.bool false) rfl (by kernel_rfl) (by kernel_rfl) (by kernel_rfl) (by kernel_rfl) rfl (fun _ _ _ h => h) (fun _ _ => by kernel_rfl) (by exact hS) ?_
      simp only [Act.put, List.setIfInBounds_toArray, List.set_cons_succ, List.set_cons_zero]
      refine wpAnyH_take_d 2 (some 46) (.bool false) rfl (by kernel_rfl) (by kernel_rfl) (by kernel_rfl) (by kernel_rfl) rfl (fun _ _ _ h => h) (fun _ _ => by kernel_rfl) (by exact hS) ?_
      simp only [Act.put, List.setIfInBounds_toArray, List.set_cons_succ, List.set_cons_zero]
      refine wpAnyH_skip_d 3 (some 47) rfl (by kernel_rfl) (by kernel_rfl) (by kernel_rfl) (by kernel_rfl) rfl (fun _ _ _ h => h) (by exact hS) ?_
      simp only [Act.put, List.setIfInBounds_toArray, List.set_cons_succ, List.set_cons_zero]
      refine wpAnyH_skip_d 4 (some 48) rfl (by kernel_rfl) (by kernel_rfl) (by kernel_rfl) (by kernel_rfl) rfl (fun _ _ _ h => h) (by exact hS) ?_
      simp only [Act.put, List.setIfInBounds_toArray, List.set_cons_succ, List.set_cons_zero]
      refine wpAnyH_skip_d 5 (some 49) rfl (by kernel_rfl) (by kernel_rfl) (by kernel_rfl) (by kernel_rfl) rfl (fun _ _ _ h => h) (by exact hS) ?_
      simp only [Act.put, List.setIfInBounds_toArray, List.set_cons_succ, List.set_cons_zero]
      refine wpAnyH_skip_d 6 (some 50) rfl (by kernel_rfl) (by kernel_rfl) (by kernel_rfl) (by kernel_rfl) rfl (fun _ _ _ h => h) (by exact hS) ?_
      simp only [Act.put, List.setIfInBounds_toArray, List.set_cons_succ, List.set_cons_zero]
      refine wpAnyH_skip_d 7 (some 51) rfl (by kernel_rfl) (by kernel_rfl) (by kernel_rfl) (by kernel_rfl) rfl (fun _ _ _ h => h) (by exact hS) ?_
      simp only [Act.put, List.setIfInBounds_toArray, List.set_cons_succ, List.set_cons_zero]
      refine wpAnyH_skip_d 8 (some 52) rfl (by kernel_rfl) (by kernel_rfl) (by kernel_rfl) (by kernel_rfl) rfl (fun _ _ _ h => h) (by exact hS) ?_
      simp only [Act.put, List.setIfInBounds_toArray, List.set_cons_succ, List.set_cons_zero]
      refine wpAnyH_skip_d 9 (some 53) rfl (by kernel_rfl) (by kernel_rfl) (by kernel_rfl) (by kernel_rfl) rfl (fun _ _ _ h => h) (by exact hS) ?_
      simp only [Act.put, List.setIfInBounds_toArray, List.set_cons_succ, List.set_cons_zero]
      refine wpAnyH_skip_d 10 (some 54) rfl (by kernel_rfl) (by kernel_rfl) (by kernel_rfl) (by kernel_rfl) rfl (fun _ _ _ h => h) (by exact hS) ?_
      simp only [Act.put, List.setIfInBounds_toArray, List.set_cons_succ, List.set_cons_zero]
      refine wpAnyH_skip_d 11 (some 55) rfl (by kernel_rfl) (by kernel_rfl) (by kernel_rfl) (by kernel_rfl) rfl (fun _ _ _ h => h) (by exact hS) ?_
      simp only [Act.put, List.setIfInBounds_toArray, List.set_cons_succ, List.set_cons_zero]
      refine wpAnyH_take_d 12 (some 56) (.bool false) rfl (by kernel_rfl) (by kernel_rfl) (by kernel_rfl) (by kernel_rfl) rfl (fun _ _ _ h => h) (fun _ _ => by kernel_rfl) (by exact hS) ?_
      simp only [Act.put, List.setIfInBounds_toArray, List.set_cons_succ, List.set_cons_zero]
      refine wpAnyH_done (by kernel_rfl) ?_ _
      have bb := bb5.drew
      clear hS A2 A5 bb5 il im OKL OKM hE hF
      go_wp2_with fail
      cases hdo : decO bs with
      | none =>
        have hd := decode_any (hb.below bb) hcap
        rw [show decE bs = 2 by unfold decE; rw [hdo]; rfl, show decR bs = [] by unfold decR; rw [hdo]; rfl] at hd
        clear hdo
        go_wp2_with fail
        refine hd.mono ?_
        rintro e wa ⟨va, rfl, ha, ba⟩
        have bba := bb.trans (ba.mono bb.size)
        obtain ⟨aoa, ma, capa, hva, hma⟩ := ha.form'
        obtain rfl : ma = 0 := hma.out
        subst hva
        clear hd ha ba
        go_wp2
        go_ret
        exact ⟨rfl, bba⟩
      | some items =>
        have hd := decode_any (hb.below bb) hcap
        have hed := encode_decode hdo
        rw [show decE bs = 0 by unfold decE; rw [hdo]; rfl, show decR bs = items by unfold decR; rw [hdo]; rfl] at hd
        clear hdo
        go_wp2_with fail
        refine hd.mono ?_
        rintro e wa ⟨va, rfl, ha, ba⟩
        have bba := bb.trans (ba.mono bb.size)
        have he2 := encode_any (ha.items hed.2.2)
        rw [hed.1, hed.2.1] at he2
        obtain ⟨aoa, ma, capa, hva, hma⟩ := ha.form'
        subst hva
        clear hd ha ba hed
        go_wp2_with fail
        refine he2.mono ?_
        rintro e wb ⟨vb, rfl, hyb, byb⟩
        have bbb := bba.trans (byb.mono bba.size)
        have cy := run_string hyb
        have cb := run_string_c (hb.below bbb)
        obtain ⟨aob, mb, capb, hvb, hmb⟩ := hyb.form'
        subst hvb
        clear he2 hyb byb
        go_wp2
        go_ret
        exact ⟨rfl, bbb⟩
    · skip
      go_enter Try.func4, Try.ntmps4
      go_wp2_with fail
      refine (known_any _).mono ?_
      rintro e w1 ⟨rfl, b1⟩
      have he := encode_any ((il.below b1).more b1.size)
      rw [hE] at he
      go_wp2_with fail
      refine he.mono ?_
      rintro e w2 ⟨v2, rfl, h2, b2⟩
      have bb2 := b1.trans (b2.mono b1.size)
      have hdo := decode_encode hE OKL.out
      have hd := decode_any h2.at h2.cap
      rw [show decE (encR l) = 0 by unfold decE; rw [hdo]; rfl, show decR (encR l) = l by unfold decR; rw [hdo]; rfl] at hd
      obtain ⟨ao2, m2, cap2, hv2, hm2⟩ := h2.form'
      subst hv2
      clear he hdo
      go_wp2_with fail
      refine hd.mono ?_
      rintro e w3 ⟨v3, rfl, h3, b3⟩
      have bb3 := bb2.trans (b3.mono bb2.size)
      have hsm := same_any (h3.items OKL.out) ((il.below bb3).more bb3.size)
      rw [(sameL_iff l l).2 rfl] at hsm
      obtain ⟨ao3, m3, cap4, hv3, hm3⟩ := h3.form'
      subst hv3
      clear hd h3
      go_wp2_with fail
      refine hsm.mono ?_
      rintro e w4 ⟨rfl, b4⟩
      have bb4 := bb3.trans (b4.mono bb3.size)
      have hf := encode_any ((im.below bb4).more bb4.size)
      rw [hF] at hf
      clear hsm
      go_wp2_with fail
      refine hf.mono ?_
      rintro e w5 ⟨v5, rfl, h5, b5⟩
      have bb5 := bb4.trans (b5.mono bb4.size)
      have A2 : ByC w5 (.slice ao2 m2 cap2) (encR l) := h2.at.below (b3.trans ((b4.trans (b5.mono b4.size)).mono b3.size))
      have A5 := h5.at
      obtain ⟨ao5, m5, cap5, hv5, hm5⟩ := h5.form'
      subst hv5
      clear hf h2 h5 b1 b2 b3 b4 b5 bb2 bb3 bb4
      go_wp2_with fail
      have hS : Below w5.heap.size w5 w5.drew := (Below.refl _ _).drew
      refine wp_region_held_drew (S := fun w' => Below w5.heap.size w5 w') mixed hS (fun _ => ?_)
      show wpAnyH _ _ _ _ _ 13 (Array.replicate 13 false) _ _
      refine wpAnyH_take_d 0 (some 44) (.int .i64 14) rfl (by kernel_rfl) (by kernel_rfl) (by kernel_rfl) (by kernel_rfl) rfl (fun _ _ _ h => h) (fun _ _ => by kernel_rfl) (by exact hS) ?_
      simp only [Act.put, List.setIfInBounds_toArray, List.set_cons_succ, List.set_cons_zero]
      refine wpAnyH_take_d 1 (some 45) (.bool false) rfl (by kernel_rfl) (by kernel_rfl) (by kernel_rfl) (by kernel_rfl) rfl (fun _ _ _ h => h) (fun _ _ => by kernel_rfl) (by exact hS) ?_
      simp only [Act.put, List.setIfInBounds_toArray, List.set_cons_succ, List.set_cons_zero]
      refine wpAnyH_take_d 2 (some 46) (.bool false) rfl (by kernel_rfl) (by kernel_rfl) (by kernel_rfl) (by kernel_rfl) rfl (fun _ _ _ h => h) (fun _ _ => by kernel_rfl) (by exact hS) ?_
      simp only [Act.put, List.setIfInBounds_toArray, List.set_cons_succ, List.set_cons_zero]
      refine wpAnyH_skip_d 3 (some 47) rfl (by kernel_rfl) (by kernel_rfl) (by kernel_rfl) (by kernel_rfl) rfl (fun _ _ _ h => h) (by exact hS) ?_
      simp only [Act.put, List.setIfInBounds_toArray, List.set_cons_succ, List.set_cons_zero]
      refine wpAnyH_skip_d 4 (some 48) rfl (by kernel_rfl) (by kernel_rfl) (by kernel_rfl) (by kernel_rfl) rfl (fun _ _ _ h => h) (by exact hS) ?_
      simp only [Act.put, List.setIfInBounds_toArray, List.set_cons_succ, List.set_cons_zero]
      refine wpAnyH_skip_d 5 (some 49) rfl (by kernel_rfl) (by kernel_rfl) (by kernel_rfl) (by kernel_rfl) rfl (fun _ _ _ h => h) (by exact hS) ?_
      simp only [Act.put, List.setIfInBounds_toArray, List.set_cons_succ, List.set_cons_zero]
      refine wpAnyH_skip_d 6 (some 50) rfl (by kernel_rfl) (by kernel_rfl) (by kernel_rfl) (by kernel_rfl) rfl (fun _ _ _ h => h) (by exact hS) ?_
      simp only [Act.put, List.setIfInBounds_toArray, List.set_cons_succ, List.set_cons_zero]
      refine wpAnyH_skip_d 7 (some 51) rfl (by kernel_rfl) (by kernel_rfl) (by kernel_rfl) (by kernel_rfl) rfl (fun _ _ _ h => h) (by exact hS) ?_
      simp only [Act.put, List.setIfInBounds_toArray, List.set_cons_succ, List.set_cons_zero]
      refine wpAnyH_skip_d 8 (some 52) rfl (by kernel_rfl) (by kernel_rfl) (by kernel_rfl) (by kernel_rfl) rfl (fun _ _ _ h => h) (by exact hS) ?_
      simp only [Act.put, List.setIfInBounds_toArray, List.set_cons_succ, List.set_cons_zero]
      refine wpAnyH_skip_d 9 (some 53) rfl (by kernel_rfl) (by kernel_rfl) (by kernel_rfl) (by kernel_rfl) rfl (fun _ _ _ h => h) (by exact hS) ?_
      simp only [Act.put, List.setIfInBounds_toArray, List.set_cons_succ, List.set_cons_zero]
      refine wpAnyH_skip_d 10 (some 54) rfl (by kernel_rfl) (by kernel_rfl) (by kernel_rfl) (by kernel_rfl) rfl (fun _ _ _ h => h) (by exact hS) ?_
      simp only [Act.put, List.setIfInBounds_toArray, List.set_cons_succ, List.set_cons_zero]
      refine wpAnyH_skip_d 11 (some 55) rfl (by kernel_rfl) (by kernel_rfl) (by kernel_rfl) (by kernel_rfl) rfl (fun _ _ _ h => h) (by exact hS) ?_
      simp only [Act.put, List.setIfInBounds_toArray, List.set_cons_succ, List.set_cons_zero]
      refine wpAnyH_take_d 12 (some 56) (.bool false) rfl (by kernel_rfl) (by kernel_rfl) (by kernel_rfl) (by kernel_rfl) rfl (fun _ _ _ h => h) (fun _ _ => by kernel_rfl) (by exact hS) ?_
      simp only [Act.put, List.setIfInBounds_toArray, List.set_cons_succ, List.set_cons_zero]
      refine wpAnyH_done (by kernel_rfl) ?_ _
      have bb := bb5.drew
      clear hS A2 A5 bb5 il im OKL OKM hE hF
      go_wp2_with fail
      cases hdo : decO bs with
      | none =>
        have hd := decode_any (hb.below bb) hcap
        rw [show decE bs = 2 by unfold decE; rw [hdo]; rfl, show decR bs = [] by unfold decR; rw [hdo]; rfl] at hd
        clear hdo
        go_wp2_with fail
        refine hd.mono ?_
        rintro e wa ⟨va, rfl, ha, ba⟩
        have bba := bb.trans (ba.mono bb.size)
        obtain ⟨aoa, ma, capa, hva, hma⟩ := ha.form'
        obtain rfl : ma = 0 := hma.out
        subst hva
        clear hd ha ba
        go_wp2
        go_ret
        exact ⟨rfl, bba⟩
      | some items =>
        have hd := decode_any (hb.below bb) hcap
        have hed := encode_decode hdo
        rw [show decE bs = 0 by unfold decE; rw [hdo]; rfl, show decR bs = items by unfold decR; rw [hdo]; rfl] at hd
        clear hdo
        go_wp2_with fail
        refine hd.mono ?_
        rintro e wa ⟨va, rfl, ha, ba⟩
        have bba := bb.trans (ba.mono bb.size)
        have he2 := encode_any (ha.items hed.2.2)
        rw [hed.1, hed.2.1] at he2
        obtain ⟨aoa, ma, capa, hva, hma⟩ := ha.form'
        subst hva
        clear hd ha ba hed
        go_wp2_with fail
        refine he2.mono ?_
        rintro e wb ⟨vb, rfl, hyb, byb⟩
        have bbb := bba.trans (byb.mono bba.size)
        have cy := run_string hyb
        have cb := run_string_c (hb.below bbb)
        obtain ⟨aob, mb, capb, hvb, hmb⟩ := hyb.form'
        subst hvb
        clear he2 hyb byb
        go_wp2
        go_ret
        exact ⟨rfl, bbb⟩
  · skip
    have hq : (encE l == 0) = false := by simpa using hE
    go_enter Try.func4, Try.ntmps4
    go_wp2_with fail
    refine (known_any _).mono ?_
    rintro e w1 ⟨rfl, b1⟩
    have he := encode_any ((il.below b1).more b1.size)
    go_wp2_with fail
    refine he.mono ?_
    rintro e w2 ⟨v2, rfl, h2, b2⟩
    have bb := b1.trans (b2.mono b1.size)
    obtain ⟨ao2, m2, cap2, hv2, hm2⟩ := h2.form'
    subst hv2
    clear he h2 b1 b2 il im OKL OKM hE
    cases hdo : decO bs with
    | none =>
      have hd := decode_any (hb.below bb) hcap
      rw [show decE bs = 2 by unfold decE; rw [hdo]; rfl, show decR bs = [] by unfold decR; rw [hdo]; rfl] at hd
      clear hdo
      go_wp2_with fail
      refine hd.mono ?_
      rintro e wa ⟨va, rfl, ha, ba⟩
      have bba := bb.trans (ba.mono bb.size)
      obtain ⟨aoa, ma, capa, hva, hma⟩ := ha.form'
      obtain rfl : ma = 0 := hma.out
      subst hva
      clear hd ha ba
      go_wp2
      go_ret
      exact ⟨rfl, bba⟩
    | some items =>
      have hd := decode_any (hb.below bb) hcap
      have hed := encode_decode hdo
      rw [show decE bs = 0 by unfold decE; rw [hdo]; rfl, show decR bs = items by unfold decR; rw [hdo]; rfl] at hd
      clear hdo
      go_wp2_with fail
      refine hd.mono ?_
      rintro e wa ⟨va, rfl, ha, ba⟩
      have bba := bb.trans (ba.mono bb.size)
      have he2 := encode_any (ha.items hed.2.2)
      rw [hed.1, hed.2.1] at he2
      obtain ⟨aoa, ma, capa, hva, hma⟩ := ha.form'
      subst hva
      clear hd ha ba hed
      go_wp2_with fail
      refine he2.mono ?_
      rintro e wb ⟨vb, rfl, hyb, byb⟩
      have bbb := bba.trans (byb.mono bba.size)
      have cy := run_string hyb
      have cb := run_string_c (hb.below bbb)
      obtain ⟨aob, mb, capb, hvb, hmb⟩ := hyb.form'
      subst hvb
      clear he2 hyb byb
      go_wp2
      go_ret
      exact ⟨rfl, bbb⟩

/-! ### the row -/
theorem laidOut : laidOutB Try.prog = true := by kernel_rfl
theorem bytesInt : Try.prog.bytesOf 3 = 8 := by kernel_rfl
set_option maxRecDepth 100000 in
theorem lifted (os : Os) (started : os.Started) (H : Type) (enc : TypeId × Value → H) :
    ReturnsInHanded {} Try.checked os 4 .any (Rows.packInverseSpec.pre6 enc Try.prog Try.f4 Rows.packInverseRow.domain false) (Rows.packInverseSpec.post enc Try.prog Try.f4 false true false false) := by
  refine returnsInHanded_of_change_sized (C := Try.checked) own started (by kernel_rfl) Try.func4
    (ChangeSpec.witness6 (enc := enc) (C := Try.checked) false ⟨#[], #[.slice none 0 0, .slice none 0 0, .slice none 0 0], []⟩ 8 (by kernel_rfl) (by kernel_rfl) (by kernel_rfl) (by kernel_rfl)) ?_
  intro W base args ds gs before hval0 hW hcnd hsz0 _
  have hval : ∀ (j : Nat) t v, Try.f4.params[j]? = some t → args[j]? = some v → Value.okWide Try.prog W .any base t v := hval0
  have hW' := hW
  obtain ⟨p, q, hA0, hV, rfl, hfz, hnd⟩ := hW
  have hA : DataW.TrodAll enc Try.prog W 0 (fun _ => true) true Try.f4.params.toList args.toList ds p := hA0
  have hsz : (DataW.weightsEach Try.prog (Try.f4.params.toList ++ Rows.packInverseSpec.plain.varTypes Try.prog) (ds ++ gs)).all (· ≤ reachBytes) = true := hsz0
  rw [Try.params4] at hA hval hsz
  obtain ⟨v0, vs0, d0, ds0, p0, q0, hargs, rfl, rfl, h0, r0⟩ := trodAll_cons hA
  obtain ⟨v1, vs1, d1, ds1, p1, q1, rfl, rfl, rfl, h1, r1⟩ := trodAll_cons r0
  obtain ⟨v2, vs2, d2, ds2, p2, q2, rfl, rfl, rfl, h2, r2⟩ := trodAll_cons r1
  obtain ⟨rfl, rfl, rfl⟩ := trodAll_nil r2
  obtain rfl : args = #[v0, v1, v2] := by cases args; simp_all
  obtain ⟨rfl, rfl⟩ := trodVars_none hV
  have k0 := h0
  have lt0 := args_lt k0
  obtain ⟨z0, w0⟩ := items_arg (hval 0 22 v0 rfl rfl) (fun el sp e => by subst e; have := sized_slice hsz (j := 0) (t := 22) (e := 50) rfl rfl Try.underlying22; rwa [bytesItem] at this) h0
  have k1 := h1
  have lt1 := args_lt k1
  obtain ⟨z1, w1⟩ := items_arg (hval 1 22 v1 rfl rfl) (fun el sp e => by subst e; have := sized_slice hsz (j := 1) (t := 22) (e := 50) rfl rfl Try.underlying22; rwa [bytesItem] at this) h1
  have k2 := h2
  have lt2 := args_lt k2
  obtain ⟨z2, w2⟩ := bytes_arg Try.underlying23 Try.underlying5 (by kernel_rfl) (hval 2 23 v2 rfl rfl) (fun el sp e => by subst e; have := sized_slice hsz (j := 2) (t := 23) (e := 5) rfl rfl Try.underlying23; rwa [bytesU8] at this) h2
  clear hA0 hval0 hsz0
  refine (walk v0 z0 v1 z1 v2 z2 W w0 w1 w2).mono fun e W' ⟨he, bel⟩ => ?_
  subst he
  exact ⟨_, rfl, _, _, _, [], _, [], hW', trodAll_mk1 (shut_bool Try.underlying4 _), (trodAll_cons_mk (Below.trod laidOut (by kernel_rfl) (of_decide_eq_true (by kernel_rfl)) k0 bel lt0) (trodAll_cons_mk (Below.trod laidOut (by kernel_rfl) (of_decide_eq_true (by kernel_rfl)) k1 bel lt1) (trodAll_cons_mk (Below.trod laidOut (by kernel_rfl) (of_decide_eq_true (by kernel_rfl)) k2 bel lt2) trodAll_mk0))), rfl, bel.frame _, fun h => by cases h⟩

theorem over : Rows.packInverseRow.holds Try.pinned (OpenSpec.ofChange Rows.packInverseSpec) :=
  OpenClaim.holds_of_wide 4 Try.f4 rfl rfl rfl rfl rfl rfl rfl ⟨rfl, rfl, rfl, rfl, rfl⟩ rfl rfl rfl rfl rfl (by kernel_rfl) Try.func4 (by kernel_rfl)
    (of_decide_eq_true (by kernel_rfl)) (by unfold Func.isWrapper; first | (rw [if_pos (by decide +kernel)]; kernel_rfl) | (rw [if_neg (by decide +kernel)]; exact ⟨rfl, rfl⟩))
    (fun os started H enc _ => lifted os started H enc)
end Go.Proofs.Ytifbfnfcjkpjfaa.packInverse

namespace Go.Proofs.Ytifbfnfcjkpjfaa
/-- The law returns true at every input. -/
theorem packInverse_holds : Rows.PackInverseSaid := packInverse.over
end Go.Proofs.Ytifbfnfcjkpjfaa

