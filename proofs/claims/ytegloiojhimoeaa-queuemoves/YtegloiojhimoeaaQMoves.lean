/- Setting a priority and setting it back changes nothing; dropping and pushing again makes it the last of its like; a priority ahead of all makes it the first: the law cisternlaw05.QueueMoves returns true at every input. No condition. -/
import Derived.Test.YtegloiojhimoeaaQHas
import Derived.BigQuiet
namespace Go.Proofs.Ytegloiojhimoeaa.queueMoves
open Go.RowKit Go.ChangeShapes Go.WideShapes Go.ChangeAt

theorem own : ownKnob Try.prog.godebug = none := by kernel_rfl
theorem last_of {S : List Wt} {m n : Nat} {q b : Nat} (tu : ∀ x ∈ S, x.turn < n) {M : List Wt} (hp : M.Perm (del S (m : Int) ++ [⟨b, m, q, n⟩])) (hs : M.Pairwise (fun a b => a.ky < b.ky)) {i : Nat} (hi : i + 1 < M.length) (he : (at' M i).id = (m : Int)) : key q < key (at' M (i + 1)).pr := by
  have h1 := sorted_at hs (show i < i + 1 by omega) hi
  have m1 := hp.mem_iff.1 (at_mem (L := M) (i := i) (by omega))
  have m2 := hp.mem_iff.1 (at_mem (L := M) (i := i + 1) hi)
  have f : ∀ x ∈ del S (m : Int), x.id ≠ (m : Int) ∧ x.turn < n := fun x hx => by
    obtain ⟨a, b⟩ := List.mem_filter.1 hx
    exact ⟨by simpa using b, tu x a⟩
  rcases List.mem_append.1 m1 with m1 | m1
  · exact absurd he (f _ m1).1
  · rw [List.mem_singleton] at m1
    rcases List.mem_append.1 m2 with m2 | m2
    · have t2 := (f _ m2).2
      rw [m1] at h1
      unfold Wt.ky at h1
      simp only at h1
      omega
    · rw [List.mem_singleton] at m2
      rw [m1, m2] at h1
      exact absurd h1 (Int.lt_irrefl _)
theorem first_of {S : List Wt} {m : Nat} {f : Nat} (hf : key f = -9218868437227405313) {y : Wt} (hy : y ∈ S) (hyi : y.id = (m : Int)) (tu : ∀ x ∈ S, x.turn < 4611686018427387904) {x : Wt} (hx : IsMin x (put S (m : Int) f)) : key x.pr = key f := by
  have hmem : ({ y with pr := f } : Wt) ∈ put S (m : Int) f := List.mem_map.2 ⟨y, hy, by rw [if_pos hyi]⟩
  have h1 := hx.2 _ hmem
  have t2 := tu y hy
  have h3 := key_low x.pr
  unfold Wt.ky at h1
  simp only at h1
  omega

set_option maxRecDepth 20000 in
set_option maxHeartbeats 6400000 in
theorem walk (v0 : Value) (z0 : List Nat) (a : Int) (_ : (Lit.int .i64 a).wf = true) (p : Nat) (wp : (Lit.float .f64 p).wf = true) (W : World) (w0 : FloatsArg W v0 z0) :
    Calls Try.prog 5 #[v0, .int .i64 a, .float .f64 p] W fun e w' => e = .returned (.bool true) ∧ Below W.heap.size W w' := by
  have hp := float_lt wp
  clear wp
  obtain ⟨ao, cap, rfl, hl0, -⟩ := w0.1.form
  go_enter Try.func5, Try.ntmps5
  go_wp2_with fail
  refine (known_any W).mono ?_
  rintro e w1 ⟨rfl, b1⟩
  go_wp2_with fail
  refine (new_any w1).mono ?_
  rintro e w2 ⟨rfl, q2, b2⟩
  go_wp2
  obtain ⟨n, hn⟩ : ∃ n, n = min z0.length 60 := ⟨_, rfl⟩
  have hm : min (z0.length : Int) 60 = (n : Int) := by omega
  rw [hm]
  have B2 : Hid (Below W.heap.size W w2) := b1.trans (b2.mono b1.size)
  have hsz := b1.size
  have Q2 : Hid (QAt (fun k => k < W.heap.size) w2 w1.heap.size [] 0 0) := q2.less (fun k e => Nat.lt_of_lt_of_le e hsz)
  have hz := zs_lt w0.2
  have hn60 : n ≤ 60 := by omega
  have hnz : n ≤ z0.length := by omega
  clear b1 b2 q2 hm hn
  obtain ⟨z, hze⟩ : ∃ z : Nat → Nat, z = fun i => z0.getD i 0 := ⟨_, rfl⟩
  have hz' : ∀ i, z i < 18446744073709551616 := fun i => by rw [hze]; exact hz i
  have hat : ∀ w', Below W.heap.size W w' → ∀ i, i < z0.length → ∃ b off, ao = some ⟨b, off, none⟩ ∧ w'.cell? ⟨b, off + i, none⟩ = some (.float .f64 (z i)) := fun w' hb i hi => by
    rw [hze]; exact w0.1.at hb hi
  have AT := Lib.hid hat
  clear hat hz hze w0
  generalize z0.length = m at *
  go_loopw [9] (fun kv wr => ∃ (k : Nat) (S : List Wt), k ≤ n ∧ kv = .int .i64 k ∧ QAt (fun k => k < W.heap.size) wr w1.heap.size S k k ∧ HasZ z S (List.range k) ∧ Below W.heap.size W wr) (fun kv _ => n - (intOf kv).toNat)
  case atStart => exact ⟨0, [], Nat.zero_le _, rfl, Q2.out, rfl, B2.out⟩
  case round =>
    clear Q2 B2
    obtain ⟨k, S, hk, rfl, q, hS, hB⟩ := hrel
    by_cases hlk : k < n
    · have hlk' : (k : Int) < (n : Int) := by omega
      obtain ⟨b, off, rfl, ck⟩ := AT.out wr hB k (by omega)
      have hkm : k < m := by omega
      have e3 : IntKind.i64.wrap ((k : Int) + 1) = ((k + 1 : Nat) : Int) := by rw [IntKind.wrap_i64]; omega
      have la : S.length = k := by rw [hS.len]; simp
      have PA := Lib.hid (push_ok q (id := (k : Int)) (p := z k) (by unfold fits; omega) (hz' k) (hS.none (by simp)) (by omega) (by omega) (by unfold maxLen; omega))
      have H := Lib.hid hS
      generalize hk1 : k + 1 = k1 at e3
      clear q hS la
      go_wp2_with fail
      refine PA.out.mono ?_
      rintro e w4 ⟨ba, rfl, q4, k4⟩
      have F := Lib.hid (And.intro q4 (hB.trans (k4.below hB.size (fun _ e => e))))
      clear q4 k4 hB PA ck
      go_wp2
      go_roundw
      case rel =>
        subst hk1
        refine ⟨k + 1, _, hlk, rfl, F.out.1, ?_, F.out.2⟩
        rw [List.range_succ]; exact H.out.push ba k k
      case measure => simp [intOf]; omega
    · obtain rfl : n = k := by omega
      clear hlk hk
      have la : S.length = n := by rw [hS.len]; simp
      by_cases h0 : n = 0
      · subst h0
        have hS0 : S = [] := List.eq_nil_of_length_eq_zero la
        subst hS0
        have F0 : fits 0 := by unfold fits; omega
        have S0 := set_none q F0 rfl p
        have D0 := drop_none q F0 rfl
        have HB := Lib.hid hB
        clear q hB
        go_wp2_with fail
        refine S0.mono ?_
        rintro e _ ⟨rfl, rfl⟩
        go_wp2_with fail
        refine D0.mono ?_
        rintro e _ ⟨rfl, rfl⟩
        go_wp2
        go_ret
        exact ⟨rfl, HB.out⟩
      · have hn0 : ¬ ((n : Int) = 0) := by omega
        obtain ⟨t, ht, hte⟩ := mod_form a n (by omega) (by omega)
        have hun : IntKind.u64.wrap (n : Int) = (n : Int) := by rw [IntKind.wrap_u64]; omega
        have htn : t < n := by omega
        have LA := Lib.hid (list_any q (by omega))
        have Q := Lib.hid q
        have H := Lib.hid (And.intro hS la)
        clear q hS la
        go_wp2_with fail
        rw [hte]
        refine LA.out.mono ?_
        rintro e w3 ⟨aoA, cA, M1, rfl, p1, s1, o1, b3⟩
        obtain ⟨hS, la⟩ := H.out
        have hl1 : M1.length = n := by rw [p1.length_eq]; exact la
        rw [hl1] at o1
        rw [hl1]
        have q3 := Q.out.wider b3
        have B3 := hB.trans (b3.mono hB.size)
        obtain ⟨x, hx1, hx2, hx3, hx4⟩ := hS.some (i := t) (List.mem_range.2 htn)
        have ft : fits (t : Int) := by unfold fits; omega
        have ST := Lib.hid (set_ok q3 ft hx1 hp)
        have HL := Lib.hid (And.intro hl1 (And.intro p1 (And.intro s1 o1)))
        have HX := Lib.hid (And.intro hx1 (And.intro hx2 (And.intro hx3 (And.intro hx4 ft))))
        have hsw := hB.size
        clear q3 o1 p1 s1 hl1 hS la hx1 hx2 hx3 hx4 b3 LA ft
        go_wp2_with fail
        refine ST.out.mono ?_
        rintro e w4 ⟨rfl, q4, k4⟩
        have B4 := B3.trans (k4.below B3.size (fun j hj => Or.inl hj))
        obtain ⟨hb, off, rfl, ct⟩ := AT.out w4 B4 t (by omega)
        have htm : t < m := by omega
        obtain ⟨hx1, hx2, hx3, hx4, ft⟩ := HX.out
        have hx5 : fnd (put S (t : Int) p) (t : Int) = some { x with pr := p } := by rw [fnd_put, hx1]; simp [hx3]
        have ST2 := Lib.hid (set_ok q4 ft hx5 (hz' t))
        have O4 := Lib.hid ((HL.out.2.2.2.x (fun j h1 h2 => Or.inr ⟨h1, h2⟩)).kp k4)
        have HB4 := Lib.hid B4
        clear q4 k4 B4 hx1 hx2 hx3 hx4 ft hx5 ST B3
        go_wp2_with fail
        refine ST2.out.mono ?_
        rintro e w5 ⟨rfl, q5, k5⟩
        obtain ⟨hS, la⟩ := H.out
        rw [put_back (fun y hy e => by
          obtain ⟨j, hj, e1, e2⟩ := hS.mem hy
          have : j = t := by omega
          subst this; exact e2)] at q5
        have B5 := HB4.out.trans (k5.below HB4.out.size (fun j hj => Or.inl hj))
        have O5 := Lib.hid (O4.out.kp k5)
        have LA := Lib.hid (list_any q5 (by omega))
        have Q5 := Lib.hid q5
        clear q5 k5 hS la ST2 HB4 O4 ct
        go_wp2_with fail
        refine LA.out.mono ?_
        rintro e w6 ⟨aoB, cB, M2, rfl, p2, s2, o2, b6⟩
        have e12 : M2 = M1 := uniq_sorted Wt.ky (p2.trans HL.out.2.1.symm) s2 HL.out.2.2.1
        subst e12
        rw [HL.out.1] at o2
        rw [HL.out.1]
        have O6 := Lib.hid (O5.out.below b6)
        have O6' : Hid (OwnE 0 w6 (.slice aoB n cB) M2) := ownsRow_base o2 (fun _ _ => Nat.zero_le _)
        have Q6 := Lib.hid (Q5.out.below b6)
        have B6 := B5.trans (b6.mono B5.size)
        clear p2 s2 o2 b6 LA Q5 O5 B5
        go_wp2
        go_loopw [12] (fun kv wx => ∃ k : Nat, k ≤ n ∧ kv = .int .i64 k ∧ Below w6.heap.size w6 wx) (fun kv _ => n - (intOf kv).toNat)
        case atStart => exact ⟨0, Nat.zero_le _, rfl, Below.refl _ _⟩
        case round =>
          obtain ⟨k, hk, rfl, hbk⟩ := hrel
          by_cases hlk : k < n
          · have hlk' : (k : Int) < (n : Int) := by omega
            have oa' := (O6.out.below hbk).1
            have ob' := O6'.out.below hbk
            have hl1 := HL.out.1
            obtain ⟨ga, rfl, -, a0, -⟩ := oa'.get2 (k := k) (by omega)
            obtain ⟨gb, rfl, -, c0, -⟩ := ob'.get2 (k := k) (by omega)
            have e3 : IntKind.i64.wrap ((k : Int) + 1) = ((k + 1 : Nat) : Int) := by rw [IntKind.wrap_i64]; omega
            generalize (at' M2 k).id = xi at a0 c0
            clear oa' ob' hl1
            generalize hk1 : k + 1 = k1 at e3
            go_wp2_with fail
            have hS : wr.drew.cell? ⟨ga, k * 2, none⟩ = some (.int .i64 xi) ∧ wr.drew.cell? ⟨gb, k * 2, none⟩ = some (.int .i64 xi) := ⟨a0, c0⟩
            refine wp_region_held_drew (S := fun w' => w'.cell? ⟨ga, k * 2, none⟩ = some (.int .i64 xi) ∧ w'.cell? ⟨gb, k * 2, none⟩ = some (.int .i64 xi)) mixed hS (fun _ => ?_)
            show wpAnyH _ _ _ _ _ 11 (Array.replicate 11 false) _ _
            refine wpAnyH_take_d 0 (some 77) (.slice (some ⟨gb, 0, none⟩) n cB) rfl (by kernel_rfl) (by kernel_rfl) (by kernel_rfl) (by kernel_rfl) rfl (fun _ _ _ h => h) (fun _ _ => by kernel_rfl) (by exact hS) ?_
            simp only [Act.put, List.setIfInBounds_toArray, List.set_cons_succ, List.set_cons_zero]
            refine wpAnyH_take_d 1 (some 78) (.int .i64 k) rfl (by kernel_rfl) (by kernel_rfl) (by kernel_rfl) (by kernel_rfl) rfl (fun _ _ _ h => h) (fun _ _ => by kernel_rfl) (by exact hS) ?_
            simp only [Act.put, List.setIfInBounds_toArray, List.set_cons_succ, List.set_cons_zero]
            refine wpAnyH_take_d 2 (some 79) (.pointer (some ⟨gb, 0 + k * 2, none⟩)) rfl (by kernel_rfl) (by kernel_rfl) (by kernel_rfl) (by kernel_rfl) rfl (fun _ _ _ h => h) (fun w' h => exec_indexAddrS rfl rfl rfl hlk Try.underlying39 (by kernel_rfl)) (by exact hS) ?_
            simp only [Act.put, List.setIfInBounds_toArray, List.set_cons_succ, List.set_cons_zero]
            rw [Nat.zero_add]
            refine wpAnyH_take_d 3 (some 80) (.pointer (some ⟨gb, k * 2, none⟩)) rfl (by kernel_rfl) (by kernel_rfl) (by kernel_rfl) (by kernel_rfl) rfl (fun _ _ _ h => h) (fun _ _ => by kernel_rfl) (by exact hS) ?_
            simp only [Act.put, List.setIfInBounds_toArray, List.set_cons_succ, List.set_cons_zero]
            refine wpAnyH_take_d 4 (some 81) (.int .i64 xi) rfl (by kernel_rfl) (by kernel_rfl) (by kernel_rfl) (by kernel_rfl) rfl (fun _ _ _ h => h) (fun w' h => exec_load_cell rfl rfl h.2 Try.underlying3 rfl) (by exact hS) ?_
            simp only [Act.put, List.setIfInBounds_toArray, List.set_cons_succ, List.set_cons_zero]
            refine wpAnyH_take_d 5 (some 82) (.slice (some ⟨ga, 0, none⟩) n cA) rfl (by kernel_rfl) (by kernel_rfl) (by kernel_rfl) (by kernel_rfl) rfl (fun _ _ _ h => h) (fun _ _ => by kernel_rfl) (by exact hS) ?_
            simp only [Act.put, List.setIfInBounds_toArray, List.set_cons_succ, List.set_cons_zero]
            refine wpAnyH_take_d 6 (some 83) (.int .i64 k) rfl (by kernel_rfl) (by kernel_rfl) (by kernel_rfl) (by kernel_rfl) rfl (fun _ _ _ h => h) (fun _ _ => by kernel_rfl) (by exact hS) ?_
            simp only [Act.put, List.setIfInBounds_toArray, List.set_cons_succ, List.set_cons_zero]
            refine wpAnyH_take_d 7 (some 84) (.pointer (some ⟨ga, 0 + k * 2, none⟩)) rfl (by kernel_rfl) (by kernel_rfl) (by kernel_rfl) (by kernel_rfl) rfl (fun _ _ _ h => h) (fun w' h => exec_indexAddrS rfl rfl rfl hlk Try.underlying39 (by kernel_rfl)) (by exact hS) ?_
            simp only [Act.put, List.setIfInBounds_toArray, List.set_cons_succ, List.set_cons_zero]
            rw [Nat.zero_add]
            refine wpAnyH_take_d 8 (some 85) (.pointer (some ⟨ga, k * 2, none⟩)) rfl (by kernel_rfl) (by kernel_rfl) (by kernel_rfl) (by kernel_rfl) rfl (fun _ _ _ h => h) (fun _ _ => by kernel_rfl) (by exact hS) ?_
            simp only [Act.put, List.setIfInBounds_toArray, List.set_cons_succ, List.set_cons_zero]
            refine wpAnyH_take_d 9 (some 86) (.int .i64 xi) rfl (by kernel_rfl) (by kernel_rfl) (by kernel_rfl) (by kernel_rfl) rfl (fun _ _ _ h => h) (fun w' h => exec_load_cell rfl rfl h.1 Try.underlying3 rfl) (by exact hS) ?_
            simp only [Act.put, List.setIfInBounds_toArray, List.set_cons_succ, List.set_cons_zero]
            refine wpAnyH_take_d 10 (some 87) (.bool false) rfl (by kernel_rfl) (by kernel_rfl) (by kernel_rfl) (by kernel_rfl) rfl (fun _ _ _ h => h) (fun w' h => exec_intneq rfl rfl rfl rfl) (by exact hS) ?_
            simp only [Act.put, List.setIfInBounds_toArray, List.set_cons_succ, List.set_cons_zero]
            refine wpAnyH_done (by kernel_rfl) ?_ _
            clear hS a0 c0
            go_wp2
            go_roundw
            case rel => exact ⟨k1, by omega, rfl, hbk.drew⟩
            case measure => simp [intOf]; omega
          · obtain rfl : n = k := by omega
            clear hlk hk
            have q7 := Q6.out.below hbk
            have B7 := B6.trans (hbk.mono B6.size)
            obtain ⟨hx1, hx2, hx3, hx4, ft⟩ := HX.out
            have DR := Lib.hid (drop_ok q7 ft hx1)
            have dl := del_len Q.out.ids hx1
            have hln : (del S (t : Int)).length = n - 1 := by have := H.out.2; omega
            have HT := Lib.hid (And.intro ft hln)
            clear q7 hbk B6 hx1 hx2 hx3 hx4 ft dl hln Q6 O6 O6' HL
            go_wp2_with fail
            refine DR.out.mono ?_
            rintro e w8 ⟨rfl, q8, k8⟩
            have B8 := B7.trans (k8.below B7.size (fun j hj => Or.inl hj))
            have LN := len_any q8
            rw [HT.out.2] at LN
            have e5 : IntKind.i64.wrap ((n : Int) - 1) = ((n - 1 : Nat) : Int) := by rw [IntKind.wrap_i64]; omega
            generalize ((n - 1 : Nat) : Int) = nm at LN e5
            obtain ⟨b', off', e', ct⟩ := AT.out w8 B8 t htm
            cases e'
            have PS := Lib.hid (push_ok q8 (id := (t : Int)) (p := z t) HT.out.1 (hz' t) (by rw [fnd_del, if_pos rfl]) (by rw [HT.out.2]; omega) (by omega) (by unfold maxLen; omega))
            clear q8 k8 B7 DR
            go_wp2_with fail
            refine LN.mono ?_
            rintro e _ ⟨rfl, rfl⟩
            go_wp2_with fail
            refine PS.out.mono ?_
            rintro e w9 ⟨nb, rfl, q9, k9⟩
            have B9 := B8.trans (k9.below B8.size (fun j hj => Or.inl hj))
            have LA := Lib.hid (list_any q9 (by omega))
            have Q9 := Lib.hid q9
            clear q9 k9 B8 LN PS ct e5
            go_wp2_with fail
            refine LA.out.mono ?_
            rintro e w10 ⟨aoC, cC, M4, rfl, p4, s4, o4, b10⟩
            have hl4 : M4.length = n := by
              rw [p4.length_eq, List.length_append, HT.out.2]; simp; omega
            rw [hl4] at o4
            rw [hl4]
            have LT := Lib.hid (fun i (hi : i + 1 < M4.length) (he : (at' M4 i).id = (t : Int)) => last_of Q.out.tu p4 s4 hi he)
            have O10 := Lib.hid o4
            have HPR := Lib.hid (fun i (hi : i < M4.length) => Q9.out.prb _ (p4.mem_iff.1 (at_mem hi)))
            have Q10 := Lib.hid (Q9.out.below b10)
            have B10 := B9.trans (b10.mono B9.size)
            have HL4 := Lib.hid hl4
            clear p4 s4 o4 b10 LA Q9 B9 hl4
            go_wp2
            go_loopw [13] (fun kv wx => ∃ k : Nat, k + 1 ≤ n ∧ kv = .int .i64 k ∧ Below w10.heap.size w10 wx) (fun kv _ => n - (intOf kv).toNat)
            case atStart => exact ⟨0, by omega, rfl, Below.refl _ _⟩
            case round =>
              obtain ⟨k, hk, rfl, hbk⟩ := hrel
              have e3 : IntKind.i64.wrap ((k : Int) + 1) = ((k + 1 : Nat) : Int) := by rw [IntKind.wrap_i64]; omega
              obtain ⟨k1, hk1⟩ : ∃ k1, k1 = k + 1 := ⟨_, rfl⟩
              rw [← hk1] at e3
              by_cases hlk : k1 < n
              · have hlk' : (k1 : Int) < (n : Int) := by omega
                have hkn : k < n := by omega
                have ob' := O10.out.below hbk
                have hl4 := HL4.out
                obtain ⟨gc, rfl, -, a0, -⟩ := ob'.get2 (k := k) (by omega)
                obtain ⟨gc', eg, -, -, c1⟩ := ob'.get2 (k := k1) (by omega)
                cases eg
                obtain ⟨b', off', e', ct⟩ := AT.out wr (B10.trans (hbk.mono B10.size)) t htm
                cases e'
                have lt := fun he => LT.out k (by omega) he
                rw [← hk1] at lt
                generalize (at' M4 k).id = xi at a0 lt
                generalize hxp : (at' M4 k1).pr = xp at c1 lt
                have hxb : xp < 18446744073709551616 := by rw [← hxp]; exact HPR.out k1 (by omega)
                clear ob' hl4
                go_wp2_with fail
                have hS : wr.drew.cell? ⟨gc, k * 2, none⟩ = some (.int .i64 xi) ∧ wr.drew.cell? ⟨gc, k1 * 2 + 1, none⟩ = some (.float .f64 xp) ∧ wr.drew.cell? ⟨hb, off + t, none⟩ = some (.float .f64 (z t)) := ⟨a0, c1, ct⟩
                refine wp_region_held_drew (S := fun w' => w'.cell? ⟨gc, k * 2, none⟩ = some (.int .i64 xi) ∧ w'.cell? ⟨gc, k1 * 2 + 1, none⟩ = some (.float .f64 xp) ∧ w'.cell? ⟨hb, off + t, none⟩ = some (.float .f64 (z t))) mixed hS (fun _ => ?_)
                show wpAnyH _ _ _ _ _ 21 (Array.replicate 21 false) _ _
                refine wpAnyH_take_d 0 (some 117) (.slice (some ⟨gc, 0, none⟩) n cC) rfl (by kernel_rfl) (by kernel_rfl) (by kernel_rfl) (by kernel_rfl) rfl (fun _ _ _ h => h) (fun _ _ => by kernel_rfl) (by exact hS) ?_
                simp only [Act.put, List.setIfInBounds_toArray, List.set_cons_succ, List.set_cons_zero]
                refine wpAnyH_take_d 1 (some 118) (.int .i64 k) rfl (by kernel_rfl) (by kernel_rfl) (by kernel_rfl) (by kernel_rfl) rfl (fun _ _ _ h => h) (fun _ _ => by kernel_rfl) (by exact hS) ?_
                simp only [Act.put, List.setIfInBounds_toArray, List.set_cons_succ, List.set_cons_zero]
                refine wpAnyH_take_d 2 (some 119) (.pointer (some ⟨gc, 0 + k * 2, none⟩)) rfl (by kernel_rfl) (by kernel_rfl) (by kernel_rfl) (by kernel_rfl) rfl (fun _ _ _ h => h) (fun w' h => exec_indexAddrS rfl rfl rfl hkn Try.underlying39 (by kernel_rfl)) (by exact hS) ?_
                simp only [Act.put, List.setIfInBounds_toArray, List.set_cons_succ, List.set_cons_zero]
                rw [Nat.zero_add]
                refine wpAnyH_take_d 3 (some 120) (.pointer (some ⟨gc, k * 2, none⟩)) rfl (by kernel_rfl) (by kernel_rfl) (by kernel_rfl) (by kernel_rfl) rfl (fun _ _ _ h => h) (fun _ _ => by kernel_rfl) (by exact hS) ?_
                simp only [Act.put, List.setIfInBounds_toArray, List.set_cons_succ, List.set_cons_zero]
                refine wpAnyH_take_d 4 (some 121) (.int .i64 xi) rfl (by kernel_rfl) (by kernel_rfl) (by kernel_rfl) (by kernel_rfl) rfl (fun _ _ _ h => h) (fun w' h => exec_load_cell rfl rfl h.1 Try.underlying3 rfl) (by exact hS) ?_
                simp only [Act.put, List.setIfInBounds_toArray, List.set_cons_succ, List.set_cons_zero]
                refine wpAnyH_take_d 5 (some 122) (.int .i64 t) rfl (by kernel_rfl) (by kernel_rfl) (by kernel_rfl) (by kernel_rfl) rfl (fun _ _ _ h => h) (fun _ _ => by kernel_rfl) (by exact hS) ?_
                simp only [Act.put, List.setIfInBounds_toArray, List.set_cons_succ, List.set_cons_zero]
                refine wpAnyH_take_d 6 (some 123) (.bool (xi == (t : Int))) rfl (by kernel_rfl) (by kernel_rfl) (by kernel_rfl) (by kernel_rfl) rfl (fun _ _ _ h => h) (fun _ _ => by kernel_rfl) (by exact hS) ?_
                simp only [Act.put, List.setIfInBounds_toArray, List.set_cons_succ, List.set_cons_zero]
                by_cases hxt : xi = (t : Int)
                · have hbt : (xi == (t : Int)) = true := by simpa using hxt
                  rw [hbt]
                  refine wpAnyH_take_d 7 (some 124) (.bool true) rfl (by kernel_rfl) (by kernel_rfl) (by kernel_rfl) (by kernel_rfl) rfl (fun _ _ _ h => h) (fun _ _ => by kernel_rfl) (by exact hS) ?_
                  simp only [Act.put, List.setIfInBounds_toArray, List.set_cons_succ, List.set_cons_zero]
                  refine wpAnyH_take_d 8 (some 125) (.slice (some ⟨gc, 0, none⟩) n cC) rfl (by kernel_rfl) (by kernel_rfl) (by kernel_rfl) (by kernel_rfl) rfl (fun _ _ _ h => h) (fun _ _ => by kernel_rfl) (by exact hS) ?_
                  simp only [Act.put, List.setIfInBounds_toArray, List.set_cons_succ, List.set_cons_zero]
                  refine wpAnyH_take_d 9 (some 126) (.int .i64 k) rfl (by kernel_rfl) (by kernel_rfl) (by kernel_rfl) (by kernel_rfl) rfl (fun _ _ _ h => h) (fun _ _ => by kernel_rfl) (by exact hS) ?_
                  simp only [Act.put, List.setIfInBounds_toArray, List.set_cons_succ, List.set_cons_zero]
                  refine wpAnyH_take_d 10 (some 127) (.int .i64 (IntKind.i64.wrap ((k : Int) + 1))) rfl (by kernel_rfl) (by kernel_rfl) (by kernel_rfl) (by kernel_rfl) rfl (fun _ _ _ h => h) (fun _ _ => by kernel_rfl) (by exact hS) ?_
                  simp only [Act.put, List.setIfInBounds_toArray, List.set_cons_succ, List.set_cons_zero]
                  rw [e3]
                  refine wpAnyH_take_d 11 (some 128) (.pointer (some ⟨gc, 0 + k1 * 2, none⟩)) rfl (by kernel_rfl) (by kernel_rfl) (by kernel_rfl) (by kernel_rfl) rfl (fun _ _ _ h => h) (fun w' h => exec_indexAddrS rfl rfl rfl hlk Try.underlying39 (by kernel_rfl)) (by exact hS) ?_
                  simp only [Act.put, List.setIfInBounds_toArray, List.set_cons_succ, List.set_cons_zero]
                  rw [Nat.zero_add]
                  refine wpAnyH_take_d 12 (some 129) (.pointer (some ⟨gc, k1 * 2 + 1, none⟩)) rfl (by kernel_rfl) (by kernel_rfl) (by kernel_rfl) (by kernel_rfl) rfl (fun _ _ _ h => h) (fun _ _ => by kernel_rfl) (by exact hS) ?_
                  simp only [Act.put, List.setIfInBounds_toArray, List.set_cons_succ, List.set_cons_zero]
                  refine wpAnyH_take_d 13 (some 130) (.float .f64 xp) rfl (by kernel_rfl) (by kernel_rfl) (by kernel_rfl) (by kernel_rfl) rfl (fun _ _ _ h => h) (fun w' h => exec_load_cell rfl rfl h.2.1 Try.underlying31 rfl) (by exact hS) ?_
                  simp only [Act.put, List.setIfInBounds_toArray, List.set_cons_succ, List.set_cons_zero]
                  refine wpAnyH_take_d 14 (some 131) (.slice (some ⟨hb, off, none⟩) m cap) rfl (by kernel_rfl) (by kernel_rfl) (by kernel_rfl) (by kernel_rfl) rfl (fun _ _ _ h => h) (fun _ _ => by kernel_rfl) (by exact hS) ?_
                  simp only [Act.put, List.setIfInBounds_toArray, List.set_cons_succ, List.set_cons_zero]
                  refine wpAnyH_take_d 15 (some 132) (.int .i64 t) rfl (by kernel_rfl) (by kernel_rfl) (by kernel_rfl) (by kernel_rfl) rfl (fun _ _ _ h => h) (fun _ _ => by kernel_rfl) (by exact hS) ?_
                  simp only [Act.put, List.setIfInBounds_toArray, List.set_cons_succ, List.set_cons_zero]
                  refine wpAnyH_take_d 16 (some 133) (.pointer (some ⟨hb, off + t, none⟩)) rfl (by kernel_rfl) (by kernel_rfl) (by kernel_rfl) (by kernel_rfl) rfl (fun _ _ _ h => h) (fun w' h => exec_indexAddr rfl rfl rfl htm Try.underlying36 (by kernel_rfl)) (by exact hS) ?_
                  simp only [Act.put, List.setIfInBounds_toArray, List.set_cons_succ, List.set_cons_zero]
                  refine wpAnyH_take_d 17 (some 134) (.float .f64 (z t)) rfl (by kernel_rfl) (by kernel_rfl) (by kernel_rfl) (by kernel_rfl) rfl (fun _ _ _ h => h) (fun w' h => exec_load_cell rfl rfl h.2.2 Try.underlying31 rfl) (by exact hS) ?_
                  simp only [Act.put, List.setIfInBounds_toArray, List.set_cons_succ, List.set_cons_zero]
                  refine wpAnyH_call 18 (some 135) 17 #[.float .f64 xp, .float .f64 (z t)] rfl (by kernel_rfl) (by kernel_rfl) rfl (by kernel_rfl) (cmp_any xp (z t) _ hxb (hz' t)) ?_
                  rintro e _ ⟨rfl, rfl⟩
                  refine ⟨_, rfl, hS, ?_⟩
                  simp only [Act.put, List.setIfInBounds_toArray, List.set_cons_succ, List.set_cons_zero]
                  have hc1 : cmpB xp (z t) = 1 := by
                    have := lt hxt
                    unfold cmpB
                    rcases cmpI_cases (key xp) (key (z t)) with ⟨h, _⟩ | ⟨_, e⟩ | ⟨h, _⟩
                    · omega
                    · exact e
                    · omega
                  rw [hc1]
                  refine wpAnyH_one 19 (some 136) (.bool false) rfl (by kernel_rfl) (by kernel_rfl) rfl (by kernel_rfl) (by exact hS) ?_
                  simp only [Act.put, List.setIfInBounds_toArray, List.set_cons_succ, List.set_cons_zero]
                  refine wpAnyH_one 20 (some 137) (.bool false) rfl (by kernel_rfl) (by kernel_rfl) rfl (by kernel_rfl) (by exact hS) ?_
                  simp only [Act.put, List.setIfInBounds_toArray, List.set_cons_succ, List.set_cons_zero]
                  refine wpAnyH_done (by kernel_rfl) ?_ _
                  clear hS a0 c1 ct lt hxp
                  go_wp2
                  go_roundw
                  case rel => exact ⟨k1, by omega, by rw [hk1]; simp, hbk.drew⟩
                  case measure => simp [intOf]; omega
                · have hbt : (xi == (t : Int)) = false := by simpa using hxt
                  rw [hbt]
                  refine wpAnyH_take_d 7 (some 124) (.bool false) rfl (by kernel_rfl) (by kernel_rfl) (by kernel_rfl) (by kernel_rfl) rfl (fun _ _ _ h => h) (fun _ _ => by kernel_rfl) (by exact hS) ?_
                  simp only [Act.put, List.setIfInBounds_toArray, List.set_cons_succ, List.set_cons_zero]
                  refine wpAnyH_skip_d 8 (some 125) rfl (by kernel_rfl) (by kernel_rfl) (by kernel_rfl) (by kernel_rfl) rfl (fun _ _ _ h => h) (by exact hS) ?_
                  simp only [Act.put, List.setIfInBounds_toArray, List.set_cons_succ, List.set_cons_zero]
                  refine wpAnyH_skip_d 9 (some 126) rfl (by kernel_rfl) (by kernel_rfl) (by kernel_rfl) (by kernel_rfl) rfl (fun _ _ _ h => h) (by exact hS) ?_
                  simp only [Act.put, List.setIfInBounds_toArray, List.set_cons_succ, List.set_cons_zero]
                  refine wpAnyH_skip_d 10 (some 127) rfl (by kernel_rfl) (by kernel_rfl) (by kernel_rfl) (by kernel_rfl) rfl (fun _ _ _ h => h) (by exact hS) ?_
                  simp only [Act.put, List.setIfInBounds_toArray, List.set_cons_succ, List.set_cons_zero]
                  refine wpAnyH_skip_d 11 (some 128) rfl (by kernel_rfl) (by kernel_rfl) (by kernel_rfl) (by kernel_rfl) rfl (fun _ _ _ h => h) (by exact hS) ?_
                  simp only [Act.put, List.setIfInBounds_toArray, List.set_cons_succ, List.set_cons_zero]
                  refine wpAnyH_skip_d 12 (some 129) rfl (by kernel_rfl) (by kernel_rfl) (by kernel_rfl) (by kernel_rfl) rfl (fun _ _ _ h => h) (by exact hS) ?_
                  simp only [Act.put, List.setIfInBounds_toArray, List.set_cons_succ, List.set_cons_zero]
                  refine wpAnyH_skip_d 13 (some 130) rfl (by kernel_rfl) (by kernel_rfl) (by kernel_rfl) (by kernel_rfl) rfl (fun _ _ _ h => h) (by exact hS) ?_
                  simp only [Act.put, List.setIfInBounds_toArray, List.set_cons_succ, List.set_cons_zero]
                  refine wpAnyH_skip_d 14 (some 131) rfl (by kernel_rfl) (by kernel_rfl) (by kernel_rfl) (by kernel_rfl) rfl (fun _ _ _ h => h) (by exact hS) ?_
                  simp only [Act.put, List.setIfInBounds_toArray, List.set_cons_succ, List.set_cons_zero]
                  refine wpAnyH_skip_d 15 (some 132) rfl (by kernel_rfl) (by kernel_rfl) (by kernel_rfl) (by kernel_rfl) rfl (fun _ _ _ h => h) (by exact hS) ?_
                  simp only [Act.put, List.setIfInBounds_toArray, List.set_cons_succ, List.set_cons_zero]
                  refine wpAnyH_skip_d 16 (some 133) rfl (by kernel_rfl) (by kernel_rfl) (by kernel_rfl) (by kernel_rfl) rfl (fun _ _ _ h => h) (by exact hS) ?_
                  simp only [Act.put, List.setIfInBounds_toArray, List.set_cons_succ, List.set_cons_zero]
                  refine wpAnyH_skip_d 17 (some 134) rfl (by kernel_rfl) (by kernel_rfl) (by kernel_rfl) (by kernel_rfl) rfl (fun _ _ _ h => h) (by exact hS) ?_
                  simp only [Act.put, List.setIfInBounds_toArray, List.set_cons_succ, List.set_cons_zero]
                  refine wpAnyH_skip_d 18 (some 135) rfl (by kernel_rfl) (by kernel_rfl) (by kernel_rfl) (by kernel_rfl) rfl (fun _ _ _ h => h) (by exact hS) ?_
                  simp only [Act.put, List.setIfInBounds_toArray, List.set_cons_succ, List.set_cons_zero]
                  refine wpAnyH_skip_d 19 (some 136) rfl (by kernel_rfl) (by kernel_rfl) (by kernel_rfl) (by kernel_rfl) rfl (fun _ _ _ h => h) (by exact hS) ?_
                  simp only [Act.put, List.setIfInBounds_toArray, List.set_cons_succ, List.set_cons_zero]
                  refine wpAnyH_one 20 (some 137) (.bool false) rfl (by kernel_rfl) (by kernel_rfl) rfl (by kernel_rfl) (by exact hS) ?_
                  simp only [Act.put, List.setIfInBounds_toArray, List.set_cons_succ, List.set_cons_zero]
                  refine wpAnyH_done (by kernel_rfl) ?_ _
                  clear hS a0 c1 ct lt hxp
                  go_wp2
                  go_roundw
                  case rel => exact ⟨k1, by omega, by rw [hk1]; simp, hbk.drew⟩
                  case measure => simp [intOf]; omega
              · have hlk' : ¬ ((k1 : Int) < (n : Int)) := by omega
                have hof : ofB (-9218868437227405313) = 18442240474082181120 := by decide +kernel
                have hoe : ofE (-9218868437227405313) = 0 := by decide +kernel
                have hkf : key 18442240474082181120 = -9218868437227405313 := by decide +kernel
                have OF := of_any (-9218868437227405313) wr (by decide) (by decide)
                rw [hof, hoe] at OF
                have q11 := Q10.out.below hbk
                have B11 := B10.trans (hbk.mono B10.size)
                have hfx : fnd (del S (t : Int) ++ [(⟨nb, t, z t, n⟩ : Wt)]) (t : Int) = some ⟨nb, t, z t, n⟩ := by
                  rw [fnd_append (x := ⟨nb, t, z t, n⟩) (by show fnd (del S (t : Int)) (t : Int) = none; rw [fnd_del, if_pos rfl])]
                  simp
                have ST := Lib.hid (set_ok q11 HT.out.1 hfx (p := 18442240474082181120) (by decide))
                have FO := Lib.hid (fun x (hx : IsMin x (put (del S (t : Int) ++ [(⟨nb, t, z t, n⟩ : Wt)]) (t : Int) 18442240474082181120)) => first_of (y := ⟨nb, t, z t, n⟩) hkf (by simp) rfl (fun y hy => by have := q11.tu y hy; omega) hx)
                clear q11 hbk hfx hof hoe hkf Q10 O10 HL4 LT
                go_wp2_with fail
                refine OF.mono ?_
                rintro e _ ⟨rfl, rfl⟩
                go_wp2_with fail
                refine ST.out.mono ?_
                rintro e w12 ⟨rfl, q12, k12⟩
                have B12 := B11.trans (k12.below B11.size (fun j hj => Or.inl hj))
                have PK := Lib.hid (peek_ok q12 (by rw [put_length]; simp))
                have PRB := Lib.hid q12.prb
                clear OF ST k12 B11
                go_wp2_with fail
                refine PK.out.mono ?_
                rintro e w13 ⟨mm, rfl, hmm, b13⟩
                have hkey := FO.out mm hmm
                have B13 := B12.trans (b13.mono B12.size)
                have hmb : mm.pr < 18446744073709551616 := PRB.out mm hmm.1
                obtain ⟨mb, mi, mp, mt⟩ := mm
                simp only at hkey hmb
                clear hmm b13 PK FO B12 PRB q12
                go_wp2_with (with_reducible refine wpList_alloc_row rfl 43 rfl #[.int .i64 0, .float .f64 0] (by kernel_rfl) ?_)
                intro w14 hg14 hb14 hs14
                obtain ⟨d0, g0, hst, hg15, -, hbl15⟩ := ent_store hg14 mi mp
                have b15 := hbl15 _ _ hb14 (Nat.le_refl _)
                have c15 := cell_row hg15 0 rfl
                have d15 := cell_row hg15 1 rfl
                have B15 := Lib.hid (B13.trans (b15.mono B13.size))
                clear hg15 hbl15 b15 hg14 hb14 hs14 B13
                generalize hw15 : (w14.setCell ⟨w13.heap.size, 0, none⟩ (.int .i64 mi)).setCell ⟨w13.heap.size, 1, none⟩ (.float .f64 mp) = w15 at *
                clear hw15
                by_cases hmt : mi = (t : Int)
                · subst hmt
                  go_wp2
                  go_ret
                  exact ⟨rfl, B15.out⟩
                · have hmt' : (mi == (t : Int)) = false := by simpa using hmt
                  have CM := cmp_any mp 18442240474082181120 w15 hmb (by decide)
                  rw [cmp_zero hkey] at CM
                  clear hkey
                  go_wp2_with fail
                  refine CM.mono ?_
                  rintro e _ ⟨rfl, rfl⟩
                  go_wp2
                  go_ret
                  exact ⟨rfl, B15.out⟩

/-! ### the row -/
theorem laidOut : laidOutB Try.prog = true := by kernel_rfl
theorem bytesInt : Try.prog.bytesOf 3 = 8 := by kernel_rfl
set_option maxRecDepth 100000 in
theorem lifted (os : Os) (started : os.Started) (H : Type) (enc : TypeId × Value → H) :
    ReturnsInHanded {} Try.checked os 5 .any (Rows.queueMovesSpec.pre6 enc Try.prog Try.f5 Rows.queueMovesRow.domain false) (Rows.queueMovesSpec.post enc Try.prog Try.f5 false true false false) := by
  refine returnsInHanded_of_change_sized (C := Try.checked) own started (by kernel_rfl) Try.func5
    (ChangeSpec.witness6 (enc := enc) (C := Try.checked) false ⟨#[], #[.slice none 0 0, .int .i64 0, .float .f64 0], []⟩ 8 (by kernel_rfl) (by kernel_rfl) (by kernel_rfl) (by kernel_rfl)) ?_
  intro W base args ds gs before hval0 hW hcnd hsz0 _
  have hval : ∀ (j : Nat) t v, Try.f5.params[j]? = some t → args[j]? = some v → Value.okWide Try.prog W .any base t v := hval0
  have hW' := hW
  obtain ⟨p, q, hA0, hV, rfl, hfz, hnd⟩ := hW
  have hA : DataW.TrodAll enc Try.prog W 0 (fun _ => true) true Try.f5.params.toList args.toList ds p := hA0
  have hsz : (DataW.weightsEach Try.prog (Try.f5.params.toList ++ Rows.queueMovesSpec.plain.varTypes Try.prog) (ds ++ gs)).all (· ≤ reachBytes) = true := hsz0
  rw [Try.params5] at hA hval hsz
  obtain ⟨v0, vs0, d0, ds0, p0, q0, hargs, rfl, rfl, h0, r0⟩ := trodAll_cons hA
  obtain ⟨v1, vs1, d1, ds1, p1, q1, rfl, rfl, rfl, h1, r1⟩ := trodAll_cons r0
  obtain ⟨v2, vs2, d2, ds2, p2, q2, rfl, rfl, rfl, h2, r2⟩ := trodAll_cons r1
  obtain ⟨rfl, rfl, rfl⟩ := trodAll_nil r2
  obtain rfl : args = #[v0, v1, v2] := by cases args; simp_all
  obtain ⟨rfl, rfl⟩ := trodVars_none hV
  have k0 := h0
  have lt0 := args_lt k0
  obtain ⟨z0, w0⟩ := floats_arg (hval 0 36 v0 rfl rfl) h0
  obtain ⟨a1, rfl, rfl, rfl, w1⟩ := open_int Try.underlying3 (hval 1 3 v1 rfl rfl) h1
  obtain ⟨a2, rfl, rfl, rfl, w2⟩ := open_float Try.underlying31 (hval 2 31 v2 rfl rfl) h2
  clear hA0 hval0 hsz0
  refine (walk v0 z0 a1 w1 a2 w2 W w0).mono fun e W' ⟨he, bel⟩ => ?_
  subst he
  exact ⟨_, rfl, _, _, _, [], _, [], hW', trodAll_mk1 (shut_bool Try.underlying4 _), (trodAll_cons_mk (Below.trod laidOut (by kernel_rfl) (of_decide_eq_true (by kernel_rfl)) k0 bel lt0) (trodAll_cons_mk (shut_int Try.underlying3 w1) (trodAll_cons_mk (shut_float Try.underlying31 w2) trodAll_mk0))), rfl, bel.frame _, fun h => by cases h⟩

theorem over : Rows.queueMovesRow.holds Try.pinned (OpenSpec.ofChange Rows.queueMovesSpec) :=
  OpenClaim.holds_of_wide 5 Try.f5 rfl rfl rfl rfl rfl rfl rfl ⟨rfl, rfl, rfl, rfl, rfl⟩ rfl rfl rfl rfl rfl (by kernel_rfl) Try.func5 (by kernel_rfl)
    (of_decide_eq_true (by kernel_rfl)) (by unfold Func.isWrapper; first | (rw [if_pos (by decide +kernel)]; kernel_rfl) | (rw [if_neg (by decide +kernel)]; exact ⟨rfl, rfl⟩))
    (fun os started H enc _ => lifted os started H enc)
end Go.Proofs.Ytegloiojhimoeaa.queueMoves

namespace Go.Proofs.Ytegloiojhimoeaa
/-- The law returns true at every input. -/
theorem queueMoves_holds : Rows.QueueMovesSaid := queueMoves.over
end Go.Proofs.Ytegloiojhimoeaa

