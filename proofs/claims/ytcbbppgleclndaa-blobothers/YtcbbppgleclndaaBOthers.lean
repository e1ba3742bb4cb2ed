/- Putting, deleting and getting one blob leaves another one as it is; a deleted one is missing and is listed no longer: the law cisternlaw02.BlobOthers returns true at every input. No condition. -/
import Derived.Test.YtcbbppgleclndaaSArgs
import Derived.Test.YtcbbppgleclndaaBLen
namespace Go.Proofs.Ytcbbppgleclndaa.blobOthers
open Go.RowKit Go.ChangeShapes Go.WideShapes Go.ChangeAt

theorem own : ownKnob Try.prog.godebug = none := by kernel_rfl
abbrev IT : List UInt8 := [105, 116]
abbrev OT : List UInt8 := [111, 116, 104, 101, 114]
theorem nIT : nameB (ByteArray.mk #[105, 116]).data.toList = true := by decide
theorem nOT : nameB (ByteArray.mk #[111, 116, 104, 101, 114]).data.toList = true := by decide
def Two (f : List UInt8 → Option (List UInt8)) : Prop := f OT = some [111] ∧ ∀ x, x ≠ IT → x ≠ OT → f x = none
theorem Two.start : Two (putF (fun _ => none) OT [111]) := ⟨by simp [putF], fun x _ h => by simp [putF, h]⟩
theorem Two.put {f : List UInt8 → Option (List UInt8)} (h : Two f) (bs : List UInt8) : Two (putF f IT bs) := ⟨by simpa [putF] using h.1, fun x h1 h2 => by simpa [putF, h1] using h.2 x h1 h2⟩
theorem Two.del {f : List UInt8 → Option (List UInt8)} (h : Two f) : Two (delF f IT) := ⟨by simpa [delF] using h.1, fun x h1 h2 => by simpa [delF, h1] using h.2 x h1 h2⟩
theorem Two.names2 {f : List UInt8 → Option (List UInt8)} (h : Two f) {bs : List UInt8} (hi : f IT = some bs) : NamesOf f [IT, OT] := by
  refine ⟨by decide, fun x => ?_⟩
  by_cases h1 : x = IT
  · subst h1; simp [hi]
  · by_cases h2 : x = OT
    · subst h2; simp [h.1]
    · simp [h.2 x h1 h2, h1, h2]
theorem Two.names1 {f : List UInt8 → Option (List UInt8)} (h : Two f) (hi : f IT = none) : NamesOf f [OT] := by
  refine ⟨by decide, fun x => ?_⟩
  by_cases h1 : x = IT
  · subst h1; simp [hi]
  · by_cases h2 : x = OT
    · subst h2; simp [h.1]
    · simp [h.2 x h1 h2, h2]
theorem wpList_convert_eq {P : Program} {ops : Array Oper} {rest : List Oper} {o : Oper} {a : Act} {w w1 : World} {Q : Exit → Act → World → Prop} (hgd : o.guard = none) (s t : TypeId) (x : Operand) (ho : o.op = .convert s t x) (u v : Value) (hx : a.eval x = u)
    (hrun : (convert s t u).run P w = .ok v w1) (h : wpList P ops Q rest (a.put o.dst v) w1) : wpList P ops Q (o :: rest) a w :=
  wpList_value hgd (exec_convert ho hx hrun) h
section
variable {bl : List UInt8 → Option (List UInt8)} {c : Nat} {bs : List UInt8}
theorem put_first : Sto.fresh.putE (ByteArray.mk #[111, 116, 104, 101, 114]) [111] = 0 ∧ Sto.fresh.put (ByteArray.mk #[111, 116, 104, 101, 114]) [111] = ⟨putF (fun _ => none) OT [111], 0, ByteArray.empty, [], 1⟩ := by
  unfold Sto.putE Sto.put
  rw [nOT, if_pos rfl, if_pos rfl, if_pos (by decide), if_pos (by decide)]
  exact ⟨rfl, rfl⟩
theorem put_it (hb : bs.length ≤ 60000) : (⟨bl, 0, ByteArray.empty, [], c⟩ : Sto).putE (ByteArray.mk #[105, 116]) bs = 0 ∧ (⟨bl, 0, ByteArray.empty, [], c⟩ : Sto).put (ByteArray.mk #[105, 116]) bs = ⟨putF bl IT bs, 0, ByteArray.empty, [], c + 1⟩ := by
  unfold Sto.putE Sto.put
  rw [nIT, if_pos rfl, if_pos rfl, if_pos hb, if_pos hb]
  exact ⟨rfl, rfl⟩
theorem del_it : (⟨bl, 0, ByteArray.empty, [], c⟩ : Sto).delE (ByteArray.mk #[105, 116]) = 0 ∧ (⟨bl, 0, ByteArray.empty, [], c⟩ : Sto).del (ByteArray.mk #[105, 116]) = ⟨delF bl IT, 0, ByteArray.empty, [], c + 1⟩ := by
  unfold Sto.delE Sto.del
  rw [nIT, if_pos rfl, if_pos rfl]
  exact ⟨rfl, rfl⟩
theorem get_one {nm : ByteArray} (h0 : nameB nm.data.toList = true) : (⟨bl, 0, ByteArray.empty, [], c⟩ : Sto).get nm = ⟨bl, 0, ByteArray.empty, [], c + 1⟩ := by
  unfold Sto.get; rw [h0]; rfl
theorem get_miss {nm : ByteArray} (h0 : nameB nm.data.toList = true) (h : bl nm.data.toList = none) : (⟨bl, 0, ByteArray.empty, [], c⟩ : Sto).getE nm = 7 ∧ (⟨bl, 0, ByteArray.empty, [], c⟩ : Sto).getB nm = [] := by
  have h1 : (⟨bl, 0, ByteArray.empty, [], c⟩ : Sto).out = 0 := rfl
  have h2 : (⟨bl, 0, ByteArray.empty, [], c⟩ : Sto).blobs nm.data.toList = none := h
  constructor
  · unfold Sto.getE; rw [h0, if_pos rfl, h1, if_pos rfl, h2]; rfl
  · unfold Sto.getB; rw [h0, if_pos rfl, h1, if_pos rfl, h2]; rfl
theorem get_there {nm : ByteArray} {t : List UInt8} (h0 : nameB nm.data.toList = true) (h : bl nm.data.toList = some t) : (⟨bl, 0, ByteArray.empty, [], c⟩ : Sto).getE nm = 0 ∧ (⟨bl, 0, ByteArray.empty, [], c⟩ : Sto).getB nm = t := by
  have h1 : (⟨bl, 0, ByteArray.empty, [], c⟩ : Sto).out = 0 := rfl
  have h2 : (⟨bl, 0, ByteArray.empty, [], c⟩ : Sto).blobs nm.data.toList = some t := h
  constructor
  · unfold Sto.getE; rw [h0, if_pos rfl, h1, if_pos rfl, h2]; rfl
  · unfold Sto.getB; rw [h0, if_pos rfl, h1, if_pos rfl, h2]; rfl
end
set_option maxRecDepth 20000 in
set_option maxHeartbeats 8000000 in
theorem walk (v0 : Value) (z0 : List ByteArray) (v1 : Value) (z1 : List Bool) (W : World) (w0 : StrsArg W v0 z0) (w1 : BoolsArg W v1 z1) :
    Calls Try.prog 7 #[v0, v1] W fun e w' => e = .returned (.bool true) ∧ Below W.heap.size W w' := by
  obtain ⟨ao, cap, rfl, hlen, -⟩ := w0.1.form
  obtain ⟨ao1, cap1, rfl, hlen1, -⟩ := ArgRow.form w1
  go_enter Try.func7, Try.ntmps7
  go_wp2_with fail
  refine (known_any W).mono ?_
  rintro e wa ⟨rfl, ba⟩
  go_wp2_with fail
  refine (new_any wa).mono ?_
  rintro e wb ⟨rfl, hb, bb⟩
  have bc : Below W.heap.size W wb := ba.trans (bb.mono ba.size)
  replace hb := hb.less (X' := fun k => k < W.heap.size) (fun k hk => Nat.lt_of_lt_of_le hk ba.size)
  have hcv := conv_lit
  go_wp2_with fail
  have hp := put_any (hb.wd (below_alloc wb (.cells #[byteV 111] 5 (1, 2)))) (by show (0 : Nat) < _; decide) (by decide) (ByteArray.mk #[111, 116, 104, 101, 114]) (by decide) (bytes_lit1 wb 111)
  rw [put_first.1, put_first.2] at hp
  refine hp.mono ?_
  rintro e w2 ⟨rfl, hs2, kp2⟩
  have b2 : Below W.heap.size W w2 := below_step bc (below_alloc wb _) kp2.unwd bc.size (fun k hk => hk)
  replace hs2 := hs2.unwd
  clear hp kp2 hb bc ba bb hcv
  go_wp2
  go_loopw [6, 7] (fun tv iv wr => ∃ k : Nat, k ≤ z0.length ∧ k ≤ 30 ∧ iv = .int .i64 k ∧ ∃ tb X bl c, tv = .bool tb ∧ (∀ j, j < W.heap.size → X j) ∧ c ≤ 4 * k + 1 ∧
      StoAt X wr wa.heap.size ⟨bl, 0, ByteArray.empty, [], c⟩ (k + 1) ∧ Two bl ∧ Below W.heap.size W wr) (fun _ iv _ => 30 - (intOf iv).toNat)
  case atStart => exact ⟨0, Nat.zero_le _, Nat.zero_le _, rfl, false, _, _, _, rfl, fun j hj => hj, Nat.le_refl _, hs2, Two.start, b2⟩
  case round =>
    clear hs2 b2
    obtain ⟨k, hk1, hk2, rfl, tb, X, bl, c, rfl, hX, hcc, hs, htwo, bk⟩ := hrel
    by_cases hlt : k < z0.length
    · by_cases h30 : k < 30
      · obtain ⟨b, off, rfl, hcell⟩ := w0.1.at bk hlt
        have hds := str_size w0.2 k
        obtain ⟨d, hd⟩ : ∃ f, z0.getD k ByteArray.empty = f := ⟨_, rfl⟩
        have hcA : ∀ w', Below W.heap.size W w' → w'.cell? ⟨b, off + k, none⟩ = some (.string d) := fun w' hb => by
          obtain ⟨b', off', e, h⟩ := w0.1.at hb hlt
          cases e
          rw [hd] at h; exact h
        rw [hd] at hcell hds
        clear hd
        by_cases h5 : d.size ≤ 5000
        · have h5' : decide ((5000 : Int) < (d.size : Int)) = false := by simp; omega
          have hbs : d.data.toList.length ≤ 60000 := by have : d.data.toList.length = d.size := by rw [Array.length_toList]; rfl
                                                        omega
          by_cases hz1 : k < z1.length
          · obtain ⟨b1, off1, rfl, hcell1⟩ := ArgRow.at w1 bk hz1
            obtain ⟨dr, hdr⟩ : ∃ f, z1.getD k false = f := ⟨_, rfl⟩
            replace hcell1 : wr.cell? ⟨b1, off1 + k, none⟩ = some (.bool dr) := by rw [← hdr]; exact hcell1
            clear hdr
            cases dr
            · obtain ⟨vb, w3, hrun3, by3, bl3⟩ := run_bytes_of wr d hds
              have RUN3 := Lib.hid hrun3
              clear hrun3
              go_wp2_with (with_reducible refine wpList_convert_eq rfl 9 36 (.tmp 56) rfl (.string d) vb rfl RUN3.out ?_)
              have hs3 := hs.wd bl3
              have by3' := by3.mono (Y' := Wd X wr.heap.size w3.heap.size) (fun _ _ h => Or.inr h)
              have hX4 : ∀ j, j < W.heap.size → Wd X wr.heap.size w3.heap.size j := fun j hj => Or.inl (hX j hj)
              have b3 : Below W.heap.size W w3 := bk.trans (bl3.mono bk.size)
              generalize Wd X wr.heap.size w3.heap.size = X4 at hs3 by3' hX4
              have hp := put_any hs3 (by show c < _; omega) (by unfold maxLen; omega) (ByteArray.mk #[105, 116]) (by decide) by3'
              rw [(put_it hbs).1, (put_it hbs).2] at hp
              refine hp.mono ?_
              rintro e w4 ⟨rfl, hs4, kp4⟩
              have b4 : Below W.heap.size W w4 := below_step b3 (Below.refl _ _) kp4 b3.size hX4
              have two4 := htwo.put d.data.toList
              have hi4 : putF bl IT d.data.toList IT = some d.data.toList := by simp [putF]
              generalize putF bl IT d.data.toList = bl4 at hs4 two4 hi4
              have nm := two4.names2 hi4
              obtain ⟨e1, e2⟩ := get_there (bl := bl4) (c := c + 1) (nm := ByteArray.mk #[105, 116]) nIT hi4
              have sz4 : ∀ t, bl4 IT = some t → t.length ≤ 1000000000000 := fun t ht => by rw [hi4] at ht; cases ht; omega
              clear hp kp4 hs3 by3 by3' b3 bl3 RUN3 hs hX bk hcell htwo
              have hg := get_any hs4 (by show c + 1 < _; omega) (ByteArray.mk #[105, 116]) (by decide) sz4
              rw [get_one nIT, e1, e2] at hg
              go_wp2_with fail
              refine hg.mono ?_
              rintro e w5 ⟨v5, m5, rfl, hm5, hs5, by5, kp5⟩
              have b5 : Below W.heap.size W w5 := below_step b4 (Below.refl _ _) kp5 b4.size hX4
              have hX5 : ∀ j, j < W.heap.size → Wd X4 m5 w5.heap.size j := fun j hj => Or.inl (hX4 j hj)
              generalize Wd X4 m5 w5.heap.size = X5 at hs5 by5 hX5
              clear hg hs4 kp5 b4 hX4 hm5 e1 e2 sz4
              obtain ⟨e1, e2⟩ := get_there (bl := bl4) (c := c + 1 + 1) (nm := ByteArray.mk #[111, 116, 104, 101, 114]) nOT two4.1
              have sz4 : ∀ t, bl4 OT = some t → t.length ≤ 1000000000000 := fun t ht => by rw [two4.1] at ht; cases ht; decide
              have hg := get_any hs5 (by show c + 1 + 1 < _; omega) (ByteArray.mk #[111, 116, 104, 101, 114]) (by decide) sz4
              rw [get_one nOT, e1, e2] at hg
              go_wp2_with fail
              refine hg.mono ?_
              rintro e w6 ⟨v6, m6, rfl, hm6, hs6, by6, kp6⟩
              have b6 : Below W.heap.size W w6 := below_step b5 (Below.refl _ _) kp6 b5.size hX5
              have hX6 : ∀ j, j < W.heap.size → Wd X5 m6 w6.heap.size j := fun j hj => Or.inl (hX5 j hj)
              have by5' := (by5.keep (fun k o hx ho => kp6.keep k o hx ho)).mono (Y' := Wd X5 m6 w6.heap.size) (fun _ _ h => Or.inl h)
              generalize Wd X5 m6 w6.heap.size = X6 at hs6 by6 hX6 by5'
              clear hg hs5 kp6 b5 hX5 hm6 e1 e2 sz4 by5
              have hl := list_len hs6 (by show c + 1 + 1 + 1 < _; omega) (by omega) rfl nm (n := 2) rfl
              go_wp2_with fail
              refine hl.mono ?_
              rintro e w7 ⟨ao7, cap7, rfl, hs7, kp7⟩
              have b7 : Below W.heap.size W w7 := below_step b6 (Below.refl _ _) kp7 b6.size hX6
              replace hs7 : StoAt X6 w7 wa.heap.size ⟨bl4, 0, ByteArray.empty, [], c + 1 + 1 + 1 + 1⟩ (k + 1 + 1) := hs7
              have by7 := by5'.keep (fun k o hx ho => kp7.keep k o hx ho)
              have by8 := by6.keep (fun k o hx ho => kp7.keep k o hx ho)
              clear hl hs6 kp7 b6 by6 by5' nm hi4
              have hcv5 := run_string_at (w := w7.drew) (by7.keep (w' := w7.drew) (fun _ _ _ h => h)).at
              have hcv6 := run_string_at (w := w7.drew) (by8.keep (w' := w7.drew) (fun _ _ _ h => h)).at
              have hcl := hcA w7.drew b7.drew
              go_wp2_with fail
              have hS : w7.drew = w7.drew := rfl
              refine wp_region_held_drew (S := fun w' => w' = w7.drew) mixed hS (fun _ => ?_)
              show wpAnyH _ _ _ _ _ 41 (Array.replicate 41 false) _ _
              refine wpAnyH_take_d 0 (some 76) (.int .i64 0) rfl (by kernel_rfl) (by kernel_rfl) (by kernel_rfl) (by kernel_rfl) rfl (fun _ _ _ h => h) (fun _ _ => by kernel_rfl) (by exact hS) ?_
              simp only [Act.put, List.setIfInBounds_toArray, List.set_cons_succ, List.set_cons_zero]
              refine wpAnyH_take_d 1 (some 77) (.bool false) rfl (by kernel_rfl) (by kernel_rfl) (by kernel_rfl) (by kernel_rfl) rfl (fun _ _ _ h => h) (fun _ _ => by kernel_rfl) (by exact hS) ?_
              simp only [Act.put, List.setIfInBounds_toArray, List.set_cons_succ, List.set_cons_zero]
              refine wpAnyH_take_d 2 (some 78) (.bool false) rfl (by kernel_rfl) (by kernel_rfl) (by kernel_rfl) (by kernel_rfl) rfl (fun _ _ _ h => h) (fun _ _ => by kernel_rfl) (by exact hS) ?_
              simp only [Act.put, List.setIfInBounds_toArray, List.set_cons_succ, List.set_cons_zero]
              refine wpAnyH_take_d 3 (some 79) (v6) rfl (by kernel_rfl) (by kernel_rfl) (by kernel_rfl) (by kernel_rfl) rfl (fun _ _ _ h => h) (fun _ _ => by kernel_rfl) (by exact hS) ?_
              simp only [Act.put, List.setIfInBounds_toArray, List.set_cons_succ, List.set_cons_zero]
              refine wpAnyH_take_d 4 (some 80) (.string (strOf [111])) rfl (by kernel_rfl) (by kernel_rfl) (by kernel_rfl) (by kernel_rfl) rfl (fun _ _ _ h => h) (fun w' h => by subst h; exact exec_convert rfl rfl hcv6) (by exact hS) ?_
              simp only [Act.put, List.setIfInBounds_toArray, List.set_cons_succ, List.set_cons_zero]
              refine wpAnyH_take_d 5 (some 81) (.bool false) rfl (by kernel_rfl) (by kernel_rfl) (by kernel_rfl) (by kernel_rfl) rfl (fun _ _ _ h => h) (fun w' h => exec_strneq rfl rfl rfl (by simp [strOf, ByteArray.toList_eq])) (by exact hS) ?_
              simp only [Act.put, List.setIfInBounds_toArray, List.set_cons_succ, List.set_cons_zero]
              refine wpAnyH_take_d 6 (some 82) (.bool false) rfl (by kernel_rfl) (by kernel_rfl) (by kernel_rfl) (by kernel_rfl) rfl (fun _ _ _ h => h) (fun _ _ => by kernel_rfl) (by exact hS) ?_
              simp only [Act.put, List.setIfInBounds_toArray, List.set_cons_succ, List.set_cons_zero]
              refine wpAnyH_take_d 7 (some 83) (.bool false) rfl (by kernel_rfl) (by kernel_rfl) (by kernel_rfl) (by kernel_rfl) rfl (fun _ _ _ h => h) (fun _ _ => by kernel_rfl) (by exact hS) ?_
              simp only [Act.put, List.setIfInBounds_toArray, List.set_cons_succ, List.set_cons_zero]
              refine wpAnyH_take_d 8 (some 84) (.int .i64 0) rfl (by kernel_rfl) (by kernel_rfl) (by kernel_rfl) (by kernel_rfl) rfl (fun _ _ _ h => h) (fun _ _ => by kernel_rfl) (by exact hS) ?_
              simp only [Act.put, List.setIfInBounds_toArray, List.set_cons_succ, List.set_cons_zero]
              refine wpAnyH_take_d 9 (some 85) (.bool false) rfl (by kernel_rfl) (by kernel_rfl) (by kernel_rfl) (by kernel_rfl) rfl (fun _ _ _ h => h) (fun _ _ => by kernel_rfl) (by exact hS) ?_
              simp only [Act.put, List.setIfInBounds_toArray, List.set_cons_succ, List.set_cons_zero]
              refine wpAnyH_take_d 10 (some 86) (.bool false) rfl (by kernel_rfl) (by kernel_rfl) (by kernel_rfl) (by kernel_rfl) rfl (fun _ _ _ h => h) (fun _ _ => by kernel_rfl) (by exact hS) ?_
              simp only [Act.put, List.setIfInBounds_toArray, List.set_cons_succ, List.set_cons_zero]
              refine wpAnyH_take_d 11 (some 87) (.bool false) rfl (by kernel_rfl) (by kernel_rfl) (by kernel_rfl) (by kernel_rfl) rfl (fun _ _ _ h => h) (fun _ _ => by kernel_rfl) (by exact hS) ?_
              simp only [Act.put, List.setIfInBounds_toArray, List.set_cons_succ, List.set_cons_zero]
              refine wpAnyH_take_d 12 (some 88) (.slice ao7 2 cap7) rfl (by kernel_rfl) (by kernel_rfl) (by kernel_rfl) (by kernel_rfl) rfl (fun _ _ _ h => h) (fun _ _ => by kernel_rfl) (by exact hS) ?_
              simp only [Act.put, List.setIfInBounds_toArray, List.set_cons_succ, List.set_cons_zero]
              refine wpAnyH_take_d 13 (some 89) (.int .i64 2) rfl (by kernel_rfl) (by kernel_rfl) (by kernel_rfl) (by kernel_rfl) rfl (fun _ _ _ h => h) (fun _ _ => by kernel_rfl) (by exact hS) ?_
              simp only [Act.put, List.setIfInBounds_toArray, List.set_cons_succ, List.set_cons_zero]
              refine wpAnyH_take_d 14 (some 90) (.int .i64 2) rfl (by kernel_rfl) (by kernel_rfl) (by kernel_rfl) (by kernel_rfl) rfl (fun _ _ _ h => h) (fun _ _ => by kernel_rfl) (by exact hS) ?_
              simp only [Act.put, List.setIfInBounds_toArray, List.set_cons_succ, List.set_cons_zero]
              refine wpAnyH_take_d 15 (some 91) (.bool false) rfl (by kernel_rfl) (by kernel_rfl) (by kernel_rfl) (by kernel_rfl) rfl (fun _ _ _ h => h) (fun _ _ => by kernel_rfl) (by exact hS) ?_
              simp only [Act.put, List.setIfInBounds_toArray, List.set_cons_succ, List.set_cons_zero]
              refine wpAnyH_take_d 16 (some 92) (.bool false) rfl (by kernel_rfl) (by kernel_rfl) (by kernel_rfl) (by kernel_rfl) rfl (fun _ _ _ h => h) (fun _ _ => by kernel_rfl) (by exact hS) ?_
              simp only [Act.put, List.setIfInBounds_toArray, List.set_cons_succ, List.set_cons_zero]
              refine wpAnyH_take_d 17 (some 93) (.bool false) rfl (by kernel_rfl) (by kernel_rfl) (by kernel_rfl) (by kernel_rfl) rfl (fun _ _ _ h => h) (fun _ _ => by kernel_rfl) (by exact hS) ?_
              simp only [Act.put, List.setIfInBounds_toArray, List.set_cons_succ, List.set_cons_zero]
              refine wpAnyH_take_d 18 (some 94) (.bool true) rfl (by kernel_rfl) (by kernel_rfl) (by kernel_rfl) (by kernel_rfl) rfl (fun _ _ _ h => h) (fun _ _ => by kernel_rfl) (by exact hS) ?_
              simp only [Act.put, List.setIfInBounds_toArray, List.set_cons_succ, List.set_cons_zero]
              refine wpAnyH_take_d 19 (some 95) (.bool true) rfl (by kernel_rfl) (by kernel_rfl) (by kernel_rfl) (by kernel_rfl) rfl (fun _ _ _ h => h) (fun _ _ => by kernel_rfl) (by exact hS) ?_
              simp only [Act.put, List.setIfInBounds_toArray, List.set_cons_succ, List.set_cons_zero]
              refine wpAnyH_take_d 20 (some 96) (.int .i64 0) rfl (by kernel_rfl) (by kernel_rfl) (by kernel_rfl) (by kernel_rfl) rfl (fun _ _ _ h => h) (fun _ _ => by kernel_rfl) (by exact hS) ?_
              simp only [Act.put, List.setIfInBounds_toArray, List.set_cons_succ, List.set_cons_zero]
              refine wpAnyH_take_d 21 (some 97) (.bool false) rfl (by kernel_rfl) (by kernel_rfl) (by kernel_rfl) (by kernel_rfl) rfl (fun _ _ _ h => h) (fun _ _ => by kernel_rfl) (by exact hS) ?_
              simp only [Act.put, List.setIfInBounds_toArray, List.set_cons_succ, List.set_cons_zero]
              refine wpAnyH_take_d 22 (some 98) (.bool false) rfl (by kernel_rfl) (by kernel_rfl) (by kernel_rfl) (by kernel_rfl) rfl (fun _ _ _ h => h) (fun _ _ => by kernel_rfl) (by exact hS) ?_
              simp only [Act.put, List.setIfInBounds_toArray, List.set_cons_succ, List.set_cons_zero]
              refine wpAnyH_take_d 23 (some 99) (v5) rfl (by kernel_rfl) (by kernel_rfl) (by kernel_rfl) (by kernel_rfl) rfl (fun _ _ _ h => h) (fun _ _ => by kernel_rfl) (by exact hS) ?_
              simp only [Act.put, List.setIfInBounds_toArray, List.set_cons_succ, List.set_cons_zero]
              refine wpAnyH_take_d 24 (some 100) (.string (strOf d.data.toList)) rfl (by kernel_rfl) (by kernel_rfl) (by kernel_rfl) (by kernel_rfl) rfl (fun _ _ _ h => h) (fun w' h => by subst h; exact exec_convert rfl rfl hcv5) (by exact hS) ?_
              simp only [Act.put, List.setIfInBounds_toArray, List.set_cons_succ, List.set_cons_zero]
              refine wpAnyH_take_d 25 (some 101) (.slice (some ⟨b, off, none⟩) z0.length cap) rfl (by kernel_rfl) (by kernel_rfl) (by kernel_rfl) (by kernel_rfl) rfl (fun _ _ _ h => h) (fun _ _ => by kernel_rfl) (by exact hS) ?_
              simp only [Act.put, List.setIfInBounds_toArray, List.set_cons_succ, List.set_cons_zero]
              refine wpAnyH_take_d 26 (some 102) (.int .i64 k) rfl (by kernel_rfl) (by kernel_rfl) (by kernel_rfl) (by kernel_rfl) rfl (fun _ _ _ h => h) (fun _ _ => by kernel_rfl) (by exact hS) ?_
              simp only [Act.put, List.setIfInBounds_toArray, List.set_cons_succ, List.set_cons_zero]
              refine wpAnyH_take_d 27 (some 103) (.pointer (some ⟨b, off + k, none⟩)) rfl (by kernel_rfl) (by kernel_rfl) (by kernel_rfl) (by kernel_rfl) rfl (fun _ _ _ h => h) (fun w' h => exec_indexAddr rfl rfl rfl hlt Try.underlying27 (by kernel_rfl)) (by exact hS) ?_
              simp only [Act.put, List.setIfInBounds_toArray, List.set_cons_succ, List.set_cons_zero]
              refine wpAnyH_take_d 28 (some 104) (.string d) rfl (by kernel_rfl) (by kernel_rfl) (by kernel_rfl) (by kernel_rfl) rfl (fun _ _ _ h => h) (fun w' h => by subst h; exact exec_load_cell rfl rfl hcl Try.underlying9 rfl) (by exact hS) ?_
              simp only [Act.put, List.setIfInBounds_toArray, List.set_cons_succ, List.set_cons_zero]
              refine wpAnyH_take_d 29 (some 105) (.bool false) rfl (by kernel_rfl) (by kernel_rfl) (by kernel_rfl) (by kernel_rfl) rfl (fun _ _ _ h => h) (fun w' h => exec_strneq rfl rfl rfl (by simp [strOf, ByteArray.toList_eq])) (by exact hS) ?_
              simp only [Act.put, List.setIfInBounds_toArray, List.set_cons_succ, List.set_cons_zero]
              refine wpAnyH_take_d 30 (some 106) (.bool false) rfl (by kernel_rfl) (by kernel_rfl) (by kernel_rfl) (by kernel_rfl) rfl (fun _ _ _ h => h) (fun _ _ => by kernel_rfl) (by exact hS) ?_
              simp only [Act.put, List.setIfInBounds_toArray, List.set_cons_succ, List.set_cons_zero]
              refine wpAnyH_take_d 31 (some 107) (.bool false) rfl (by kernel_rfl) (by kernel_rfl) (by kernel_rfl) (by kernel_rfl) rfl (fun _ _ _ h => h) (fun _ _ => by kernel_rfl) (by exact hS) ?_
              simp only [Act.put, List.setIfInBounds_toArray, List.set_cons_succ, List.set_cons_zero]
              refine wpAnyH_take_d 32 (some 108) (.bool false) rfl (by kernel_rfl) (by kernel_rfl) (by kernel_rfl) (by kernel_rfl) rfl (fun _ _ _ h => h) (fun _ _ => by kernel_rfl) (by exact hS) ?_
              simp only [Act.put, List.setIfInBounds_toArray, List.set_cons_succ, List.set_cons_zero]
              refine wpAnyH_take_d 33 (some 109) (.bool false) rfl (by kernel_rfl) (by kernel_rfl) (by kernel_rfl) (by kernel_rfl) rfl (fun _ _ _ h => h) (fun _ _ => by kernel_rfl) (by exact hS) ?_
              simp only [Act.put, List.setIfInBounds_toArray, List.set_cons_succ, List.set_cons_zero]
              refine wpAnyH_take_d 34 (some 110) (.bool true) rfl (by kernel_rfl) (by kernel_rfl) (by kernel_rfl) (by kernel_rfl) rfl (fun _ _ _ h => h) (fun _ _ => by kernel_rfl) (by exact hS) ?_
              simp only [Act.put, List.setIfInBounds_toArray, List.set_cons_succ, List.set_cons_zero]
              refine wpAnyH_take_d 35 (some 111) (.bool false) rfl (by kernel_rfl) (by kernel_rfl) (by kernel_rfl) (by kernel_rfl) rfl (fun _ _ _ h => h) (fun _ _ => by kernel_rfl) (by exact hS) ?_
              simp only [Act.put, List.setIfInBounds_toArray, List.set_cons_succ, List.set_cons_zero]
              refine wpAnyH_take_d 36 (some 112) (.bool false) rfl (by kernel_rfl) (by kernel_rfl) (by kernel_rfl) (by kernel_rfl) rfl (fun _ _ _ h => h) (fun _ _ => by kernel_rfl) (by exact hS) ?_
              simp only [Act.put, List.setIfInBounds_toArray, List.set_cons_succ, List.set_cons_zero]
              refine wpAnyH_skip_d 37 (some 113) rfl (by kernel_rfl) (by kernel_rfl) (by kernel_rfl) (by kernel_rfl) rfl (fun _ _ _ h => h) (by exact hS) ?_
              simp only [Act.put, List.setIfInBounds_toArray, List.set_cons_succ, List.set_cons_zero]
              refine wpAnyH_skip_d 38 (some 114) rfl (by kernel_rfl) (by kernel_rfl) (by kernel_rfl) (by kernel_rfl) rfl (fun _ _ _ h => h) (by exact hS) ?_
              simp only [Act.put, List.setIfInBounds_toArray, List.set_cons_succ, List.set_cons_zero]
              refine wpAnyH_take_d 39 (some 115) (.bool false) rfl (by kernel_rfl) (by kernel_rfl) (by kernel_rfl) (by kernel_rfl) rfl (fun _ _ _ h => h) (fun _ _ => by kernel_rfl) (by exact hS) ?_
              simp only [Act.put, List.setIfInBounds_toArray, List.set_cons_succ, List.set_cons_zero]
              refine wpAnyH_take_d 40 (some 116) (.bool false) rfl (by kernel_rfl) (by kernel_rfl) (by kernel_rfl) (by kernel_rfl) rfl (fun _ _ _ h => h) (fun _ _ => by kernel_rfl) (by exact hS) ?_
              simp only [Act.put, List.setIfInBounds_toArray, List.set_cons_succ, List.set_cons_zero]
              refine wpAnyH_done (by kernel_rfl) ?_ _
              have SX := Lib.hid (hs7.drew.more (N' := k + 1 + 1) (by omega))
              have BX := Lib.hid b7.drew
              clear hs7 b7 by7 by8 hcv5 hcv6 hcl hcA hS
              go_wp2
              go_roundw
              case rel => exact ⟨k + 1, by omega, by omega, by go_num, true, X6, bl4, c + 1 + 1 + 1 + 1, rfl, hX6, by omega, SX.out, two4, BX.out⟩
              case measure => simp [intOf]; omega
            · go_wp2_with fail
              have hp := delete_any hs (by show c < _; omega) (ByteArray.mk #[105, 116]) (by decide)
              rw [del_it.1, del_it.2] at hp
              refine hp.mono ?_
              rintro e w4 ⟨rfl, hs4, kp4⟩
              have b4 : Below W.heap.size W w4 := below_step bk (Below.refl _ _) kp4 bk.size hX
              have hX4 := hX
              replace hs4 := hs4.more (Nat.le_succ _)
              have two4 := htwo.del
              have hi4 : delF bl IT IT = none := by simp [delF]
              generalize delF bl IT = bl4 at hs4 two4 hi4
              have nm := two4.names1 hi4
              obtain ⟨e1, e2⟩ := get_miss (bl := bl4) (c := c + 1) (nm := ByteArray.mk #[105, 116]) nIT hi4
              have sz4 : ∀ t, bl4 IT = some t → t.length ≤ 1000000000000 := fun t ht => by rw [hi4] at ht; cases ht
              clear hp kp4 hs hX bk hcell htwo
              have hg := get_any hs4 (by show c + 1 < _; omega) (ByteArray.mk #[105, 116]) (by decide) sz4
              rw [get_one nIT, e1, e2] at hg
              go_wp2_with fail
              refine hg.mono ?_
              rintro e w5 ⟨v5, m5, rfl, hm5, hs5, by5, kp5⟩
              have b5 : Below W.heap.size W w5 := below_step b4 (Below.refl _ _) kp5 b4.size hX4
              have hX5 : ∀ j, j < W.heap.size → Wd X m5 w5.heap.size j := fun j hj => Or.inl (hX4 j hj)
              generalize Wd X m5 w5.heap.size = X5 at hs5 by5 hX5
              clear hg hs4 kp5 b4 hX4 hm5 e1 e2 sz4
              obtain ⟨e1, e2⟩ := get_there (bl := bl4) (c := c + 1 + 1) (nm := ByteArray.mk #[111, 116, 104, 101, 114]) nOT two4.1
              have sz4 : ∀ t, bl4 OT = some t → t.length ≤ 1000000000000 := fun t ht => by rw [two4.1] at ht; cases ht; decide
              have hg := get_any hs5 (by show c + 1 + 1 < _; omega) (ByteArray.mk #[111, 116, 104, 101, 114]) (by decide) sz4
              rw [get_one nOT, e1, e2] at hg
              go_wp2_with fail
              refine hg.mono ?_
              rintro e w6 ⟨v6, m6, rfl, hm6, hs6, by6, kp6⟩
              have b6 : Below W.heap.size W w6 := below_step b5 (Below.refl _ _) kp6 b5.size hX5
              have hX6 : ∀ j, j < W.heap.size → Wd X5 m6 w6.heap.size j := fun j hj => Or.inl (hX5 j hj)
              have by5' := (by5.keep (fun k o hx ho => kp6.keep k o hx ho)).mono (Y' := Wd X5 m6 w6.heap.size) (fun _ _ h => Or.inl h)
              generalize Wd X5 m6 w6.heap.size = X6 at hs6 by6 hX6 by5'
              clear hg hs5 kp6 b5 hX5 hm6 e1 e2 sz4 by5
              have hl := list_len hs6 (by show c + 1 + 1 + 1 < _; omega) (by omega) rfl nm (n := 1) rfl
              go_wp2_with fail
              refine hl.mono ?_
              rintro e w7 ⟨ao7, cap7, rfl, hs7, kp7⟩
              have b7 : Below W.heap.size W w7 := below_step b6 (Below.refl _ _) kp7 b6.size hX6
              replace hs7 : StoAt X6 w7 wa.heap.size ⟨bl4, 0, ByteArray.empty, [], c + 1 + 1 + 1 + 1⟩ (k + 1 + 1) := hs7
              have by7 := by5'.keep (fun k o hx ho => kp7.keep k o hx ho)
              have by8 := by6.keep (fun k o hx ho => kp7.keep k o hx ho)
              clear hl hs6 kp7 b6 by6 by5' nm hi4
              have hcv5 := run_string_at (w := w7.drew) (by7.keep (w' := w7.drew) (fun _ _ _ h => h)).at
              have hcv6 := run_string_at (w := w7.drew) (by8.keep (w' := w7.drew) (fun _ _ _ h => h)).at
              have hcl := hcA w7.drew b7.drew
              go_wp2_with fail
              have hS : w7.drew = w7.drew := rfl
              refine wp_region_held_drew (S := fun w' => w' = w7.drew) mixed hS (fun _ => ?_)
              show wpAnyH _ _ _ _ _ 41 (Array.replicate 41 false) _ _
              refine wpAnyH_take_d 0 (some 76) (.int .i64 0) rfl (by kernel_rfl) (by kernel_rfl) (by kernel_rfl) (by kernel_rfl) rfl (fun _ _ _ h => h) (fun _ _ => by kernel_rfl) (by exact hS) ?_
              simp only [Act.put, List.setIfInBounds_toArray, List.set_cons_succ, List.set_cons_zero]
              refine wpAnyH_take_d 1 (some 77) (.bool false) rfl (by kernel_rfl) (by kernel_rfl) (by kernel_rfl) (by kernel_rfl) rfl (fun _ _ _ h => h) (fun _ _ => by kernel_rfl) (by exact hS) ?_
              simp only [Act.put, List.setIfInBounds_toArray, List.set_cons_succ, List.set_cons_zero]
              refine wpAnyH_take_d 2 (some 78) (.bool false) rfl (by kernel_rfl) (by kernel_rfl) (by kernel_rfl) (by kernel_rfl) rfl (fun _ _ _ h => h) (fun _ _ => by kernel_rfl) (by exact hS) ?_
              simp only [Act.put, List.setIfInBounds_toArray, List.set_cons_succ, List.set_cons_zero]
              refine wpAnyH_take_d 3 (some 79) (v6) rfl (by kernel_rfl) (by kernel_rfl) (by kernel_rfl) (by kernel_rfl) rfl (fun _ _ _ h => h) (fun _ _ => by kernel_rfl) (by exact hS) ?_
              simp only [Act.put, List.setIfInBounds_toArray, List.set_cons_succ, List.set_cons_zero]
              refine wpAnyH_take_d 4 (some 80) (.string (strOf [111])) rfl (by kernel_rfl) (by kernel_rfl) (by kernel_rfl) (by kernel_rfl) rfl (fun _ _ _ h => h) (fun w' h => by subst h; exact exec_convert rfl rfl hcv6) (by exact hS) ?_
              simp only [Act.put, List.setIfInBounds_toArray, List.set_cons_succ, List.set_cons_zero]
              refine wpAnyH_take_d 5 (some 81) (.bool false) rfl (by kernel_rfl) (by kernel_rfl) (by kernel_rfl) (by kernel_rfl) rfl (fun _ _ _ h => h) (fun w' h => exec_strneq rfl rfl rfl (by simp [strOf, ByteArray.toList_eq])) (by exact hS) ?_
              simp only [Act.put, List.setIfInBounds_toArray, List.set_cons_succ, List.set_cons_zero]
              refine wpAnyH_take_d 6 (some 82) (.bool false) rfl (by kernel_rfl) (by kernel_rfl) (by kernel_rfl) (by kernel_rfl) rfl (fun _ _ _ h => h) (fun _ _ => by kernel_rfl) (by exact hS) ?_
              simp only [Act.put, List.setIfInBounds_toArray, List.set_cons_succ, List.set_cons_zero]
              refine wpAnyH_take_d 7 (some 83) (.bool false) rfl (by kernel_rfl) (by kernel_rfl) (by kernel_rfl) (by kernel_rfl) rfl (fun _ _ _ h => h) (fun _ _ => by kernel_rfl) (by exact hS) ?_
              simp only [Act.put, List.setIfInBounds_toArray, List.set_cons_succ, List.set_cons_zero]
              refine wpAnyH_take_d 8 (some 84) (.int .i64 0) rfl (by kernel_rfl) (by kernel_rfl) (by kernel_rfl) (by kernel_rfl) rfl (fun _ _ _ h => h) (fun _ _ => by kernel_rfl) (by exact hS) ?_
              simp only [Act.put, List.setIfInBounds_toArray, List.set_cons_succ, List.set_cons_zero]
              refine wpAnyH_take_d 9 (some 85) (.bool false) rfl (by kernel_rfl) (by kernel_rfl) (by kernel_rfl) (by kernel_rfl) rfl (fun _ _ _ h => h) (fun _ _ => by kernel_rfl) (by exact hS) ?_
              simp only [Act.put, List.setIfInBounds_toArray, List.set_cons_succ, List.set_cons_zero]
              refine wpAnyH_take_d 10 (some 86) (.bool false) rfl (by kernel_rfl) (by kernel_rfl) (by kernel_rfl) (by kernel_rfl) rfl (fun _ _ _ h => h) (fun _ _ => by kernel_rfl) (by exact hS) ?_
              simp only [Act.put, List.setIfInBounds_toArray, List.set_cons_succ, List.set_cons_zero]
              refine wpAnyH_take_d 11 (some 87) (.bool false) rfl (by kernel_rfl) (by kernel_rfl) (by kernel_rfl) (by kernel_rfl) rfl (fun _ _ _ h => h) (fun _ _ => by kernel_rfl) (by exact hS) ?_
              simp only [Act.put, List.setIfInBounds_toArray, List.set_cons_succ, List.set_cons_zero]
              refine wpAnyH_take_d 12 (some 88) (.slice ao7 1 cap7) rfl (by kernel_rfl) (by kernel_rfl) (by kernel_rfl) (by kernel_rfl) rfl (fun _ _ _ h => h) (fun _ _ => by kernel_rfl) (by exact hS) ?_
              simp only [Act.put, List.setIfInBounds_toArray, List.set_cons_succ, List.set_cons_zero]
              refine wpAnyH_take_d 13 (some 89) (.int .i64 1) rfl (by kernel_rfl) (by kernel_rfl) (by kernel_rfl) (by kernel_rfl) rfl (fun _ _ _ h => h) (fun _ _ => by kernel_rfl) (by exact hS) ?_
              simp only [Act.put, List.setIfInBounds_toArray, List.set_cons_succ, List.set_cons_zero]
              refine wpAnyH_take_d 14 (some 90) (.int .i64 1) rfl (by kernel_rfl) (by kernel_rfl) (by kernel_rfl) (by kernel_rfl) rfl (fun _ _ _ h => h) (fun _ _ => by kernel_rfl) (by exact hS) ?_
              simp only [Act.put, List.setIfInBounds_toArray, List.set_cons_succ, List.set_cons_zero]
              refine wpAnyH_take_d 15 (some 91) (.bool false) rfl (by kernel_rfl) (by kernel_rfl) (by kernel_rfl) (by kernel_rfl) rfl (fun _ _ _ h => h) (fun _ _ => by kernel_rfl) (by exact hS) ?_
              simp only [Act.put, List.setIfInBounds_toArray, List.set_cons_succ, List.set_cons_zero]
              refine wpAnyH_take_d 16 (some 92) (.bool false) rfl (by kernel_rfl) (by kernel_rfl) (by kernel_rfl) (by kernel_rfl) rfl (fun _ _ _ h => h) (fun _ _ => by kernel_rfl) (by exact hS) ?_
              simp only [Act.put, List.setIfInBounds_toArray, List.set_cons_succ, List.set_cons_zero]
              refine wpAnyH_take_d 17 (some 93) (.bool false) rfl (by kernel_rfl) (by kernel_rfl) (by kernel_rfl) (by kernel_rfl) rfl (fun _ _ _ h => h) (fun _ _ => by kernel_rfl) (by exact hS) ?_
              simp only [Act.put, List.setIfInBounds_toArray, List.set_cons_succ, List.set_cons_zero]
              refine wpAnyH_take_d 18 (some 94) (.bool false) rfl (by kernel_rfl) (by kernel_rfl) (by kernel_rfl) (by kernel_rfl) rfl (fun _ _ _ h => h) (fun _ _ => by kernel_rfl) (by exact hS) ?_
              simp only [Act.put, List.setIfInBounds_toArray, List.set_cons_succ, List.set_cons_zero]
              refine wpAnyH_take_d 19 (some 95) (.bool false) rfl (by kernel_rfl) (by kernel_rfl) (by kernel_rfl) (by kernel_rfl) rfl (fun _ _ _ h => h) (fun _ _ => by kernel_rfl) (by exact hS) ?_
              simp only [Act.put, List.setIfInBounds_toArray, List.set_cons_succ, List.set_cons_zero]
              refine wpAnyH_skip_d 20 (some 96) rfl (by kernel_rfl) (by kernel_rfl) (by kernel_rfl) (by kernel_rfl) rfl (fun _ _ _ h => h) (by exact hS) ?_
              simp only [Act.put, List.setIfInBounds_toArray, List.set_cons_succ, List.set_cons_zero]
              refine wpAnyH_skip_d 21 (some 97) rfl (by kernel_rfl) (by kernel_rfl) (by kernel_rfl) (by kernel_rfl) rfl (fun _ _ _ h => h) (by exact hS) ?_
              simp only [Act.put, List.setIfInBounds_toArray, List.set_cons_succ, List.set_cons_zero]
              refine wpAnyH_skip_d 22 (some 98) rfl (by kernel_rfl) (by kernel_rfl) (by kernel_rfl) (by kernel_rfl) rfl (fun _ _ _ h => h) (by exact hS) ?_
              simp only [Act.put, List.setIfInBounds_toArray, List.set_cons_succ, List.set_cons_zero]
              refine wpAnyH_skip_d 23 (some 99) rfl (by kernel_rfl) (by kernel_rfl) (by kernel_rfl) (by kernel_rfl) rfl (fun _ _ _ h => h) (by exact hS) ?_
              simp only [Act.put, List.setIfInBounds_toArray, List.set_cons_succ, List.set_cons_zero]
              refine wpAnyH_skip_d 24 (some 100) rfl (by kernel_rfl) (by kernel_rfl) (by kernel_rfl) (by kernel_rfl) rfl (fun _ _ _ h => h) (by exact hS) ?_
              simp only [Act.put, List.setIfInBounds_toArray, List.set_cons_succ, List.set_cons_zero]
              refine wpAnyH_skip_d 25 (some 101) rfl (by kernel_rfl) (by kernel_rfl) (by kernel_rfl) (by kernel_rfl) rfl (fun _ _ _ h => h) (by exact hS) ?_
              simp only [Act.put, List.setIfInBounds_toArray, List.set_cons_succ, List.set_cons_zero]
              refine wpAnyH_skip_d 26 (some 102) rfl (by kernel_rfl) (by kernel_rfl) (by kernel_rfl) (by kernel_rfl) rfl (fun _ _ _ h => h) (by exact hS) ?_
              simp only [Act.put, List.setIfInBounds_toArray, List.set_cons_succ, List.set_cons_zero]
              refine wpAnyH_skip_d 27 (some 103) rfl (by kernel_rfl) (by kernel_rfl) (by kernel_rfl) (by kernel_rfl) rfl (fun _ _ _ h => h) (by exact hS) ?_
              simp only [Act.put, List.setIfInBounds_toArray, List.set_cons_succ, List.set_cons_zero]
              refine wpAnyH_skip_d 28 (some 104) rfl (by kernel_rfl) (by kernel_rfl) (by kernel_rfl) (by kernel_rfl) rfl (fun _ _ _ h => h) (by exact hS) ?_
              simp only [Act.put, List.setIfInBounds_toArray, List.set_cons_succ, List.set_cons_zero]
              refine wpAnyH_skip_d 29 (some 105) rfl (by kernel_rfl) (by kernel_rfl) (by kernel_rfl) (by kernel_rfl) rfl (fun _ _ _ h => h) (by exact hS) ?_
              simp only [Act.put, List.setIfInBounds_toArray, List.set_cons_succ, List.set_cons_zero]
              refine wpAnyH_skip_d 30 (some 106) rfl (by kernel_rfl) (by kernel_rfl) (by kernel_rfl) (by kernel_rfl) rfl (fun _ _ _ h => h) (by exact hS) ?_
              simp only [Act.put, List.setIfInBounds_toArray, List.set_cons_succ, List.set_cons_zero]
              refine wpAnyH_take_d 31 (some 107) (.bool false) rfl (by kernel_rfl) (by kernel_rfl) (by kernel_rfl) (by kernel_rfl) rfl (fun _ _ _ h => h) (fun _ _ => by kernel_rfl) (by exact hS) ?_
              simp only [Act.put, List.setIfInBounds_toArray, List.set_cons_succ, List.set_cons_zero]
              refine wpAnyH_take_d 32 (some 108) (.bool false) rfl (by kernel_rfl) (by kernel_rfl) (by kernel_rfl) (by kernel_rfl) rfl (fun _ _ _ h => h) (fun _ _ => by kernel_rfl) (by exact hS) ?_
              simp only [Act.put, List.setIfInBounds_toArray, List.set_cons_succ, List.set_cons_zero]
              refine wpAnyH_take_d 33 (some 109) (.bool false) rfl (by kernel_rfl) (by kernel_rfl) (by kernel_rfl) (by kernel_rfl) rfl (fun _ _ _ h => h) (fun _ _ => by kernel_rfl) (by exact hS) ?_
              simp only [Act.put, List.setIfInBounds_toArray, List.set_cons_succ, List.set_cons_zero]
              refine wpAnyH_take_d 34 (some 110) (.bool false) rfl (by kernel_rfl) (by kernel_rfl) (by kernel_rfl) (by kernel_rfl) rfl (fun _ _ _ h => h) (fun _ _ => by kernel_rfl) (by exact hS) ?_
              simp only [Act.put, List.setIfInBounds_toArray, List.set_cons_succ, List.set_cons_zero]
              refine wpAnyH_take_d 35 (some 111) (.bool true) rfl (by kernel_rfl) (by kernel_rfl) (by kernel_rfl) (by kernel_rfl) rfl (fun _ _ _ h => h) (fun _ _ => by kernel_rfl) (by exact hS) ?_
              simp only [Act.put, List.setIfInBounds_toArray, List.set_cons_succ, List.set_cons_zero]
              refine wpAnyH_take_d 36 (some 112) (.bool true) rfl (by kernel_rfl) (by kernel_rfl) (by kernel_rfl) (by kernel_rfl) rfl (fun _ _ _ h => h) (fun _ _ => by kernel_rfl) (by exact hS) ?_
              simp only [Act.put, List.setIfInBounds_toArray, List.set_cons_succ, List.set_cons_zero]
              refine wpAnyH_take_d 37 (some 113) (.int .i64 7) rfl (by kernel_rfl) (by kernel_rfl) (by kernel_rfl) (by kernel_rfl) rfl (fun _ _ _ h => h) (fun _ _ => by kernel_rfl) (by exact hS) ?_
              simp only [Act.put, List.setIfInBounds_toArray, List.set_cons_succ, List.set_cons_zero]
              refine wpAnyH_take_d 38 (some 114) (.bool false) rfl (by kernel_rfl) (by kernel_rfl) (by kernel_rfl) (by kernel_rfl) rfl (fun _ _ _ h => h) (fun _ _ => by kernel_rfl) (by exact hS) ?_
              simp only [Act.put, List.setIfInBounds_toArray, List.set_cons_succ, List.set_cons_zero]
              refine wpAnyH_take_d 39 (some 115) (.bool false) rfl (by kernel_rfl) (by kernel_rfl) (by kernel_rfl) (by kernel_rfl) rfl (fun _ _ _ h => h) (fun _ _ => by kernel_rfl) (by exact hS) ?_
              simp only [Act.put, List.setIfInBounds_toArray, List.set_cons_succ, List.set_cons_zero]
              refine wpAnyH_take_d 40 (some 116) (.bool false) rfl (by kernel_rfl) (by kernel_rfl) (by kernel_rfl) (by kernel_rfl) rfl (fun _ _ _ h => h) (fun _ _ => by kernel_rfl) (by exact hS) ?_
              simp only [Act.put, List.setIfInBounds_toArray, List.set_cons_succ, List.set_cons_zero]
              refine wpAnyH_done (by kernel_rfl) ?_ _
              have SX := Lib.hid (hs7.drew.more (N' := k + 1 + 1) (by omega))
              have BX := Lib.hid b7.drew
              clear hs7 b7 by7 by8 hcv5 hcv6 hcl hcA hS
              go_wp2
              go_roundw
              case rel => exact ⟨k + 1, by omega, by omega, by go_num, false, X6, bl4, c + 1 + 1 + 1 + 1, rfl, hX6, by omega, SX.out, two4, BX.out⟩
              case measure => simp [intOf]; omega
          · obtain ⟨vb, w3, hrun3, by3, bl3⟩ := run_bytes_of wr d hds
            have RUN3 := Lib.hid hrun3
            clear hrun3
            go_wp2_with (with_reducible refine wpList_convert_eq rfl 9 36 (.tmp 56) rfl (.string d) vb rfl RUN3.out ?_)
            have hs3 := hs.wd bl3
            have by3' := by3.mono (Y' := Wd X wr.heap.size w3.heap.size) (fun _ _ h => Or.inr h)
            have hX4 : ∀ j, j < W.heap.size → Wd X wr.heap.size w3.heap.size j := fun j hj => Or.inl (hX j hj)
            have b3 : Below W.heap.size W w3 := bk.trans (bl3.mono bk.size)
            generalize Wd X wr.heap.size w3.heap.size = X4 at hs3 by3' hX4
            have hp := put_any hs3 (by show c < _; omega) (by unfold maxLen; omega) (ByteArray.mk #[105, 116]) (by decide) by3'
            rw [(put_it hbs).1, (put_it hbs).2] at hp
            refine hp.mono ?_
            rintro e w4 ⟨rfl, hs4, kp4⟩
            have b4 : Below W.heap.size W w4 := below_step b3 (Below.refl _ _) kp4 b3.size hX4
            have two4 := htwo.put d.data.toList
            have hi4 : putF bl IT d.data.toList IT = some d.data.toList := by simp [putF]
            generalize putF bl IT d.data.toList = bl4 at hs4 two4 hi4
            have nm := two4.names2 hi4
            obtain ⟨e1, e2⟩ := get_there (bl := bl4) (c := c + 1) (nm := ByteArray.mk #[105, 116]) nIT hi4
            have sz4 : ∀ t, bl4 IT = some t → t.length ≤ 1000000000000 := fun t ht => by rw [hi4] at ht; cases ht; omega
            clear hp kp4 hs3 by3 by3' b3 bl3 RUN3 hs hX bk hcell htwo
            have hg := get_any hs4 (by show c + 1 < _; omega) (ByteArray.mk #[105, 116]) (by decide) sz4
            rw [get_one nIT, e1, e2] at hg
            go_wp2_with fail
            refine hg.mono ?_
            rintro e w5 ⟨v5, m5, rfl, hm5, hs5, by5, kp5⟩
            have b5 : Below W.heap.size W w5 := below_step b4 (Below.refl _ _) kp5 b4.size hX4
            have hX5 : ∀ j, j < W.heap.size → Wd X4 m5 w5.heap.size j := fun j hj => Or.inl (hX4 j hj)
            generalize Wd X4 m5 w5.heap.size = X5 at hs5 by5 hX5
            clear hg hs4 kp5 b4 hX4 hm5 e1 e2 sz4
            obtain ⟨e1, e2⟩ := get_there (bl := bl4) (c := c + 1 + 1) (nm := ByteArray.mk #[111, 116, 104, 101, 114]) nOT two4.1
            have sz4 : ∀ t, bl4 OT = some t → t.length ≤ 1000000000000 := fun t ht => by rw [two4.1] at ht; cases ht; decide
            have hg := get_any hs5 (by show c + 1 + 1 < _; omega) (ByteArray.mk #[111, 116, 104, 101, 114]) (by decide) sz4
            rw [get_one nOT, e1, e2] at hg
            go_wp2_with fail
            refine hg.mono ?_
            rintro e w6 ⟨v6, m6, rfl, hm6, hs6, by6, kp6⟩
            have b6 : Below W.heap.size W w6 := below_step b5 (Below.refl _ _) kp6 b5.size hX5
            have hX6 : ∀ j, j < W.heap.size → Wd X5 m6 w6.heap.size j := fun j hj => Or.inl (hX5 j hj)
            have by5' := (by5.keep (fun k o hx ho => kp6.keep k o hx ho)).mono (Y' := Wd X5 m6 w6.heap.size) (fun _ _ h => Or.inl h)
            generalize Wd X5 m6 w6.heap.size = X6 at hs6 by6 hX6 by5'
            clear hg hs5 kp6 b5 hX5 hm6 e1 e2 sz4 by5
            have hl := list_len hs6 (by show c + 1 + 1 + 1 < _; omega) (by omega) rfl nm (n := 2) rfl
            go_wp2_with fail
            refine hl.mono ?_
            rintro e w7 ⟨ao7, cap7, rfl, hs7, kp7⟩
            have b7 : Below W.heap.size W w7 := below_step b6 (Below.refl _ _) kp7 b6.size hX6
            replace hs7 : StoAt X6 w7 wa.heap.size ⟨bl4, 0, ByteArray.empty, [], c + 1 + 1 + 1 + 1⟩ (k + 1 + 1) := hs7
            have by7 := by5'.keep (fun k o hx ho => kp7.keep k o hx ho)
            have by8 := by6.keep (fun k o hx ho => kp7.keep k o hx ho)
            clear hl hs6 kp7 b6 by6 by5' nm hi4
            have hcv5 := run_string_at (w := w7.drew) (by7.keep (w' := w7.drew) (fun _ _ _ h => h)).at
            have hcv6 := run_string_at (w := w7.drew) (by8.keep (w' := w7.drew) (fun _ _ _ h => h)).at
            have hcl := hcA w7.drew b7.drew
            go_wp2_with fail
            have hS : w7.drew = w7.drew := rfl
            refine wp_region_held_drew (S := fun w' => w' = w7.drew) mixed hS (fun _ => ?_)
            show wpAnyH _ _ _ _ _ 41 (Array.replicate 41 false) _ _
            refine wpAnyH_take_d 0 (some 76) (.int .i64 0) rfl (by kernel_rfl) (by kernel_rfl) (by kernel_rfl) (by kernel_rfl) rfl (fun _ _ _ h => h) (fun _ _ => by kernel_rfl) (by exact hS) ?_
            simp only [Act.put, List.setIfInBounds_toArray, List.set_cons_succ, List.set_cons_zero]
            refine wpAnyH_take_d 1 (some 77) (.bool false) rfl (by kernel_rfl) (by kernel_rfl) (by kernel_rfl) (by kernel_rfl) rfl (fun _ _ _ h => h) (fun _ _ => by kernel_rfl) (by exact hS) ?_
            simp only [Act.put, List.setIfInBounds_toArray, List.set_cons_succ, List.set_cons_zero]
            refine wpAnyH_take_d 2 (some 78) (.bool false) rfl (by kernel_rfl) (by kernel_rfl) (by kernel_rfl) (by kernel_rfl) rfl (fun _ _ _ h => h) (fun _ _ => by kernel_rfl) (by exact hS) ?_
            simp only [Act.put, List.setIfInBounds_toArray, List.set_cons_succ, List.set_cons_zero]
            refine wpAnyH_take_d 3 (some 79) (v6) rfl (by kernel_rfl) (by kernel_rfl) (by kernel_rfl) (by kernel_rfl) rfl (fun _ _ _ h => h) (fun _ _ => by kernel_rfl) (by exact hS) ?_
            simp only [Act.put, List.setIfInBounds_toArray, List.set_cons_succ, List.set_cons_zero]
            refine wpAnyH_take_d 4 (some 80) (.string (strOf [111])) rfl (by kernel_rfl) (by kernel_rfl) (by kernel_rfl) (by kernel_rfl) rfl (fun _ _ _ h => h) (fun w' h => by subst h; exact exec_convert rfl rfl hcv6) (by exact hS) ?_
            simp only [Act.put, List.setIfInBounds_toArray, List.set_cons_succ, List.set_cons_zero]
            refine wpAnyH_take_d 5 (some 81) (.bool false) rfl (by kernel_rfl) (by kernel_rfl) (by kernel_rfl) (by kernel_rfl) rfl (fun _ _ _ h => h) (fun w' h => exec_strneq rfl rfl rfl (by simp [strOf, ByteArray.toList_eq])) (by exact hS) ?_
            simp only [Act.put, List.setIfInBounds_toArray, List.set_cons_succ, List.set_cons_zero]
            refine wpAnyH_take_d 6 (some 82) (.bool false) rfl (by kernel_rfl) (by kernel_rfl) (by kernel_rfl) (by kernel_rfl) rfl (fun _ _ _ h => h) (fun _ _ => by kernel_rfl) (by exact hS) ?_
            simp only [Act.put, List.setIfInBounds_toArray, List.set_cons_succ, List.set_cons_zero]
            refine wpAnyH_take_d 7 (some 83) (.bool false) rfl (by kernel_rfl) (by kernel_rfl) (by kernel_rfl) (by kernel_rfl) rfl (fun _ _ _ h => h) (fun _ _ => by kernel_rfl) (by exact hS) ?_
            simp only [Act.put, List.setIfInBounds_toArray, List.set_cons_succ, List.set_cons_zero]
            refine wpAnyH_take_d 8 (some 84) (.int .i64 0) rfl (by kernel_rfl) (by kernel_rfl) (by kernel_rfl) (by kernel_rfl) rfl (fun _ _ _ h => h) (fun _ _ => by kernel_rfl) (by exact hS) ?_
            simp only [Act.put, List.setIfInBounds_toArray, List.set_cons_succ, List.set_cons_zero]
            refine wpAnyH_take_d 9 (some 85) (.bool false) rfl (by kernel_rfl) (by kernel_rfl) (by kernel_rfl) (by kernel_rfl) rfl (fun _ _ _ h => h) (fun _ _ => by kernel_rfl) (by exact hS) ?_
            simp only [Act.put, List.setIfInBounds_toArray, List.set_cons_succ, List.set_cons_zero]
            refine wpAnyH_take_d 10 (some 86) (.bool false) rfl (by kernel_rfl) (by kernel_rfl) (by kernel_rfl) (by kernel_rfl) rfl (fun _ _ _ h => h) (fun _ _ => by kernel_rfl) (by exact hS) ?_
            simp only [Act.put, List.setIfInBounds_toArray, List.set_cons_succ, List.set_cons_zero]
            refine wpAnyH_take_d 11 (some 87) (.bool false) rfl (by kernel_rfl) (by kernel_rfl) (by kernel_rfl) (by kernel_rfl) rfl (fun _ _ _ h => h) (fun _ _ => by kernel_rfl) (by exact hS) ?_
            simp only [Act.put, List.setIfInBounds_toArray, List.set_cons_succ, List.set_cons_zero]
            refine wpAnyH_take_d 12 (some 88) (.slice ao7 2 cap7) rfl (by kernel_rfl) (by kernel_rfl) (by kernel_rfl) (by kernel_rfl) rfl (fun _ _ _ h => h) (fun _ _ => by kernel_rfl) (by exact hS) ?_
            simp only [Act.put, List.setIfInBounds_toArray, List.set_cons_succ, List.set_cons_zero]
            refine wpAnyH_take_d 13 (some 89) (.int .i64 2) rfl (by kernel_rfl) (by kernel_rfl) (by kernel_rfl) (by kernel_rfl) rfl (fun _ _ _ h => h) (fun _ _ => by kernel_rfl) (by exact hS) ?_
            simp only [Act.put, List.setIfInBounds_toArray, List.set_cons_succ, List.set_cons_zero]
            refine wpAnyH_take_d 14 (some 90) (.int .i64 2) rfl (by kernel_rfl) (by kernel_rfl) (by kernel_rfl) (by kernel_rfl) rfl (fun _ _ _ h => h) (fun _ _ => by kernel_rfl) (by exact hS) ?_
            simp only [Act.put, List.setIfInBounds_toArray, List.set_cons_succ, List.set_cons_zero]
            refine wpAnyH_take_d 15 (some 91) (.bool false) rfl (by kernel_rfl) (by kernel_rfl) (by kernel_rfl) (by kernel_rfl) rfl (fun _ _ _ h => h) (fun _ _ => by kernel_rfl) (by exact hS) ?_
            simp only [Act.put, List.setIfInBounds_toArray, List.set_cons_succ, List.set_cons_zero]
            refine wpAnyH_take_d 16 (some 92) (.bool false) rfl (by kernel_rfl) (by kernel_rfl) (by kernel_rfl) (by kernel_rfl) rfl (fun _ _ _ h => h) (fun _ _ => by kernel_rfl) (by exact hS) ?_
            simp only [Act.put, List.setIfInBounds_toArray, List.set_cons_succ, List.set_cons_zero]
            refine wpAnyH_take_d 17 (some 93) (.bool false) rfl (by kernel_rfl) (by kernel_rfl) (by kernel_rfl) (by kernel_rfl) rfl (fun _ _ _ h => h) (fun _ _ => by kernel_rfl) (by exact hS) ?_
            simp only [Act.put, List.setIfInBounds_toArray, List.set_cons_succ, List.set_cons_zero]
            refine wpAnyH_take_d 18 (some 94) (.bool true) rfl (by kernel_rfl) (by kernel_rfl) (by kernel_rfl) (by kernel_rfl) rfl (fun _ _ _ h => h) (fun _ _ => by kernel_rfl) (by exact hS) ?_
            simp only [Act.put, List.setIfInBounds_toArray, List.set_cons_succ, List.set_cons_zero]
            refine wpAnyH_take_d 19 (some 95) (.bool true) rfl (by kernel_rfl) (by kernel_rfl) (by kernel_rfl) (by kernel_rfl) rfl (fun _ _ _ h => h) (fun _ _ => by kernel_rfl) (by exact hS) ?_
            simp only [Act.put, List.setIfInBounds_toArray, List.set_cons_succ, List.set_cons_zero]
            refine wpAnyH_take_d 20 (some 96) (.int .i64 0) rfl (by kernel_rfl) (by kernel_rfl) (by kernel_rfl) (by kernel_rfl) rfl (fun _ _ _ h => h) (fun _ _ => by kernel_rfl) (by exact hS) ?_
            simp only [Act.put, List.setIfInBounds_toArray, List.set_cons_succ, List.set_cons_zero]
            refine wpAnyH_take_d 21 (some 97) (.bool false) rfl (by kernel_rfl) (by kernel_rfl) (by kernel_rfl) (by kernel_rfl) rfl (fun _ _ _ h => h) (fun _ _ => by kernel_rfl) (by exact hS) ?_
            simp only [Act.put, List.setIfInBounds_toArray, List.set_cons_succ, List.set_cons_zero]
            refine wpAnyH_take_d 22 (some 98) (.bool false) rfl (by kernel_rfl) (by kernel_rfl) (by kernel_rfl) (by kernel_rfl) rfl (fun _ _ _ h => h) (fun _ _ => by kernel_rfl) (by exact hS) ?_
            simp only [Act.put, List.setIfInBounds_toArray, List.set_cons_succ, List.set_cons_zero]
            refine wpAnyH_take_d 23 (some 99) (v5) rfl (by kernel_rfl) (by kernel_rfl) (by kernel_rfl) (by kernel_rfl) rfl (fun _ _ _ h => h) (fun _ _ => by kernel_rfl) (by exact hS) ?_
            simp only [Act.put, List.setIfInBounds_toArray, List.set_cons_succ, List.set_cons_zero]
            refine wpAnyH_take_d 24 (some 100) (.string (strOf d.data.toList)) rfl (by kernel_rfl) (by kernel_rfl) (by kernel_rfl) (by kernel_rfl) rfl (fun _ _ _ h => h) (fun w' h => by subst h; exact exec_convert rfl rfl hcv5) (by exact hS) ?_
            simp only [Act.put, List.setIfInBounds_toArray, List.set_cons_succ, List.set_cons_zero]
            refine wpAnyH_take_d 25 (some 101) (.slice (some ⟨b, off, none⟩) z0.length cap) rfl (by kernel_rfl) (by kernel_rfl) (by kernel_rfl) (by kernel_rfl) rfl (fun _ _ _ h => h) (fun _ _ => by kernel_rfl) (by exact hS) ?_
            simp only [Act.put, List.setIfInBounds_toArray, List.set_cons_succ, List.set_cons_zero]
            refine wpAnyH_take_d 26 (some 102) (.int .i64 k) rfl (by kernel_rfl) (by kernel_rfl) (by kernel_rfl) (by kernel_rfl) rfl (fun _ _ _ h => h) (fun _ _ => by kernel_rfl) (by exact hS) ?_
            simp only [Act.put, List.setIfInBounds_toArray, List.set_cons_succ, List.set_cons_zero]
            refine wpAnyH_take_d 27 (some 103) (.pointer (some ⟨b, off + k, none⟩)) rfl (by kernel_rfl) (by kernel_rfl) (by kernel_rfl) (by kernel_rfl) rfl (fun _ _ _ h => h) (fun w' h => exec_indexAddr rfl rfl rfl hlt Try.underlying27 (by kernel_rfl)) (by exact hS) ?_
            simp only [Act.put, List.setIfInBounds_toArray, List.set_cons_succ, List.set_cons_zero]
            refine wpAnyH_take_d 28 (some 104) (.string d) rfl (by kernel_rfl) (by kernel_rfl) (by kernel_rfl) (by kernel_rfl) rfl (fun _ _ _ h => h) (fun w' h => by subst h; exact exec_load_cell rfl rfl hcl Try.underlying9 rfl) (by exact hS) ?_
            simp only [Act.put, List.setIfInBounds_toArray, List.set_cons_succ, List.set_cons_zero]
            refine wpAnyH_take_d 29 (some 105) (.bool false) rfl (by kernel_rfl) (by kernel_rfl) (by kernel_rfl) (by kernel_rfl) rfl (fun _ _ _ h => h) (fun w' h => exec_strneq rfl rfl rfl (by simp [strOf, ByteArray.toList_eq])) (by exact hS) ?_
            simp only [Act.put, List.setIfInBounds_toArray, List.set_cons_succ, List.set_cons_zero]
            refine wpAnyH_take_d 30 (some 106) (.bool false) rfl (by kernel_rfl) (by kernel_rfl) (by kernel_rfl) (by kernel_rfl) rfl (fun _ _ _ h => h) (fun _ _ => by kernel_rfl) (by exact hS) ?_
            simp only [Act.put, List.setIfInBounds_toArray, List.set_cons_succ, List.set_cons_zero]
            refine wpAnyH_take_d 31 (some 107) (.bool false) rfl (by kernel_rfl) (by kernel_rfl) (by kernel_rfl) (by kernel_rfl) rfl (fun _ _ _ h => h) (fun _ _ => by kernel_rfl) (by exact hS) ?_
            simp only [Act.put, List.setIfInBounds_toArray, List.set_cons_succ, List.set_cons_zero]
            refine wpAnyH_take_d 32 (some 108) (.bool false) rfl (by kernel_rfl) (by kernel_rfl) (by kernel_rfl) (by kernel_rfl) rfl (fun _ _ _ h => h) (fun _ _ => by kernel_rfl) (by exact hS) ?_
            simp only [Act.put, List.setIfInBounds_toArray, List.set_cons_succ, List.set_cons_zero]
            refine wpAnyH_take_d 33 (some 109) (.bool false) rfl (by kernel_rfl) (by kernel_rfl) (by kernel_rfl) (by kernel_rfl) rfl (fun _ _ _ h => h) (fun _ _ => by kernel_rfl) (by exact hS) ?_
            simp only [Act.put, List.setIfInBounds_toArray, List.set_cons_succ, List.set_cons_zero]
            refine wpAnyH_take_d 34 (some 110) (.bool true) rfl (by kernel_rfl) (by kernel_rfl) (by kernel_rfl) (by kernel_rfl) rfl (fun _ _ _ h => h) (fun _ _ => by kernel_rfl) (by exact hS) ?_
            simp only [Act.put, List.setIfInBounds_toArray, List.set_cons_succ, List.set_cons_zero]
            refine wpAnyH_take_d 35 (some 111) (.bool false) rfl (by kernel_rfl) (by kernel_rfl) (by kernel_rfl) (by kernel_rfl) rfl (fun _ _ _ h => h) (fun _ _ => by kernel_rfl) (by exact hS) ?_
            simp only [Act.put, List.setIfInBounds_toArray, List.set_cons_succ, List.set_cons_zero]
            refine wpAnyH_take_d 36 (some 112) (.bool false) rfl (by kernel_rfl) (by kernel_rfl) (by kernel_rfl) (by kernel_rfl) rfl (fun _ _ _ h => h) (fun _ _ => by kernel_rfl) (by exact hS) ?_
            simp only [Act.put, List.setIfInBounds_toArray, List.set_cons_succ, List.set_cons_zero]
            refine wpAnyH_skip_d 37 (some 113) rfl (by kernel_rfl) (by kernel_rfl) (by kernel_rfl) (by kernel_rfl) rfl (fun _ _ _ h => h) (by exact hS) ?_
            simp only [Act.put, List.setIfInBounds_toArray, List.set_cons_succ, List.set_cons_zero]
            refine wpAnyH_skip_d 38 (some 114) rfl (by kernel_rfl) (by kernel_rfl) (by kernel_rfl) (by kernel_rfl) rfl (fun _ _ _ h => h) (by exact hS) ?_
            simp only [Act.put, List.setIfInBounds_toArray, List.set_cons_succ, List.set_cons_zero]
            refine wpAnyH_take_d 39 (some 115) (.bool false) rfl (by kernel_rfl) (by kernel_rfl) (by kernel_rfl) (by kernel_rfl) rfl (fun _ _ _ h => h) (fun _ _ => by kernel_rfl) (by exact hS) ?_
            simp only [Act.put, List.setIfInBounds_toArray, List.set_cons_succ, List.set_cons_zero]
            refine wpAnyH_take_d 40 (some 116) (.bool false) rfl (by kernel_rfl) (by kernel_rfl) (by kernel_rfl) (by kernel_rfl) rfl (fun _ _ _ h => h) (fun _ _ => by kernel_rfl) (by exact hS) ?_
            simp only [Act.put, List.setIfInBounds_toArray, List.set_cons_succ, List.set_cons_zero]
            refine wpAnyH_done (by kernel_rfl) ?_ _
            have SX := Lib.hid (hs7.drew.more (N' := k + 1 + 1) (by omega))
            have BX := Lib.hid b7.drew
            clear hs7 b7 by7 by8 hcv5 hcv6 hcl hcA hS
            go_wp2
            go_roundw
            case rel => exact ⟨k + 1, by omega, by omega, by go_num, true, X6, bl4, c + 1 + 1 + 1 + 1, rfl, hX6, by omega, SX.out, two4, BX.out⟩
            case measure => simp [intOf]; omega
        · have h5' : decide ((5000 : Int) < (d.size : Int)) = true := by simp; omega
          go_wp2
          go_ret
          exact ⟨rfl, bk⟩
      · obtain rfl : k = 30 := by omega
        go_wp2
        go_ret
        exact ⟨rfl, bk⟩
    · obtain rfl : k = z0.length := by omega
      go_wp2
      go_ret
      exact ⟨rfl, bk⟩

/-! ### the row -/
theorem laidOut : laidOutB Try.prog = true := by kernel_rfl
theorem bytesInt : Try.prog.bytesOf 3 = 8 := by kernel_rfl
set_option maxRecDepth 100000 in
theorem lifted (os : Os) (started : os.Started) (H : Type) (enc : TypeId × Value → H) :
    ReturnsInHanded {} Try.checked os 7 .any (Rows.blobOthersSpec.pre6 enc Try.prog Try.f7 Rows.blobOthersRow.domain false) (Rows.blobOthersSpec.post enc Try.prog Try.f7 false true false false) := by
  refine returnsInHanded_of_change_sized (C := Try.checked) own started (by kernel_rfl) Try.func7
    (ChangeSpec.witness6 (enc := enc) (C := Try.checked) false ⟨#[], #[.slice none 0 0, .slice none 0 0], []⟩ 8 (by kernel_rfl) (by kernel_rfl) (by kernel_rfl) (by kernel_rfl)) ?_
  intro W base args ds gs before hval0 hW hcnd hsz0 _
  have hval : ∀ (j : Nat) t v, Try.f7.params[j]? = some t → args[j]? = some v → Value.okWide Try.prog W .any base t v := hval0
  have hW' := hW
  obtain ⟨p, q, hA0, hV, rfl, hfz, hnd⟩ := hW
  have hA : DataW.TrodAll enc Try.prog W 0 (fun _ => true) true Try.f7.params.toList args.toList ds p := hA0
  have hsz : (DataW.weightsEach Try.prog (Try.f7.params.toList ++ Rows.blobOthersSpec.plain.varTypes Try.prog) (ds ++ gs)).all (· ≤ reachBytes) = true := hsz0
  rw [Try.params7] at hA hval hsz
  obtain ⟨v0, vs0, d0, ds0, p0, q0, hargs, rfl, rfl, h0, r0⟩ := trodAll_cons hA
  obtain ⟨v1, vs1, d1, ds1, p1, q1, rfl, rfl, rfl, h1, r1⟩ := trodAll_cons r0
  obtain ⟨rfl, rfl, rfl⟩ := trodAll_nil r1
  obtain rfl : args = #[v0, v1] := by cases args; simp_all
  obtain ⟨rfl, rfl⟩ := trodVars_none hV
  have k0 := h0
  have lt0 := args_lt k0
  obtain ⟨z0, w0⟩ := strs_arg Try.underlying27 Try.underlying9 (by kernel_rfl) (hval 0 27 v0 rfl rfl) h0
  have k1 := h1
  have lt1 := args_lt k1
  obtain ⟨z1, w1⟩ := bools_arg Try.underlying48 Try.underlying4 (by kernel_rfl) (hval 1 48 v1 rfl rfl) h1
  clear hA0 hval0 hsz0
  refine (walk v0 z0 v1 z1 W w0 w1).mono fun e W' ⟨he, bel⟩ => ?_
  subst he
  exact ⟨_, rfl, _, _, _, [], _, [], hW', trodAll_mk1 (shut_bool Try.underlying4 _), (trodAll_cons_mk (Below.trod laidOut (by kernel_rfl) (of_decide_eq_true (by kernel_rfl)) k0 bel lt0) (trodAll_cons_mk (Below.trod laidOut (by kernel_rfl) (of_decide_eq_true (by kernel_rfl)) k1 bel lt1) trodAll_mk0)), rfl, bel.frame _, fun h => by cases h⟩

theorem over : Rows.blobOthersRow.holds Try.pinned (OpenSpec.ofChange Rows.blobOthersSpec) :=
  OpenClaim.holds_of_wide 7 Try.f7 rfl rfl rfl rfl rfl rfl rfl ⟨rfl, rfl, rfl, rfl, rfl⟩ rfl rfl rfl rfl rfl (by kernel_rfl) Try.func7 (by kernel_rfl)
    (of_decide_eq_true (by kernel_rfl)) (by unfold Func.isWrapper; first | (rw [if_pos (by decide +kernel)]; kernel_rfl) | (rw [if_neg (by decide +kernel)]; exact ⟨rfl, rfl⟩))
    (fun os started H enc _ => lifted os started H enc)
end Go.Proofs.Ytcbbppgleclndaa.blobOthers

namespace Go.Proofs.Ytcbbppgleclndaa
/-- The law returns true at every input. -/
theorem blobOthers_holds : Rows.BlobOthersSaid := blobOthers.over
end Go.Proofs.Ytcbbppgleclndaa

