/- The contract of the document's own DocUnframe. No statement of the seat is proved here. -/
import Derived.Test.YtmkomhdlcbimoaaPRef
namespace Go.Proofs.Ytmkomhdlcbimoaa
set_option maxRecDepth 20000
open Go.RowKit

theorem extract_list (s : ByteArray) (a b : Nat) : (s.extract a b).data.toList = (s.data.toList.drop a).take (b - a) := by
  simp [List.extract_eq_take_drop]
theorem extract_strOf (bs : List UInt8) (a b : Nat) : (strOf bs).extract a b = strOf ((bs.drop a).take (b - a)) := by
  apply WideShapes.bytes_inj
  rw [extract_list]
  simp [strOf]
theorem all_zero {bs : List UInt8} {k : Nat} (h : ∀ j, k ≤ j → j < bs.length → byteAt bs j = 0) : (bs.drop k).all (· == 0) = true := by
  rw [List.all_eq_true]
  intro x hx
  obtain ⟨i, hi, rfl⟩ := List.mem_iff_getElem.1 hx
  rw [List.length_drop] at hi
  have := (byteAt_zero bs (k + i)).1 (h (k + i) (by omega) (by omega))
  rw [List.getD_eq_getElem?_getD, List.getElem?_eq_getElem (by omega)] at this
  rw [List.getElem_drop]
  simpa using this
theorem not_zero {bs : List UInt8} {k j : Nat} (h1 : k ≤ j) (h2 : j < bs.length) (h3 : byteAt bs j ≠ 0) : (bs.drop k).all (· == 0) = false := by
  rw [List.all_eq_false]
  refine ⟨bs[j], ?_, ?_⟩
  · rw [List.mem_iff_getElem]
    refine ⟨j - k, by rw [List.length_drop]; omega, ?_⟩
    rw [List.getElem_drop]; congr 1; omega
  · have : bs.getD j 0 ≠ 0 := fun e => h3 ((byteAt_zero bs j).2 e)
    rw [List.getD_eq_getElem?_getD, List.getElem?_eq_getElem h2] at this
    simpa using this
set_option maxRecDepth 20000 in
set_option maxHeartbeats 1600000 in
theorem docUnframe_any (bs : List UInt8) (hbs : bs.length ≤ 140737488355328) (w : World) : Calls Try.prog 37 #[.string (strOf bs)] w fun e w' => e = .returned (.tuple #[.string (strOf (unR bs)), .int .i64 (unE bs)]) ∧ w = w' := by
  have hsz := strOf_size bs
  have hdl : (strOf bs).data.toList = bs := by simp [strOf]
  have hex := extract_strOf bs
  generalize hs : strOf bs = s at hsz hex hdl
  have HEX := Lib.hid hex
  have HS := Lib.hid hs
  have HSZ := Lib.hid hsz
  have HDL := Lib.hid hdl
  have hs9 : s.size ≤ 140737488355328 := by rw [hsz]; exact hbs
  clear hs hsz hex hdl
  obtain ⟨R, hR⟩ : ∃ R, strOf (unR bs) = R := ⟨_, rfl⟩
  obtain ⟨E, hE⟩ : ∃ E, unE bs = E := ⟨_, rfl⟩
  rw [hR, hE]
  have bad : unOk bs = false → R = ⟨#[]⟩ ∧ E = 2 := fun h => by
    rw [← hR, ← hE]; unfold unR unE; rw [h]; exact ⟨rfl, rfl⟩
  have BAD := Lib.hid bad
  have HR := Lib.hid hR
  have HE := Lib.hid hE
  clear hR hE bad
  by_cases c1 : s.size < 2
  · obtain ⟨rfl, rfl⟩ := BAD.out (by unfold unOk; rw [← HSZ.out]; simp; omega)
    go_enter Try.func37, Try.ntmps37
    go_wp2
    go_ret2
    exact ⟨rfl, rfl⟩
  · by_cases c2 : 60000 < s.size
    · obtain ⟨rfl, rfl⟩ := BAD.out (by unfold unOk; rw [← HSZ.out]; simp; omega)
      go_enter Try.func37, Try.ntmps37
      go_wp2
      go_ret2
      exact ⟨rfl, rfl⟩
    · have hle := le_take_lt bs 2 (by rw [← HSZ.out]; omega)
      have hle2 : le (bs.take 2) < 65536 := hle
      have hnum := number_any (s.extract 0 2) (by rw [HEX.out, strOf_size, List.length_take]; omega) w
      have e2 : (s.extract 0 2).data.toList = bs.take 2 := by rw [extract_list, HDL.out]; rfl
      rw [e2] at hnum
      generalize hL : le (bs.take 2) = L at hle2 hnum
      have HL := Lib.hid hL
      clear hL hle e2
      by_cases c3 : s.size - 2 < L
      · obtain ⟨rfl, rfl⟩ := BAD.out (by unfold unOk unEnd; rw [← HSZ.out, HL.out]; simp; omega)
        go_enter Try.func37, Try.ntmps37
        go_wp2_with fail
        refine hnum.mono ?_
        rintro e _ ⟨rfl, rfl⟩
        clear hnum
        go_wp2
        go_ret2
        exact ⟨rfl, rfl⟩
      · go_enter Try.func37, Try.ntmps37
        go_wp2_with fail
        refine hnum.mono ?_
        rintro e _ ⟨rfl, rfl⟩
        clear hnum
        go_wp2
        go_loop [5] (fun i => ∃ k : Nat, 2 + L ≤ k ∧ k ≤ s.size ∧ i = .int .i64 k ∧ Hid (∀ j, 2 + L ≤ j → j < k → byteAt bs j = 0)) (fun i => s.size - (intOf i).toNat)
        case atStart => exact ⟨2 + L, Nat.le_refl _, by omega, by go_num, Lib.hid (fun j h1 h2 => by omega)⟩
        case round =>
          obtain ⟨k, hk1, hk2, rfl, hz⟩ := hrel
          by_cases hlt : k < s.size
          · have hg := byte_get s k hlt
            rw [HDL.out] at hg
            by_cases h0 : byteAt bs k = 0
            · have hz2 : Hid (∀ j, 2 + L ≤ j → j < k + 1 → byteAt bs j = 0) := Lib.hid (fun j h1 h2 => by
                by_cases e : j = k
                · subst e; exact h0
                · exact hz.out j h1 (by omega))
              rw [h0] at hg
              clear h0
              go_wp2
              go_round
              case rel => exact ⟨k + 1, by omega, by omega, by go_num, hz2⟩
              case measure => simp [intOf]; omega
            · obtain ⟨rfl, rfl⟩ := BAD.out (by unfold unOk unEnd; rw [HL.out, not_zero hk1 (by rw [← HSZ.out]; exact hlt) h0]; simp)
              have hne : ((s[k].toNat : Int) != 0) = true := by rw [hg]; simp; omega
              clear hg h0
              go_wp2
              go_ret2
              exact ⟨rfl, rfl⟩
          · have hok : unOk bs = true := by
              unfold unOk unEnd
              rw [HL.out, all_zero (fun j h1 h2 => hz.out j h1 (by rw [← HSZ.out] at h2; omega)), ← HSZ.out]
              simp; omega
            have hRv : Hid (s.extract 2 (2 + L) = R) := Lib.hid (by
              rw [HEX.out, ← HR.out]; unfold unR unEnd; rw [hok, if_pos rfl, HL.out])
            have hEv : Hid (E = 0) := Lib.hid (by rw [← HE.out]; unfold unE; rw [hok]; rfl)
            clear hok
            go_wp2
            go_ret2
            refine ⟨?_, rfl⟩
            rw [hEv.out, ← hRv.out]
            rfl
end Go.Proofs.Ytmkomhdlcbimoaa
