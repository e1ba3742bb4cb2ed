/- The contracts of the document's own Seal and DocOpen. No statement of the seat is proved here. -/
import Derived.Test.YtmkomhdlcbimoaaPMir
import Derived.Test.YtmkomhdlcbimoaaPArgs
namespace Go.Proofs.Ytmkomhdlcbimoaa
set_option maxRecDepth 20000
open Go.RowKit

theorem refSeal_any (bs : List UInt8) (hbs : bs.length + 8 ≤ 140737488355328) (w : World) : Calls Try.prog 51 #[.string (strOf bs)] w fun e w' => e = .returned (.string (strOf (sealed bs))) ∧ Below w.heap.size w w' := by
  have hc := crc_lt bs
  have hk := refCrc_any bs (by omega) w
  have hl := little_any (crc bs) 4 (by omega) (by decide) w
  have HF : Hid (strOf (sealed bs) = strOf bs ++ strOf (low (crc bs) 4)) := Lib.hid (by unfold sealed; rw [strOf_append])
  rw [HF.out]
  clear HF
  have hsz := strOf_size bs
  generalize strOf bs = s at hsz hk ⊢
  have hsz2 := strOf_size (low (crc bs) 4)
  rw [low_length] at hsz2
  generalize strOf (low (crc bs) 4) = t at hsz2 hl ⊢
  generalize crc bs = c at hc hk hl
  have hs9 : s.size + 8 ≤ 140737488355328 := by rw [hsz]; exact hbs
  clear hsz
  go_enter Try.func51, Try.ntmps51
  go_wp2_with fail
  refine hk.mono ?_
  rintro e _ ⟨rfl, rfl⟩
  clear hk
  go_wp2_with fail
  refine hl.mono ?_
  rintro e w1 ⟨rfl, b1⟩
  clear hl
  go_wp2
  go_ret
  exact ⟨rfl, b1⟩
theorem openOk_iff {bs : List UInt8} (h : 4 ≤ bs.length) : openOk bs = true ↔ sealed (bs.take (bs.length - 4)) = bs := by
  have hd : (bs.drop (bs.length - 4)).length = 4 := by rw [List.length_drop]; omega
  have ht : bs.take (bs.length - 4) ++ bs.drop (bs.length - 4) = bs := List.take_append_drop _ _
  have hcl := crc_lt (bs.take (bs.length - 4))
  unfold openOk sealed
  rw [decide_eq_true_eq]
  generalize bs.take (bs.length - 4) = t at ht hcl ⊢
  generalize bs.drop (bs.length - 4) = d at hd ht ⊢
  subst ht
  constructor
  · intro e
    rw [← e]
    have := low_le d
    rw [hd] at this
    rw [this]
  · intro e
    have e2 := List.append_cancel_left e
    rw [← e2, le_low, Nat.mod_eq_of_lt]
    have e3 : (2 : Nat) ^ (8 * 4) = 4294967296 := by decide
    omega
set_option maxHeartbeats 800000 in
theorem docOpen_any (bs : List UInt8) (hbs : bs.length + 8 ≤ 140737488355328) (w : World) : Calls Try.prog 57 #[.string (strOf bs)] w (StrRetE w (strOf (openR bs)) (openE bs)) := by
  have hsz := strOf_size bs
  have hex := extract_strOf bs
  generalize hs : strOf bs = s at hsz hex
  have HEX := Lib.hid hex
  have HS := Lib.hid hs
  have HSZ := Lib.hid hsz
  have hs9 : s.size + 8 ≤ 140737488355328 := by rw [hsz]; exact hbs
  clear hs hsz hex
  by_cases c1 : s.size < 4
  · have e0 : openE bs = 2 := by unfold openE; rw [← HSZ.out, if_pos c1]
    have e1 : openR bs = [] := by unfold openR; rw [← HSZ.out, if_pos c1]
    rw [e0, e1]
    clear e0 e1
    go_enter Try.func57, Try.ntmps57
    go_wp2
    go_ret2
    exact ⟨rfl, Below.refl _ _⟩
  · have hk := refSeal_any (bs.take (bs.length - 4)) (by rw [List.length_take]; omega) w
    have hx : s.extract 0 (s.size - 4) = strOf (bs.take (bs.length - 4)) := by rw [HEX.out, HSZ.out]; simp
    have hw4 : IntKind.i64.wrap ((s.size : Int) - 4) = ((s.size - 4 : Nat) : Int) := by rw [IntKind.wrap_i64]; omega
    have hsl : s.size - 4 ≤ s.size := by omega
    by_cases c2 : openOk bs = true
    · have e0 : openE bs = 0 := by unfold openE; rw [← HSZ.out, if_neg c1, if_pos c2]
      have e1 : strOf (openR bs) = s.extract 0 (s.size - 4) := by unfold openR; rw [← HSZ.out, if_neg c1, if_pos c2, hx, ← HSZ.out]
      rw [e0, e1]
      rw [(openOk_iff (by rw [← HSZ.out]; omega)).1 c2, HS.out, ← hx] at hk
      clear e0 e1 hx c2
      go_enter Try.func57, Try.ntmps57
      go_wp2_with fail
      refine hk.mono ?_
      rintro e w1 ⟨rfl, b1⟩
      clear hk
      go_wp2
      go_ret2
      exact ⟨rfl, b1⟩
    · have e0 : openE bs = 16 := by unfold openE; rw [← HSZ.out, if_neg c1, if_neg c2]
      have e1 : openR bs = [] := by unfold openR; rw [← HSZ.out, if_neg c1, if_neg c2]
      rw [e0, e1]
      have hne2 : (!(strOf (sealed (bs.take (bs.length - 4)))).toList == s.toList) = true := by
        rw [Bool.not_eq_true', beq_eq_false_iff_ne, ← HS.out, strOf_toList, strOf_toList]
        exact fun e => c2 ((openOk_iff (by rw [← HSZ.out]; omega)).2 e)
      rw [← hx] at hk
      generalize strOf (sealed (bs.take (bs.length - 4))) = q at hk hne2
      clear e0 e1 hx c2
      go_enter Try.func57, Try.ntmps57
      go_wp2_with fail
      refine hk.mono ?_
      rintro e w1 ⟨rfl, b1⟩
      clear hk
      go_wp2
      go_ret2
      exact ⟨rfl, b1⟩
section
variable {P : Program} {md : Region.Mode} {ops : Array Oper} {Q : Exit → Act → World → Prop} {S : World → Prop} {fuel : Nat} {L : Array Bool} {a : Act} {w : World}
/-- another operation and a call may come in either order -/
theorem wpAnyH_or_call (j i : Nat) (dj di : Option Tmp) (f : FuncId) (args : Array Value) (vj : Value) {w2 : World} {oi oj : Oper} (hj : ops[j]? = some oj) (hi : ops[i]? = some oi) (hr : Region.ready md ops L = [j, i])
    (hwj : Region.wanted oj (yielded ops a.tmps) = true) (hwi : Region.wanted oi (yielded ops a.tmps) = true) (hdj : oj.dst = dj) (hdi : oi.dst = di) (hyi : (execOp a.eval oi).run P w = .ok (.enter f args) w) {R : Ending → World → Prop} (hc : Calls P f args w R)
    (hyj : (execOp a.eval oj).run P w = .ok (.value vj) w2) (hS2 : S w2)
    (h1 : ∀ e w1, R e w1 → ∃ v, e = .returned v ∧ S w1 ∧ wpAnyH P md ops Q S fuel (L.setIfInBounds i true) (a.put di v) w1) (h2 : wpAnyH P md ops Q S fuel (L.setIfInBounds j true) (a.put dj vj) w2) : wpAnyH P md ops Q S (fuel + 1) L a w := by
  subst hdi
  subst hdj
  refine wpAnyH_ready hr (by simp) (AllReadyH.cons hj (fun K hK => ?_) (AllReadyH.cons hi (fun K hK => ?_) AllReadyH.nil))
  · rw [if_pos hwj]
    unfold Oper.wp
    rw [hyj]; exact hK.out _ _ hS2 (fun _ => h2)
  · rw [if_pos hwi]
    unfold Oper.wp
    rw [hyi, Oper.upon_enter]
    refine hc.mono fun e w1 hR => ?_
    obtain ⟨v, rfl, hS, h3⟩ := h1 e w1 hR
    exact hK.out _ _ hS (fun _ => h3)
end
end Go.Proofs.Ytmkomhdlcbimoaa
