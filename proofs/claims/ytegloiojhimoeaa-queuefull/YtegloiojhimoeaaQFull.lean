/- A queue holds a thousand, and no more; each has an id of its own: the law cisternlaw05.QueueFull returns true at every input. No condition. -/
import Derived.Test.YtegloiojhimoeaaQKnown
import Derived.Test.YtegloiojhimoeaaArgs
import Derived.BigQuiet
namespace Go.Proofs.Ytegloiojhimoeaa.queueFull
open Go.RowKit Go.ChangeShapes Go.WideShapes Go.ChangeAt

theorem own : ownKnob Try.prog.godebug = none := by kernel_rfl
theorem del_length {S : List Wt} {i : Int} (hd : S.Pairwise (fun a b => a.id ≠ b.id)) {x : Wt} (h : fnd S i = some x) : (del S i).length + 1 = S.length := by
  induction S with
  | nil => simp [fnd] at h
  | cons y S ih =>
    rw [List.pairwise_cons] at hd
    unfold fnd at h
    rw [List.find?_cons] at h
    by_cases e : y.id = i
    · have hall : del S i = S := List.filter_eq_self.2 (fun a ha => by have := hd.1 a ha; simp; rw [← e]; exact fun h => this h.symm)
      unfold del at *
      rw [List.filter_cons, if_neg (by simp [e]), hall, List.length_cons]
    · simp [e] at h
      have := ih hd.2 h
      unfold del at *
      rw [List.filter_cons]
      simp [e]
      simpa using this
/-- what the queue holds behind k pushes -/
def Full (f : Nat) (p k : Nat) (S : List Wt) : Prop := S.length = k ∧ (∀ x ∈ S, x.pr = p) ∧ ∀ i, i < k → (at' S i).id = ((f + i : Nat) : Int)
theorem full_none {f p k : Nat} {S : List Wt} (h : Full f p k S) {j : Nat} (hj : k ≤ j) : fnd S ((f + j : Nat) : Int) = none := by
  rw [fnd_none_iff]
  intro x hx
  obtain ⟨i, hi, rfl⟩ := mem_at hx
  rw [h.2.2 i (by rw [h.1] at hi; exact hi)]
  rw [h.1] at hi
  omega
theorem full_some {f p k : Nat} {S : List Wt} (h : Full f p k S) {j : Nat} (hj : j < k) : ∃ x, fnd S ((f + j : Nat) : Int) = some x := by
  cases hq : fnd S ((f + j : Nat) : Int) with
  | some x => exact ⟨x, rfl⟩
  | none => exact absurd (h.2.2 j hj) (fnd_none hq _ (at_mem (by rw [h.1]; exact hj)))
theorem full_push {f p k : Nat} {S : List Wt} (h : Full f p k S) (b t : Nat) : Full f p (k + 1) (S ++ [⟨b, ((f + k : Nat) : Int), p, t⟩]) := by
  refine ⟨by simp [h.1], fun x hx => ?_, fun i hi => ?_⟩
  · rcases List.mem_append.1 hx with hx | hx
    · exact h.2.1 x hx
    · simp at hx; subst hx; rfl
  · by_cases e : i < k
    · rw [at_append_left (by rw [h.1]; exact e)]; exact h.2.2 i e
    · obtain rfl : i = k := by omega
      have := at_append_right S ⟨b, ((f + i : Nat) : Int), p, t⟩
      rw [h.1] at this
      rw [this]
theorem full_min {f p k : Nat} {S : List Wt} (h : Full f p k S) (hk : 0 < k) (srt : S.Pairwise (fun a b => a.turn < b.turn)) {m : Wt} (hm : IsMin m S) : m.id = (f : Int) := by
  obtain ⟨i, hi, rfl⟩ := mem_at hm.1
  have h0 : 0 < S.length := by omega
  have := hm.2 (at' S 0) (at_mem h0)
  unfold Wt.ky at this
  rw [h.2.1 _ (at_mem h0), h.2.1 _ (at_mem hi)] at this
  have e : i = 0 := by
    apply Nat.eq_zero_of_le_zero
    apply Nat.le_of_not_lt
    intro hlt
    have := List.pairwise_iff_getElem.1 srt 0 i h0 hi hlt
    rw [← at_eq h0, ← at_eq hi] at this
    omega
  subst e
  rw [h.2.2 0 hk]; simp

set_option maxRecDepth 20000 in
set_option maxHeartbeats 3200000 in
theorem walk (a : Int) (_ : (Lit.int .i64 a).wf = true) (p : Nat) (wp : (Lit.float .f64 p).wf = true) (W : World) :
    Calls Try.prog 7 #[.int .i64 a, .float .f64 p] W fun e w' => e = .returned (.bool true) ∧ Below W.heap.size W w' := by
  have hp := float_lt wp
  obtain ⟨f, hf, hfe⟩ := mod_form a 1000000 (by decide) (by decide)
  clear wp
  go_enter Try.func7, Try.ntmps7
  go_wp2_with fail
  refine (known_any W).mono ?_
  rintro e w1 ⟨rfl, b1⟩
  go_wp2_with fail
  refine (new_any w1).mono ?_
  rintro e w2 ⟨rfl, q2, b2⟩
  have B2 : Hid (Below W.heap.size W w2) := b1.trans (b2.mono b1.size)
  have hsz := b1.size
  have QQ : Hid (QAt (fun k => k < W.heap.size) w2 w1.heap.size [] 0 0) := q2.less (fun k e => Nat.lt_of_lt_of_le e hsz)
  clear q2 b1 b2
  go_wp2
  rw [hfe]
  go_loopw [6] (fun iv wr => ∃ (k : Nat) (S : List Wt), k ≤ 1000 ∧ iv = .int .i64 k ∧ QAt (fun k => k < W.heap.size) wr w1.heap.size S k k ∧ Full f p k S ∧ Below W.heap.size W wr) (fun iv _ => 1000 - (intOf iv).toNat)
  case atStart => exact ⟨0, [], Nat.zero_le _, rfl, QQ.out, ⟨rfl, by simp, fun i hi => by omega⟩, B2.out⟩
  case round =>
    clear QQ B2
    obtain ⟨k, S, hk, rfl, q, hF, hB⟩ := hrel
    by_cases hlt : k < 1000
    · have hlt' : (k : Int) < 1000 := by omega
      have e1 : IntKind.i64.wrap ((f : Int) + (k : Int)) = ((f + k : Nat) : Int) := by rw [IntKind.wrap_i64]; omega
      have e2 : IntKind.i64.wrap ((k : Int) + 1) = ((k + 1 : Nat) : Int) := by rw [IntKind.wrap_i64]; omega
      have C := Lib.hid (push_ok q (id := ((f + k : Nat) : Int)) (by unfold fits; omega) hp (full_none hF (Nat.le_refl _)) (by rw [hF.1]; exact hlt) (by omega) (by unfold maxLen; omega))
      have HF := Lib.hid hF
      have HK := Lib.hid hlt
      generalize hfk : f + k = fk at e1 C
      generalize hk1 : k + 1 = k1 at e2
      clear q hF hlt hk
      go_wp2_with fail
      refine C.out.mono ?_
      rintro e w3 ⟨b, rfl, q3, k3⟩
      have B3 := Lib.hid (hB.trans (k3.below hB.size (fun _ e => e)))
      have Q3 := Lib.hid q3
      have HK1 := Lib.hid (And.intro hfk hk1)
      clear q3 k3 hB C hfk hk1
      go_wp2
      go_roundw
      case rel =>
        obtain ⟨x1, x2⟩ := HK1.out
        subst x1 x2
        exact ⟨k + 1, _, HK.out, rfl, Q3.out, full_push HF.out b k, B3.out⟩
      case measure => have := HK.out; have := HK1.out.2; simp [intOf]; omega
    · obtain rfl : k = 1000 := by omega
      clear hlt hk
      have e1 : IntKind.i64.wrap ((f : Int) + 1000) = ((f + 1000 : Nat) : Int) := by rw [IntKind.wrap_i64]; omega
      have e7 : IntKind.i64.wrap ((f : Int) + 7) = ((f + 7 : Nat) : Int) := by rw [IntKind.wrap_i64]; omega
      have hl : S.length = 1000 := hF.1
      obtain ⟨x7, hx7⟩ := full_some hF (j := 7) (by omega)
      have hn := full_none hF (j := 1000) (Nat.le_refl _)
      have hmin := fun m => full_min hF (by omega) q.srt (m := m)
      have f1 : fits ((f + 1000 : Nat) : Int) := by unfold fits; omega
      have f7 : fits ((f + 7 : Nat) : Int) := by unfold fits; omega
      have hdl := del_length q.ids hx7
      have hdn : fnd (del S ((f + 7 : Nat) : Int)) ((f + 1000 : Nat) : Int) = none := by rw [fnd_del, if_neg (by omega)]; exact hn
      generalize ((f + 7 : Nat) : Int) = i7 at *
      generalize ((f + 1000 : Nat) : Int) = i1000 at *
      have PK := Lib.hid (peek_ok q (by omega))
      have H := Lib.hid (And.intro hl (And.intro hx7 (And.intro hn (And.intro hmin (And.intro f1 (And.intro f7 (And.intro hdl hdn)))))))
      have Q := Lib.hid q
      clear hl hx7 hn hmin f1 f7 hdl hdn hF q
      go_wp2_with fail
      refine PK.out.mono ?_
      rintro e w3 ⟨m, rfl, hm, b3⟩
      have hid := H.out.2.2.2.1 m hm
      obtain ⟨mb, mi, mp, mt⟩ := m
      have hid' : mi = (f : Int) := hid
      subst hid'
      have Q3 := Lib.hid (Q.out.below b3)
      have B3 := Lib.hid (hB.trans (b3.mono hB.size))
      clear hm b3 hB PK hid Q
      go_wp2_with (with_reducible refine wpList_alloc_row rfl 43 rfl #[.int .i64 0, .float .f64 0] (by kernel_rfl) ?_)
      intro w4 hg4 hb4 hs4
      obtain ⟨d0, g0, hst, hg5, -, hbl5⟩ := ent_store hg4 f mp
      have b5 := hbl5 _ _ hb4 (Nat.le_refl _)
      have c5 := cell_row hg5 0 rfl
      have Q5 := Lib.hid (Q3.out.below b5)
      have B5 := Lib.hid (B3.out.trans (b5.mono B3.out.size))
      clear hg5 hbl5 b5 hg4 hb4 hs4 Q3 B3
      generalize hw5 : (w4.setCell ⟨w3.heap.size, 0, none⟩ (.int .i64 f)).setCell ⟨w3.heap.size, 1, none⟩ (.float .f64 mp) = w5 at *
      clear hw5
      go_wp2_with fail
      refine (len_any Q5.out).mono ?_
      rintro e _ ⟨rfl, rfl⟩
      rw [H.out.1]
      go_wp2_with fail
      refine (push_full Q5.out H.out.2.2.2.2.1 p H.out.2.2.1 (by rw [H.out.1]; exact Nat.le_refl _)).mono ?_
      rintro e _ ⟨rfl, rfl⟩
      go_wp2_with fail
      refine (push_there Q5.out H.out.2.2.2.2.2.1 p H.out.2.1).mono ?_
      rintro e _ ⟨rfl, rfl⟩
      go_wp2_with fail
      refine (drop_ok Q5.out H.out.2.2.2.2.2.1 H.out.2.1).mono ?_
      rintro e w6 ⟨rfl, q6, k6⟩
      have B6 := Lib.hid (B5.out.trans (k6.below B5.out.size (fun _ e => e)))
      have Q6 := Lib.hid q6
      clear q6 k6 Q5 B5 c5 hst d0 g0
      have hdl := H.out.2.2.2.2.2.2.1
      have hl1 := H.out.1
      go_wp2_with fail
      refine (push_ok Q6.out H.out.2.2.2.2.1 hp H.out.2.2.2.2.2.2.2 (by omega) (by decide) (by unfold maxLen; decide)).mono ?_
      rintro e w7 ⟨b, rfl, q7, k7⟩
      have B7 := Lib.hid (B6.out.trans (k7.below B6.out.size (fun _ e => e)))
      have LN := len_any q7
      have hln : (del S i7 ++ [(⟨b, i1000, p, 1000⟩ : Wt)]).length = 1000 := by simp; omega
      rw [hln] at LN
      clear q7 k7 hln hdl hl1 Q6 B6 H
      go_wp2_with fail
      refine LN.mono ?_
      rintro e _ ⟨rfl, rfl⟩
      go_wp2
      go_ret
      exact ⟨rfl, B7.out⟩

/-! ### the row -/
theorem laidOut : laidOutB Try.prog = true := by kernel_rfl
theorem bytesInt : Try.prog.bytesOf 3 = 8 := by kernel_rfl
set_option maxRecDepth 100000 in
theorem lifted (os : Os) (started : os.Started) (H : Type) (enc : TypeId × Value → H) :
    ReturnsInHanded {} Try.checked os 7 .any (Rows.queueFullSpec.pre6 enc Try.prog Try.f7 Rows.queueFullRow.domain false) (Rows.queueFullSpec.post enc Try.prog Try.f7 false true false false) := by
  refine returnsInHanded_of_change_sized (C := Try.checked) own started (by kernel_rfl) Try.func7
    (ChangeSpec.witness6 (enc := enc) (C := Try.checked) false ⟨#[], #[.int .i64 0, .float .f64 0], []⟩ 8 (by kernel_rfl) (by kernel_rfl) (by kernel_rfl) (by kernel_rfl)) ?_
  intro W base args ds gs before hval0 hW hcnd hsz0 _
  have hval : ∀ (j : Nat) t v, Try.f7.params[j]? = some t → args[j]? = some v → Value.okWide Try.prog W .any base t v := hval0
  have hW' := hW
  obtain ⟨p, q, hA0, hV, rfl, hfz, hnd⟩ := hW
  have hA : DataW.TrodAll enc Try.prog W 0 (fun _ => true) true Try.f7.params.toList args.toList ds p := hA0
  have hsz : (DataW.weightsEach Try.prog (Try.f7.params.toList ++ Rows.queueFullSpec.plain.varTypes Try.prog) (ds ++ gs)).all (· ≤ reachBytes) = true := hsz0
  rw [Try.params7] at hA hval hsz
  obtain ⟨v0, vs0, d0, ds0, p0, q0, hargs, rfl, rfl, h0, r0⟩ := trodAll_cons hA
  obtain ⟨v1, vs1, d1, ds1, p1, q1, rfl, rfl, rfl, h1, r1⟩ := trodAll_cons r0
  obtain ⟨rfl, rfl, rfl⟩ := trodAll_nil r1
  obtain rfl : args = #[v0, v1] := by cases args; simp_all
  obtain ⟨rfl, rfl⟩ := trodVars_none hV
  obtain ⟨a0, rfl, rfl, rfl, w0⟩ := open_int Try.underlying3 (hval 0 3 v0 rfl rfl) h0
  obtain ⟨a1, rfl, rfl, rfl, w1⟩ := open_float Try.underlying31 (hval 1 31 v1 rfl rfl) h1
  clear hA0 hval0 hsz0
  refine (walk a0 w0 a1 w1 W ).mono fun e W' ⟨he, bel⟩ => ?_
  subst he
  exact ⟨_, rfl, _, _, _, [], _, [], hW', trodAll_mk1 (shut_bool Try.underlying4 _), (trodAll_cons_mk (shut_int Try.underlying3 w0) (trodAll_cons_mk (shut_float Try.underlying31 w1) trodAll_mk0)), rfl, bel.frame _, fun h => by cases h⟩

theorem over : Rows.queueFullRow.holds Try.pinned (OpenSpec.ofChange Rows.queueFullSpec) :=
  OpenClaim.holds_of_wide 7 Try.f7 rfl rfl rfl rfl rfl rfl rfl ⟨rfl, rfl, rfl, rfl, rfl⟩ rfl rfl rfl rfl rfl (by kernel_rfl) Try.func7 (by kernel_rfl)
    (of_decide_eq_true (by kernel_rfl)) (by unfold Func.isWrapper; first | (rw [if_pos (by decide +kernel)]; kernel_rfl) | (rw [if_neg (by decide +kernel)]; exact ⟨rfl, rfl⟩))
    (fun os started H enc _ => lifted os started H enc)
end Go.Proofs.Ytegloiojhimoeaa.queueFull

namespace Go.Proofs.Ytegloiojhimoeaa
/-- The law returns true at every input. -/
theorem queueFull_holds : Rows.QueueFullSaid := queueFull.over
end Go.Proofs.Ytegloiojhimoeaa

