/- A setting as argument; the contracts of Due, of the document's Due, and of the laws' own known. No statement of the seat is proved here. -/
import Derived.Test.YtolpajkeiijbmaaKBase
import Derived.Lib.SmallJoins
import Derived.ChangeMaps5
namespace Go.Proofs.Ytolpajkeiijbmaa
open Go.RowKit Go.ChangeShapes Go.WideShapes Go.ChangeAt G

section
variable {H : Type} {enc : TypeId × Value → H} {P : Program} {W : World} {base : Nat} {spare : Nat → Bool} {held : Bool} {t : TypeId} {v : Value} {x : DataW H × List MemPlace} {fuel : Nat}
theorem trod_float {k : FloatKind} (ht : P.underlying t = some (.float k)) (h : DataW.trod enc P W base spare held fuel t [v] = some x) : ∃ b, v = .float k b ∧ (Lit.float k b).wf = true := by
  cases fuel with
  | zero => simp [DataW.trod] at h
  | succ n =>
    unfold DataW.trod at h
    rw [ht] at h
    split at h
    all_goals simp_all
end
section
variable {H : Type} {enc : TypeId × Value → H} {W : World} {base : Nat} {v : Value} {d : DataW H} {ps : List MemPlace}
theorem set_arg (hv : Value.okWide Try.prog W .any base 24 v) (h : DataW.Trod enc Try.prog W 0 (fun _ => true) true 24 v d ps) :
    ∃ b f c, v = setting b f c ∧ b < 18446744073709551616 ∧ f < 18446744073709551616 ∧ c < 18446744073709551616 := by
  obtain ⟨u0, u1, u2, y0, y1, y2, fn, rfl, -, -, t0, t1, t2⟩ := Go.Joins.open_agg3 (P := Try.prog) Try.underlying24 (by kernel_rfl) (by kernel_rfl) hv h
  obtain ⟨x0, rfl, h0⟩ := trod_float Try.underlying22 t0
  obtain ⟨x1, rfl, h1⟩ := trod_float Try.underlying22 t1
  obtain ⟨x2, rfl, h2⟩ := trod_float Try.underlying22 t2
  exact ⟨x0, x1, x2, rfl, float_lt h0, float_lt h1, float_lt h2⟩
end

def dueN (b f c : Nat) (now n : Int) : Int := if 0 ≤ now ∧ now ≤ 1099511627776 then now + dly b f c n else 0
def dueE (now : Int) : Int := if 0 ≤ now ∧ now ≤ 1099511627776 then 0 else 1
set_option maxRecDepth 20000 in
set_option maxHeartbeats 800000 in
theorem due_any (b f c : Nat) (now n : Int) (hc : c < 18446744073709551616) (hn : n ≤ 9223372036854775807) (W : World) :
    Calls Try.prog 10 #[setting b f c, .int .i64 now, .int .i64 n] W fun e w' => e = .returned (.tuple #[.int .i64 (dueN b f c now n), .int .i64 (dueE now)]) ∧ Below W.heap.size W w' := by
  by_cases h0 : 0 ≤ now ∧ now ≤ 1099511627776
  · have e0 : dueN b f c now n = now + dly b f c n := if_pos h0
    have e1 : dueE now = 0 := if_pos h0
    rw [e0, e1]
    have hd := dly_bounds b f c n
    have hw1 : IntKind.i64.wrap (now + dly b f c n) = now + dly b f c n := by rw [IntKind.wrap_i64]; omega
    have hin := within_any now 1099511627776
    rw [show decide (0 ≤ now ∧ now ≤ 1099511627776) = true by simp [h0]] at hin
    have hk := delay_any b f c n hc hn
    clear e0 e1
    generalize dly b f c n = z at hd hw1 hk ⊢
    go_enter Try.func10, Try.ntmps10
    go_wp2_with fail
    refine (hin _).mono ?_
    rintro e _ ⟨rfl, rfl⟩
    go_wp2_with fail
    refine (hk _).mono ?_
    rintro e w1 ⟨rfl, b1⟩
    go_wp2
    go_ret2
    exact ⟨rfl, ((Below.refl _ _).alloc (Nat.le_refl _) _).trans (b1.mono (by simp))⟩
  · have e0 : dueN b f c now n = 0 := if_neg h0
    have e1 : dueE now = 1 := if_neg h0
    rw [e0, e1]
    have hin := within_any now 1099511627776
    rw [show decide (0 ≤ now ∧ now ≤ 1099511627776) = false by simp only [decide_eq_false_iff_not]; exact h0] at hin
    clear e0 e1
    go_enter Try.func10, Try.ntmps10
    go_wp2_with fail
    refine (hin _).mono ?_
    rintro e _ ⟨rfl, rfl⟩
    go_wp2
    go_ret2
    exact ⟨rfl, (Below.refl _ _).alloc (Nat.le_refl _) _⟩
set_option maxRecDepth 20000 in
set_option maxHeartbeats 800000 in
theorem docDue_any (b f c : Nat) (now n : Int) (hc : c < 18446744073709551616) (hn : n ≤ 9223372036854775807) (W : World) :
    Calls Try.prog 9 #[.float .f64 b, .float .f64 f, .float .f64 c, .int .i64 now, .int .i64 n] W fun e w' => e = .returned (.tuple #[.int .i64 (dueN b f c now n), .int .i64 (dueE now)]) ∧ Below W.heap.size W w' := by
  by_cases h0 : 0 ≤ now ∧ now ≤ 1099511627776
  · have e0 : dueN b f c now n = now + dly b f c n := if_pos h0
    have e1 : dueE now = 0 := if_pos h0
    rw [e0, e1]
    have hd := dly_bounds b f c n
    have hw1 : IntKind.i64.wrap (now + dly b f c n) = now + dly b f c n := by rw [IntKind.wrap_i64]; omega
    have h1 : ¬ now < 0 := by omega
    have h2 : ¬ 1099511627776 < now := by omega
    have hk := rDelay_any b f c n hc hn
    clear e0 e1
    generalize dly b f c n = z at hd hw1 hk ⊢
    go_enter Try.func9, Try.ntmps9
    go_wp2_with fail
    refine (hk _).mono ?_
    rintro e w1 ⟨rfl, b1⟩
    go_wp2
    go_ret2
    exact ⟨rfl, b1⟩
  · have e0 : dueN b f c now n = 0 := if_neg h0
    have e1 : dueE now = 1 := if_neg h0
    rw [e0, e1]
    clear e0 e1
    by_cases h1 : now < 0
    · clear h0
      go_enter Try.func9, Try.ntmps9
      go_wp2
      go_ret2
      exact ⟨rfl, Below.refl _ _⟩
    · have h2 : 1099511627776 < now := by omega
      clear h0
      go_enter Try.func9, Try.ntmps9
      go_wp2
      go_ret2
      exact ⟨rfl, Below.refl _ _⟩

theorem dly_four : dly 4607182418800017408 4611686018427387904 4621819117588971520 4 = 8 := by decide +kernel
theorem dly_none (b f c : Nat) : dly b f c 0 = 0 := by simp [dly]
set_option maxRecDepth 20000 in
set_option maxHeartbeats 800000 in
theorem known_any (w : World) : Calls Try.prog 8 #[] w fun e w' => e = .returned (.bool true) ∧ Below w.heap.size w w' := by
  have h1 := delay_any 4607182418800017408 4611686018427387904 4621819117588971520 4 (by decide) (by decide)
  have h2 := delay_any 4607182418800017408 4611686018427387904 4621819117588971520 0 (by decide) (by decide)
  rw [dly_four] at h1
  rw [dly_none] at h2
  go_enter Try.func8, Try.ntmps8
  go_wp2_with fail
  refine (h1 _).mono ?_
  rintro e w1 ⟨rfl, b1⟩
  go_wp2_with fail
  refine (h2 _).mono ?_
  rintro e w2 ⟨rfl, b2⟩
  go_wp2
  go_ret
  exact ⟨rfl, b1.trans (b2.mono b1.size)⟩
end Go.Proofs.Ytolpajkeiijbmaa
