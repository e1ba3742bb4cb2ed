/- The contracts of pack.Unframe and pack.Open. No statement of the seat is proved here. -/
import Derived.Test.YtmkomhdlcbimoaaPFrame
import Derived.Deep.QuietTactic
import Derived.BigQuiet
namespace Go.Proofs.Ytmkomhdlcbimoaa
set_option maxRecDepth 20000
open Go.RowKit

def capOk : Value → Prop
  | .slice _ n c => n ≤ c
  | _ => True
theorem head_at {w : World} {ao : Option Addr} {n cap : Nat} {bs : List UInt8} (h : ByC w (.slice ao n cap) bs) (hi : Nat) (h2 : hi ≤ bs.length) : ByC w (.slice ao hi cap) (bs.take hi) := by
  obtain ⟨ao', cap', hv, hl, hc⟩ := h
  cases hv
  have hlen : (bs.take hi).length = hi := by rw [List.length_take]; omega
  refine ⟨_, _, by rw [hlen], by rw [hlen]; omega, fun h0 => ?_⟩
  rw [hlen] at h0
  obtain ⟨b, off, rfl, hat⟩ := hc (by omega)
  refine ⟨b, off, rfl, fun i hi' => ?_⟩
  rw [hlen] at hi'
  rw [hat i (by omega)]
  congr 2
  simp only [List.getD_eq_getElem?_getD]
  rw [List.getElem?_take, if_pos hi']
/-- 's[lo:]', under one name -/
theorem tail_run {w : World} {ao : Option Addr} {n cap : Nat} {bs : List UInt8} (h : ByC w (.slice ao n cap) bs) (hcap : n ≤ cap) (lo : Nat) (h2 : lo ≤ n) (l : Int) (hl : l = lo) : ∃ bo c, ByC w (.slice bo (n - lo) c) (bs.drop lo) ∧ n - lo ≤ c ∧ ∀ w', (Instr.sliceAt 36 (.slice ao n cap) (some (.int .i64 l)) none none).run Try.prog w' = .ok (.slice bo (n - lo) c) w' := by
  have hn : n = bs.length := by obtain ⟨_, _, hv, _⟩ := h; cases hv; rfl
  have s := sliced_at h lo n h2 (by omega) (by omega)
  rw [List.take_of_length_le (by rw [List.length_drop]; omega)] at s
  refine ⟨_, _, s, by omega, fun w' => ?_⟩
  subst hl
  have hu : Try.prog.underlying 36 = some (.slice (Try.prog.elem 36)) := by kernel_rfl
  rw [run_sliceAt_slice (P := Try.prog) w' 36 _ _ _ _ hu, run_slice_l (P := Try.prog) w' 36 ao n cap hu .i64 lo (by omega) (by omega)]
  have hsz : (sizeOf (Try.prog.elem 36)).run Try.prog w' = .ok 1 w' := by kernel_rfl
  rw [hsz]; simp [Result.andThen, sliced]
/-- 's[lo:hi]', under one name -/
theorem part_run {w : World} {ao : Option Addr} {n cap : Nat} {bs : List UInt8} (h : ByC w (.slice ao n cap) bs) (hcap : n ≤ cap) (lo hi : Nat) (h1 : lo ≤ hi) (h2 : hi ≤ n) (l k : Int) (hl : l = lo) (hk : k = hi) : ∃ bo c, ByC w (.slice bo (hi - lo) c) ((bs.drop lo).take (hi - lo)) ∧ hi - lo ≤ c ∧ ∀ w', (Instr.sliceAt 36 (.slice ao n cap) (some (.int .i64 l)) (some (.int .i64 k)) none).run Try.prog w' = .ok (.slice bo (hi - lo) c) w' := by
  have hn : n = bs.length := by obtain ⟨_, _, hv, _⟩ := h; cases hv; rfl
  have s := sliced_at h lo hi h1 (by omega) (by omega)
  refine ⟨_, _, s, by omega, fun w' => ?_⟩
  subst hl; subst hk
  have hu : Try.prog.underlying 36 = some (.slice (Try.prog.elem 36)) := by kernel_rfl
  rw [run_sliceAt_slice (P := Try.prog) w' 36 _ _ _ _ hu, run_slice_lh (P := Try.prog) w' 36 ao n cap hu .i64 .i64 lo hi (by omega) (by omega) (by omega)]
  have hsz : (sizeOf (Try.prog.elem 36)).run Try.prog w' = .ok 1 w' := by kernel_rfl
  rw [hsz]; simp [Result.andThen, sliced]
def unEnd (bs : List UInt8) : Nat := 2 + le (bs.take 2)
def unOk (bs : List UInt8) : Bool := decide (2 ≤ bs.length) && decide (bs.length ≤ 60000) && decide (unEnd bs ≤ bs.length) && (bs.drop (unEnd bs)).all (· == 0)
def unE (bs : List UInt8) : Int := if unOk bs then 0 else 2
def unR (bs : List UInt8) : List UInt8 := if unOk bs then (bs.drop 2).take (unEnd bs - 2) else []
set_option maxHeartbeats 800000 in
theorem unframe_any {w : World} {v : Value} {bs : List UInt8} (h : ByC w v bs) (hcap : capOk v) : Calls Try.prog 55 #[v] w (OwnRetE w.heap.size w (unR bs) (unE bs)) := by
  obtain ⟨ao, m, cap, hv, hm⟩ : ∃ ao m cap, v = .slice ao m cap ∧ Hid (m = bs.length) := by
    obtain ⟨ao, cap, hv, _⟩ := h
    exact ⟨ao, _, cap, hv, Lib.hid rfl⟩
  have hmb : m ≤ 9223372036854775807 := by rw [hm.out]; obtain ⟨_, _, _, hh⟩ := h.form; exact hh
  subst hv
  have hmc : m ≤ cap := hcap
  by_cases c1 : m < 2
  · have e0 : unOk bs = false := by unfold unOk; rw [← hm.out]; simp; omega
    unfold unR unE; rw [e0, if_neg (by decide), if_neg (by decide)]
    clear e0
    go_enter Try.func55, Try.ntmps55
    go_wp2
    go_ret2
    exact ⟨_, rfl, OwnB.nil _ _, Below.refl _ _⟩
  · by_cases c2 : 60000 < m
    · have e0 : unOk bs = false := by unfold unOk; rw [← hm.out]; simp; omega
      unfold unR unE; rw [e0, if_neg (by decide), if_neg (by decide)]
      clear e0
      go_enter Try.func55, Try.ntmps55
      go_wp2
      go_ret2
      exact ⟨_, rfl, OwnB.nil _ _, Below.refl _ _⟩
    · have s1 := head_at h 2 (by rw [← hm.out]; omega)
      have hle := le_take_lt bs 2 (by rw [← hm.out]; omega)
      have hle2 : le (bs.take 2) < 65536 := hle
      generalize hL : le (bs.take 2) = L at hle hle2
      have HL := Lib.hid hL
      clear hL hle
      by_cases c3 : m < 2 + L
      · have e0 : unOk bs = false := by unfold unOk unEnd; rw [← hm.out, HL.out]; simp; omega
        unfold unR unE; rw [e0, if_neg (by decide), if_neg (by decide)]
        clear e0
        go_enter Try.func55, Try.ntmps55
        go_wp2_with fail
        refine (readLow_any s1 (by rw [List.length_take]; omega)).mono ?_
        rintro e _ ⟨rfl, rfl⟩
        rw [HL.out]
        go_wp2
        go_ret2
        exact ⟨_, rfl, OwnB.nil _ _, Below.refl _ _⟩
      · obtain ⟨bo, c, s2, hc2, r2⟩ := tail_run h hmc (2 + L) (by omega) (2 + (L : Int)) (by omega)
        obtain ⟨bo3, c3', s3, hc3, r3⟩ := part_run h hmc 2 (2 + L) (by omega) (by omega) 2 (2 + (L : Int)) rfl (by omega)
        have hlen3 : ((bs.drop 2).take (2 + L - 2)).length ≤ 140737488355328 := by rw [List.length_take]; omega
        generalize m - (2 + L) = m2 at s2 hc2 r2
        generalize hm3 : 2 + L - 2 = m3 at s3 hc3 r3 hlen3
        have HM3 := Lib.hid hm3
        clear hm3
        cases hz : (bs.drop (2 + L)).all (· == 0)
        · have e0 : unOk bs = false := by unfold unOk unEnd; rw [HL.out, hz]; simp
          unfold unR unE; rw [e0, if_neg (by decide), if_neg (by decide)]
          clear e0 s3 r3
          go_enter Try.func55, Try.ntmps55
          go_wp2_with fail
          refine (readLow_any s1 (by rw [List.length_take]; omega)).mono ?_
          rintro e _ ⟨rfl, rfl⟩
          rw [HL.out]
          go_wp2_with fail
          refine (noughts_any s2).mono ?_
          rintro e _ ⟨rfl, rfl⟩
          rw [hz]
          go_wp2
          go_ret2
          exact ⟨_, rfl, OwnB.nil _ _, Below.refl _ _⟩
        · have e0 : unOk bs = true := by unfold unOk unEnd; rw [HL.out, hz, ← hm.out]; simp; omega
          have e1 : unEnd bs - 2 = m3 := by unfold unEnd; rw [HL.out]; exact HM3.out
          unfold unR unE; rw [e0, if_pos rfl, if_pos rfl, e1]
          clear e0 e1
          go_enter Try.func55, Try.ntmps55
          go_wp2_with fail
          refine (readLow_any s1 (by rw [List.length_take]; omega)).mono ?_
          rintro e _ ⟨rfl, rfl⟩
          rw [HL.out]
          go_wp2_with fail
          refine (noughts_any s2).mono ?_
          rintro e _ ⟨rfl, rfl⟩
          rw [hz]
          go_wp2_with fail
          refine (clone_any s3 hlen3).mono ?_
          rintro e w1 ⟨v1, rfl, h1, b1⟩
          obtain ⟨ao1, m1, cap1, hv1, hm1⟩ := h1.form'
          subst hv1
          go_wp2
          go_ret2
          exact ⟨_, rfl, h1, b1⟩
end Go.Proofs.Ytmkomhdlcbimoaa
