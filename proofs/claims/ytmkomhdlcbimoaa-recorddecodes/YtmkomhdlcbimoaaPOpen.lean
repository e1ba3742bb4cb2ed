/- The contract of pack.Open. No statement of the seat is proved here. -/
import Derived.Test.YtmkomhdlcbimoaaPUnframe
namespace Go.Proofs.Ytmkomhdlcbimoaa
set_option maxRecDepth 20000
open Go.RowKit

def openOk (bs : List UInt8) : Bool := decide (le (bs.drop (bs.length - 4)) = crc (bs.take (bs.length - 4)))
def openE (bs : List UInt8) : Int := if bs.length < 4 then 2 else if openOk bs then 0 else 16
def openR (bs : List UInt8) : List UInt8 := if bs.length < 4 then [] else if openOk bs then bs.take (bs.length - 4) else []
theorem ByC.drewN {w : World} {v : Value} {bs : List UInt8} (h : ByC w v bs) (n : Nat) : ByC (w.drewN n) v bs := h
theorem readLow_q {w : World} {v : Value} {bs : List UInt8} (h : ByC w v bs) (h8 : bs.length ≤ 8) (n : Nat) : Calls Try.prog 68 #[v] (w.drewN n) fun e w' => e = .returned (.int .u64 (le bs)) ∧ w' = w.drewN n :=
  (readLow_any (h.drewN n) h8).mono fun _ _ ⟨a, b⟩ => ⟨a, b.symm⟩
theorem crc_q {w : World} {v : Value} {bs : List UInt8} (h : ByC w v bs) (n : Nat) : Calls Try.prog 63 #[v] (w.drewN n) fun e w' => e = .returned (.int .i64 (crc bs)) ∧ w' = w.drewN n :=
  (crc_any (h.drewN n)).mono fun _ _ ⟨a, b⟩ => ⟨a, b.symm⟩
/-- 's[:hi]', under one name -/
theorem head_run {w : World} {ao : Option Addr} {n cap : Nat} {bs : List UInt8} (h : ByC w (.slice ao n cap) bs) (hcap : n ≤ cap) (hi : Nat) (h2 : hi ≤ n) (k : Int) (hk : k = hi) : ByC w (.slice ao hi cap) (bs.take hi) ∧ ∀ w', (Instr.sliceAt 36 (.slice ao n cap) none (some (.int .i64 k)) none).run Try.prog w' = .ok (.slice ao hi cap) w' := by
  have hn : n = bs.length := by obtain ⟨_, _, hv, _⟩ := h; cases hv; rfl
  refine ⟨head_at h hi (by omega), fun w' => ?_⟩
  subst hk
  have hu : Try.prog.underlying 36 = some (.slice (Try.prog.elem 36)) := by kernel_rfl
  rw [run_sliceAt_slice (P := Try.prog) w' 36 _ _ _ _ hu, run_slice_h (P := Try.prog) w' 36 ao n cap hu .i64 hi (by omega) (by omega)]
  have hsz : (sizeOf (Try.prog.elem 36)).run Try.prog w' = .ok 1 w' := by kernel_rfl
  rw [hsz]
  cases ao with
  | none => simp [Result.andThen, sliced]
  | some a => simp [Result.andThen, sliced, Addr.add]
theorem below_drewN (B : Nat) (w : World) (n : Nat) : Below B w (w.drewN n) := ⟨rfl, rfl, rfl, Nat.le_refl _, fun _ _ => rfl⟩
set_option maxHeartbeats 800000 in
theorem open_any {w : World} {v : Value} {bs : List UInt8} (h : ByC w v bs) (hcap : capOk v) (hlen : bs.length ≤ 140737488355328) : Calls Try.prog 64 #[v] w (OwnRetE w.heap.size w (openR bs) (openE bs)) := by
  obtain ⟨ao, m, cap, hv, hm⟩ : ∃ ao m cap, v = .slice ao m cap ∧ Hid (m = bs.length) := by
    obtain ⟨ao, cap, hv, _⟩ := h
    exact ⟨ao, _, cap, hv, Lib.hid rfl⟩
  have hmb : m ≤ 140737488355328 := by rw [hm.out]; exact hlen
  subst hv
  have hmc : m ≤ cap := hcap
  unfold openR openE openOk
  rw [← hm.out]
  by_cases c1 : m < 4
  · rw [if_pos c1, if_pos c1]
    go_enter Try.func64, Try.ntmps64
    go_wp2
    go_ret2
    exact ⟨_, rfl, OwnB.nil _ _, Below.refl _ _⟩
  · rw [if_neg c1, if_neg c1]
    obtain ⟨bo, c, s2, hc2, r2⟩ := tail_run h hmc (m - 4) (by omega) ((m : Int) - 4) (by omega)
    obtain ⟨s3, r3⟩ := head_run h hmc (m - 4) (by omega) ((m : Int) - 4) (by omega)
    have e4 : m - (m - 4) = 4 := by omega
    rw [e4] at s2 hc2 r2
    have l2 : (bs.drop (m - 4)).length ≤ 8 := by rw [List.length_drop, ← hm.out]; omega
    have hx := crc_lt (bs.take (m - 4))
    have hlt := le_lt (bs.drop (m - 4))
    have l3 : (bs.take (m - 4)).length ≤ 140737488355328 := by rw [List.length_take]; omega
    generalize m - 4 = k at s2 s3 r2 r3 l2 hx l3 hlt
    have hw : IntKind.u64.wrap ((crc (bs.take k) : Nat) : Int) = crc (bs.take k) := wrap_nat _ (by omega)
    by_cases c2 : le (bs.drop k) = crc (bs.take k)
    · rw [if_pos (by simpa using c2), if_pos (by simpa using c2)]
      have c2' : (((le (bs.drop k) : Nat) : Int) != ((crc (bs.take k) : Nat) : Int)) = false := by rw [c2]; simp
      clear c2
      go_enter Try.func64, Try.ntmps64
      go_wp2_with fail
      go_quiet (first | (go_at_call 68; exact Calls.quiet_of_same (readLow_q s2 l2 _)) | (go_at_call 63; exact Calls.quiet_of_same (crc_q s3 _)))
      go_wp2_with fail
      refine (clone_any (s3.drewN nq) l3).mono ?_
      rintro e w1 ⟨v1, rfl, h1, b1⟩
      obtain ⟨ao1, m1, cap1, hv1, hm1⟩ := h1.form'
      subst hv1
      go_wp2
      go_ret2
      exact ⟨_, rfl, h1, (below_drewN _ w nq).trans b1⟩
    · rw [if_neg (by simpa using c2), if_neg (by simpa using c2)]
      have c2' : (((le (bs.drop k) : Nat) : Int) != ((crc (bs.take k) : Nat) : Int)) = true := by simp; omega
      clear c2
      go_enter Try.func64, Try.ntmps64
      go_wp2_with fail
      go_quiet (first | (go_at_call 68; exact Calls.quiet_of_same (readLow_q s2 l2 _)) | (go_at_call 63; exact Calls.quiet_of_same (crc_q s3 _)))
      go_wp2
      go_ret2
      exact ⟨_, rfl, OwnB.nil _ _, below_drewN _ w nq⟩
end Go.Proofs.Ytmkomhdlcbimoaa
