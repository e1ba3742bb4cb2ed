/- The contracts of the document's New and Erase. No statement of the seat is proved here. -/
import Derived.Test.YtfdabkcbefhdaaaRNew
namespace Go.Proofs.Ytfdabkcbefhdaaa
set_option maxRecDepth 20000
open Go.RowKit

set_option maxHeartbeats 1600000 in
theorem rnew_any (B : Nat) (w : World) (n : Nat) (h1 : 1 ≤ n) (h2 : n ≤ 4096) (hB : B ≤ w.heap.size) :
    Calls Try.prog 12 #[.int .i64 n] w fun e w' => ∃ rb, e = .returned (.tuple #[.pointer (some ⟨rb, 0, none⟩), .int .i64 0]) ∧ RDevAt B w' rb (Dev.fresh n) ∧ Fr RK B w w' := by
  have e1 : ¬ ((n : Int) < 1) := by omega
  have e2 : ¬ ((4096 : Int) < (n : Int)) := by omega
  have bz : (Instr.build 47 #[]).run Try.prog w = .ok (.agg #[.slice none 0 0, .slice none 0 0, .slice none 0 0, .bool false, .int .i64 0]) w := run_build w 47 _ _ (by kernel_rfl)
  have hg := heap_alloc_new w (.cells #[.slice none 0 0, .slice none 0 0, .slice none 0 0, .bool false, .int .i64 0] 47)
  have cl := rclear_any (B := B) hg hB (by simp; omega) h1 h2
  have HF := Lib.hid ((Fr.refl RK B w).alloc (.cells #[.slice none 0 0, .slice none 0 0, .slice none 0 0, .bool false, .int .i64 0] 47))
  clear hg
  go_enter Try.func12, Try.ntmps12
  go_wp2_with fail
  refine cl.mono ?_
  rintro e w' ⟨rfl, r, f⟩
  have FIN := Lib.hid (And.intro r (HF.out.trans f))
  clear cl r f bz
  go_wp2
  go_ret2
  exact ⟨_, rfl, FIN.out⟩
set_option maxHeartbeats 800000 in
theorem rnew_no (w : World) (n : Int) (h : n < 1 ∨ 4096 < n) : Calls Try.prog 12 #[.int .i64 n] w fun e w' => e = .returned (.tuple #[.pointer none, .int .i64 1]) ∧ w = w' := by
  by_cases h1 : n < 1
  · clear h
    go_enter Try.func12, Try.ntmps12
    go_wp2
    go_ret2
    exact ⟨rfl, rfl⟩
  · have h2 : 4096 < n := by omega
    clear h
    go_enter Try.func12, Try.ntmps12
    go_wp2
    go_ret2
    exact ⟨rfl, rfl⟩
set_option maxHeartbeats 800000 in
theorem rerase_any {B : Nat} {w : World} {rb : Nat} {d : Dev} (h : RDevAt B w rb d) (h1 : 1 ≤ d.size) (hB : B ≤ w.heap.size) :
    Calls Try.prog 35 #[.pointer (some ⟨rb, 0, none⟩)] w fun e w' => e = .returned (.tuple #[]) ∧ RDevAt B w' rb (Dev.fresh d.size) ∧ Fr RK B w w' := by
  obtain ⟨la, lc, ta, tc, wa, wc, L, T, c0, -⟩ := h.all
  obtain ⟨ok, ge, lv, tv, wv, L2, T2, hd, -⟩ := h
  have cl := rclear_any (B := B) hd ge hB h1 ok.1
  obtain ⟨S, hS⟩ : ∃ S, d.size = S := ⟨_, rfl⟩
  rw [hS] at cl c0 ⊢
  clear hd hS
  go_enter Try.func35, Try.ntmps35
  go_wp2_with fail
  refine cl.mono ?_
  rintro e w' ⟨rfl, r, f⟩
  have FIN := Lib.hid (And.intro r f)
  clear cl r f
  go_wp2
  go_returns
  exact ⟨rfl, FIN.out⟩
end Go.Proofs.Ytfdabkcbefhdaaa
