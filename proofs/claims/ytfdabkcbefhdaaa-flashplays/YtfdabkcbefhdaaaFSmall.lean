/- The contracts of the flash device's small methods. No statement of the seat is proved here. -/
import Derived.Test.YtfdabkcbefhdaaaFDev
namespace Go.Proofs.Ytfdabkcbefhdaaa
set_option maxRecDepth 20000
open Go.RowKit

theorem DevAt.cells {B : Nat} {w : World} {db : Nat} {d : Dev} {N : Nat} (h : DevAt B w db d N) : ∃ mv sv, w.cell? ⟨db, 0, none⟩ = some (.int .i64 d.size) ∧ w.cell? ⟨db, 1, none⟩ = some mv ∧ w.cell? ⟨db, 2, none⟩ = some sv ∧
    w.cell? ⟨db, 3, none⟩ = some (.bool d.off) ∧ w.cell? ⟨db, 4, none⟩ = some (.bool d.armed) ∧ w.cell? ⟨db, 5, none⟩ = some (.int .i64 d.left) ∧ (∀ i, w.frozen? ⟨db, i, none⟩ = false) ∧
    LastIs B w mv d.last N ∧ w.ownsRow B 65 257 sv d.waits.length (d.waits.flatMap wrCells) := by
  obtain ⟨ok, ge, mv, sv, h1, h2, h3⟩ := h
  exact ⟨mv, sv, cell_row h1 0 rfl, cell_row h1 1 rfl, cell_row h1 2 rfl, cell_row h1 3 rfl, cell_row h1 4 rfl, cell_row h1 5 rfl, free_row h1, h2, h3⟩

set_option maxHeartbeats 400000 in
theorem has_any {B : Nat} {w : World} {db : Nat} {d : Dev} {N : Nat} (h : DevAt B w db d N) (i : Int) :
    Calls Try.prog 25 #[.pointer (some ⟨db, 0, none⟩), .int .i64 i] w fun e w' => e = .returned (.bool (d.has i)) ∧ w = w' := by
  obtain ⟨mv, sv, c0, -, -, -, -, -, -, -, -⟩ := h.cells
  unfold Dev.has
  by_cases h1 : 0 ≤ i
  · by_cases h2 : i < d.size
    · go_enter Try.func25, Try.ntmps25
      go_wp2
      go_ret
      exact ⟨by simp; omega, rfl⟩
    · go_enter Try.func25, Try.ntmps25
      go_wp2
      go_ret
      exact ⟨by simp; omega, rfl⟩
  · go_enter Try.func25, Try.ntmps25
    go_wp2
    go_ret
    exact ⟨by simp; omega, rfl⟩

set_option maxHeartbeats 400000 in
theorem size_any {B : Nat} {w : World} {db : Nat} {d : Dev} {N : Nat} (h : DevAt B w db d N) :
    Calls Try.prog 18 #[.pointer (some ⟨db, 0, none⟩)] w fun e w' => e = .returned (.int .i64 d.size) ∧ w = w' := by
  obtain ⟨mv, sv, c0, -, -, -, -, -, -, -, -⟩ := h.cells
  go_enter Try.func18, Try.ntmps18
  go_wp2
  go_ret
  exact ⟨rfl, rfl⟩

theorem ownsRow_slice {w : World} {base : Nat} {e : TypeId} {size : Nat} {v : Value} {n : Nat} {xs : List Value} (h : w.ownsRow base e size v n xs) : ∃ a cap, v = .slice a n cap := by
  rcases h.2 with ⟨h1, h2⟩ | ⟨g, cap, cur, hv, _⟩
  · exact ⟨none, 0, by rw [h1, h2]⟩
  · exact ⟨_, cap, hv⟩

set_option maxHeartbeats 400000 in
theorem pending_any {B : Nat} {w : World} {db : Nat} {d : Dev} {N : Nat} (h : DevAt B w db d N) :
    Calls Try.prog 19 #[.pointer (some ⟨db, 0, none⟩)] w fun e w' => e = .returned (.int .i64 d.waits.length) ∧ w = w' := by
  obtain ⟨mv, sv, -, -, c2, -, -, -, -, -, ho⟩ := h.cells
  obtain ⟨a, cap, rfl⟩ := ownsRow_slice ho
  clear ho
  go_enter Try.func19, Try.ntmps19
  go_wp2
  go_ret
  exact ⟨rfl, rfl⟩

set_option maxHeartbeats 400000 in
theorem size_nil (w : World) : Calls Try.prog 18 #[.pointer none] w fun e w' => e = .returned (.int .i64 0) ∧ w = w' := by
  go_enter Try.func18, Try.ntmps18
  go_wp2
  go_ret
  exact ⟨rfl, rfl⟩
set_option maxHeartbeats 400000 in
theorem pending_nil (w : World) : Calls Try.prog 19 #[.pointer none] w fun e w' => e = .returned (.int .i64 0) ∧ w = w' := by
  go_enter Try.func19, Try.ntmps19
  go_wp2
  go_ret
  exact ⟨rfl, rfl⟩
set_option maxHeartbeats 400000 in
theorem flush_nil (w : World) : Calls Try.prog 17 #[.pointer none] w fun e w' => e = .returned (.int .i64 1) ∧ w = w' := by
  go_enter Try.func17, Try.ntmps17
  go_wp2
  go_ret
  exact ⟨rfl, rfl⟩
set_option maxHeartbeats 400000 in
theorem crash_nil (w : World) (s : Value) : Calls Try.prog 14 #[.pointer none, s] w fun e w' => e = .returned (.tuple #[]) ∧ w = w' := by
  go_enter Try.func14, Try.ntmps14
  go_wp2
  go_returns
  exact ⟨rfl, rfl⟩

/-! ### spend -/
theorem spend_end {B : Nat} {w : World} {db : Nat} {d d' : Dev} {b b' : Bool} {N : Nat} (hs : d.spend = (b', d')) (hb : b = b') {w' : World} (h : DevAt B w' db d' N ∧ Fr FK B w w') : Ending.returned (.bool b) = .returned (.bool d.spend.1) ∧ DevAt B w' db d.spend.2 N ∧ Fr FK B w w' := by
  rw [hs, hb]; exact ⟨rfl, h⟩

set_option maxHeartbeats 400000 in
theorem spend_any {B : Nat} {w : World} {db : Nat} {d : Dev} {N : Nat} (h : DevAt B w db d N) :
    Calls Try.prog 29 #[.pointer (some ⟨db, 0, none⟩)] w fun e w' => e = .returned (.bool d.spend.1) ∧ DevAt B w' db d.spend.2 N ∧ Fr FK B w w' := by
  obtain ⟨mv, sv, -, -, -, c3, c4, c5, fz, -, -⟩ := h.cells
  have f3 := fz 3
  have f5 := fz 5
  clear fz
  have hle := h.ok.left
  by_cases h1 : d.off = true
  · rw [h1] at c3
    go_enter Try.func29, Try.ntmps29
    go_wp2
    go_ret
    exact spend_end (by simp [Dev.spend, h1]; done) rfl ⟨h, Fr.refl _ _ _⟩
  · have h1' : d.off = false := by simpa using h1
    rw [h1'] at c3
    by_cases h2 : d.armed = true
    · rw [h2] at c4
      by_cases h3 : d.left = 0
      · rw [h3] at c5
        have st := h.store (d' := { d with off := true }) 3 (.bool true) ⟨h.ok.1, h.ok.2, h.ok.3, h.ok.4, h.ok.5⟩ (fun _ _ => by simp) rfl rfl
        have ST := Lib.hid st
        clear st
        have HH := Lib.hid h
        clear h
        have H3 := Lib.hid h3
        clear h3
        go_enter Try.func29, Try.ntmps29
        go_wp2
        go_ret
        exact spend_end (by simp [Dev.spend, h1', h2, H3.out]; done) rfl ST.out
      · have st := h.store (d' := { d with left := d.left - 1 }) 5 (.int .i64 ((d.left : Int) - 1)) ⟨h.ok.1, by have := h.ok.2; simp; omega, h.ok.3, h.ok.4, h.ok.5⟩ (fun _ _ => by simp; omega) rfl rfl
        have ST := Lib.hid st
        clear st
        have HH := Lib.hid h
        clear h
        have h4 : ((d.left : Int) == 0) = false := beq_eq_false_iff_ne.2 (by omega)
        go_enter Try.func29, Try.ntmps29
        go_wp2
        go_ret
        exact spend_end (by simp [Dev.spend, h1', h2, h3]; done) rfl ST.out
    · have h2' : d.armed = false := by simpa using h2
      rw [h2'] at c4
      go_enter Try.func29, Try.ntmps29
      go_wp2
      go_ret
      exact spend_end (by simp [Dev.spend, h1', h2']; done) rfl ⟨h, Fr.refl _ _ _⟩
end Go.Proofs.Ytfdabkcbefhdaaa
