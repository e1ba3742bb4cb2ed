/- A step of the statements' script: Write. No statement of the seat is proved here. -/
import Derived.Test.YtfdabkcbefhdaaaRStepR
namespace Go.Proofs.Ytfdabkcbefhdaaa
set_option maxRecDepth 20000
open Go.RowKit

/-- bytes of one's own -/
def KU : Obj → Bool
  | .cells _ t _ => t == 5
  | _ => false
theorem FK_KU : ∀ o, FK o = true → KU o = false := by
  intro o h
  cases o with
  | cells cs t fz =>
    simp only [FK, Bool.or_eq_true, beq_iff_eq] at h
    rcases h with rfl | rfl <;> rfl
  | _ => rfl
theorem RK_KU : ∀ o, RK o = true → KU o = false := by
  intro o h
  cases o with
  | cells cs t fz =>
    simp only [RK, Bool.or_eq_true, beq_iff_eq] at h
    rcases h with ((rfl | rfl) | rfl) | rfl <;> rfl
  | _ => rfl
theorem write_same (d : Dev) (i : Int) (bs : List UInt8) : (d.write i bs).2.size = d.size ∧ (d.write i bs).2.waits.length ≤ d.waits.length + 1 := by
  unfold Dev.write
  split
  · exact ⟨rfl, Nat.le_succ _⟩
  · split
    · exact ⟨(spend_waits d).2.1, by rw [(spend_waits d).1]; exact Nat.le_succ _⟩
    · exact ⟨(spend_waits d).2.1, by simp [(spend_waits d).1]⟩
theorem bytesE_any (w : World) (fill n : Int) (hn : -300 ≤ n ∧ n ≤ 300) (hf : fits fill) :
    Calls Try.prog 16 #[.int .i64 fill, .int .i64 n] w fun e w' => ∃ v bs, e = .returned v ∧ bs.length ≤ 600 ∧ OwnB w.heap.size w' v bs ∧ Below w.heap.size w w' :=
  (bytes_any w fill n hn hf).mono fun _ _ ⟨v, h1, h2, h3⟩ => ⟨v, _, h1, by rw [bytesL_length]; omega, h2, h3⟩
def nOf (x : Int) : Int := if x < -300 ∨ 300 < x then 1 else x
theorem nOf_range (x : Int) : -300 ≤ nOf x ∧ nOf x ≤ 300 := by unfold nOf; split <;> omega
set_option maxRecDepth 20000 in
set_option maxHeartbeats 3200000 in
theorem step2 {B : Nat} {w : World} {db rb : Nat} {d : Dev} {N : Nat} (h : Two B w db rb d N) (hB : B ≤ w.heap.size) (hlen : d.waits.length < 1000) (x1 x2 x3 : Int) (hx : fits x2) (pv : Value) :
    Calls Try.prog 20 #[.pointer (some ⟨db, 0, none⟩), .pointer (some ⟨rb, 0, none⟩), .agg #[.int .i64 2, .int .i64 x1, .int .i64 x2, .int .i64 x3, pv]] w fun e w' => StepTo B w db rb d N e w' := by
  have hb0 := box_below w (.cells #[.int .i64 2, .int .i64 x1, .int .i64 x2, .int .i64 x3, pv] 42 (0, 0))
  have h0 := h.below hb0
  have hnew := heap_alloc_new w (.cells #[.int .i64 2, .int .i64 x1, .int .i64 x2, .int .i64 x3, pv] 42 (0, 0))
  obtain ⟨wa, hwa⟩ : ∃ wa, w.alloc (.cells #[.int .i64 2, .int .i64 x1, .int .i64 x2, .int .i64 x3, pv] 42 (0, 0)) = wa := ⟨_, rfl⟩
  have hsa : w.heap.size < wa.heap.size := by rw [← hwa]; simp
  rw [hwa] at hb0 h0 hnew
  have hba := hb0.mono hB
  have hsB := Nat.le_trans hB hb0.size
  have HWA := Lib.hid hwa
  have hnr := nOf_range x3
  clear hwa h
  go_enter Try.func20, Try.ntmps20
  go_wp2_with fail
  all_goals
    rw [HWA.out]
    refine (bytesE_any wa x2 _ (by omega) hx).mono ?_
    rintro e w1 ⟨v, bs, rfl, hbl, o1, b1⟩
    obtain ⟨ao, cap, rfl⟩ := ownsRow_slice o1
    have h1 := h0.below b1
    have c1 := cell_row ((b1.block _ hsa).trans hnew) 1 rfl
    have hs1 : B ≤ w1.heap.size := Nat.le_trans hsB b1.size
    go_wp2_with fail
    refine (write_any h1.a x1 (o1.bytes (by unfold maxLen; omega)) (by omega) hs1).mono ?_
    rintro e w2 ⟨rfl, a2, f2⟩
    have b2 := h1.b.fr f2 FK_RK
    have o2 : OwnB wa.heap.size w2 _ bs := row_keep o1 f2 (fun _ => rfl)
    have c2 := cell_row (f2.row ((b1.block _ hsa).trans hnew) rfl) 1 rfl
    have hs2 : B ≤ w2.heap.size := Nat.le_trans hs1 f2.size
    have rs := run_string o2
    have RS := Lib.hid rs
    have hrw := rwrite_any b2 x1 bs (by have := (write_same d x1 bs).2; omega) hs2
    have wsm := write_same d x1 bs
    obtain ⟨d', hd'⟩ : ∃ d', (d.write x1 bs).2 = d' := ⟨_, rfl⟩
    obtain ⟨r, hr⟩ : ∃ r, (d.write x1 bs).1 = r := ⟨_, rfl⟩
    rw [hd'] at a2 hrw wsm
    rw [hr] at hrw
    rw [hr]
    have hb2 := (b1.mono hsB).trans (f2.below hs1)
    obtain ⟨m, hm⟩ : ∃ m, bs.length = m := ⟨_, rfl⟩
    have HM := Lib.hid hm
    have o2' := o2
    unfold OwnB at o2'
    rw [hm] at o2' hbl RS
    rw [hm]
    clear hd' hr rs hm o2 o1 b1 h1 c1 b2 hnew
    go_wp2_with (simp only [RS.out])
    refine hrw.mono ?_
    rintro e w3 ⟨rfl, b3, f3⟩
    have a3 := a2.fr f3 RK_FK
    have hrow : w3.ownsRow wa.heap.size 5 1 (.slice ao m cap) m (List.replicate 0 (.int .u8 85) ++ (cellsB bs).drop 0) := by simpa using row_keep o2' f3 (fun _ => rfl)
    have hb3 : Below B w w3 := hba.trans (hb2.trans (f3.below hs2))
    have hs3 : B ≤ w3.heap.size := Nat.le_trans hs2 f3.size
    clear hrw c2 RS a2 o2' f2 f3 hb2
    go_wp2
    go_loopw [16] (fun iv wr => ∃ k : Nat, k ≤ m ∧ iv = .int .i64 k ∧ wr.ownsRow wa.heap.size 5 1 (.slice ao m cap) m (List.replicate k (.int .u8 85) ++ (cellsB bs).drop k) ∧ Fr KU B w3 wr) (fun iv _ => m - (intOf iv).toNat)
    case atStart => exact ⟨0, Nat.zero_le _, rfl, hrow, Fr.refl _ _ _⟩
    case round =>
      obtain ⟨k, hk, rfl, hok, hbk⟩ := hrel
      by_cases hlt : k < m
      · have hlk : k < bs.length := by have := HM.out; omega
        obtain ⟨g, cur, u, e1, hg, hgc, hu, hf, ho⟩ := row_set hok hlt (.int .u8 85)
        subst e1
        rw [over_set _ _ _ (by rw [cellsB_length]; omega)] at ho
        have FIN := Lib.hid (And.intro ho (hbk.setCell (p := ⟨g, k, none⟩) hgc (Nat.le_trans hsB hg) rfl (.int .u8 85)))
        clear ho hok hbk hgc hrow
        go_wp2
        go_roundw
        case rel => exact ⟨k + 1, by omega, by go_num, FIN.out.1, FIN.out.2⟩
        case measure => simp [intOf]; omega
      · obtain rfl : k = m := by omega
        have FIN : Hid (StepTo B w db rb d N (.returned (.bool true)) wr) := Lib.hid ⟨rfl, _, _, ⟨a3.fr hbk FK_KU, b3.fr hbk RK_KU⟩, hb3.trans (hbk.below hs3), wsm.1, wsm.2, Nat.le_add_right _ _⟩
        clear hok hbk hrow a3 b3 hb3
        go_wp2
        go_ret
        exact FIN.out
end Go.Proofs.Ytfdabkcbefhdaaa
