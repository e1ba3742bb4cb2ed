/- The contracts of pack.first and pack.Decode. No statement of the seat is proved here. -/
import Derived.Test.YtmkomhdlcbimoaaPArgs
namespace Go.Proofs.Ytmkomhdlcbimoaa
set_option maxRecDepth 20000
open Go.RowKit

/-- the item with which bytes begin, and how many are its own -/
def firstI (bs : List UInt8) : It × Nat :=
  if byteAt bs 0 = 1 ∧ 9 ≤ bs.length then (⟨1, wrap64 (le ((bs.drop 1).take 8)), ByteArray.empty⟩, 9)
  else if byteAt bs 0 = 2 ∧ 3 ≤ bs.length ∧ le ((bs.drop 1).take 2) ≤ 50000 ∧ le ((bs.drop 1).take 2) + 3 ≤ bs.length then (⟨2, 0, strOf ((bs.drop 3).take (le ((bs.drop 1).take 2)))⟩, 3 + le ((bs.drop 1).take 2))
  else (.none, 0)
def itemV (x : It) : Value := .agg #[.int .i64 x.k, .int .i64 x.n, .string x.s]
def FirstRet (x : It) (n : Nat) (w : World) (e : Ending) (w' : World) : Prop := e = .returned (.tuple #[.agg #[.int .i64 x.k, .int .i64 x.n, .string x.s], .int .i64 n]) ∧ Below w.heap.size w w'
theorem build_it0 (w : World) : (Instr.build 77 #[]).run Try.prog w = .ok (.agg #[.int .i64 0, .int .i64 0, .string ByteArray.empty]) w := run_build w 77 _ _ (by kernel_rfl)
theorem build_it1 (z : Int) (w : World) : (Instr.build 77 #[(0, .int .i64 1), (1, .int .i64 z)]).run Try.prog w = .ok (.agg #[.int .i64 1, .int .i64 z, .string ByteArray.empty]) w := run_build w 77 _ _ (by kernel_rfl)
theorem build_it2 (s : ByteArray) (w : World) : (Instr.build 77 #[(0, .int .i64 2), (2, .string s)]).run Try.prog w = .ok (.agg #[.int .i64 2, .int .i64 0, .string s]) w := run_build w 77 _ _ (by kernel_rfl)
theorem first_one {bs : List UInt8} (h1 : byteAt bs 0 = 1) (h2 : 9 ≤ bs.length) : firstI bs = (⟨1, wrap64 (le ((bs.drop 1).take 8)), ByteArray.empty⟩, 9) := by unfold firstI; rw [if_pos ⟨h1, h2⟩]
theorem first_two {bs : List UInt8} (h1 : byteAt bs 0 = 2) (h2 : 3 ≤ bs.length) (h3 : le ((bs.drop 1).take 2) ≤ 50000) (h4 : le ((bs.drop 1).take 2) + 3 ≤ bs.length) : firstI bs = (⟨2, 0, strOf ((bs.drop 3).take (le ((bs.drop 1).take 2)))⟩, 3 + le ((bs.drop 1).take 2)) := by
  unfold firstI; rw [if_neg (by omega), if_pos ⟨h1, h2, h3, h4⟩]
theorem first_no {bs : List UInt8} (h1 : ¬ (byteAt bs 0 = 1 ∧ 9 ≤ bs.length)) (h2 : ¬ (byteAt bs 0 = 2 ∧ 3 ≤ bs.length ∧ le ((bs.drop 1).take 2) ≤ 50000 ∧ le ((bs.drop 1).take 2) + 3 ≤ bs.length)) : firstI bs = (.none, 0) := by
  unfold firstI; rw [if_neg h1, if_neg h2]
set_option maxHeartbeats 1600000 in
theorem first_any {w : World} {v : Value} {bs : List UInt8} (h : ByC w v bs) (hcap : capOk v) (h0 : 0 < bs.length) (x : It) (n : Nat) (hx : firstI bs = (x, n)) : Calls Try.prog 71 #[v] w (FirstRet x n w) := by
  have hb0 := build_it0
  have hb1 := build_it1
  have hb2 := build_it2
  have HX := Lib.hid hx
  clear hx
  obtain ⟨ao, m, cap, hv, hm⟩ : ∃ ao m cap, v = .slice ao m cap ∧ Hid (m = bs.length) := by
    obtain ⟨ao, cap, hv, _⟩ := h
    exact ⟨ao, _, cap, hv, Lib.hid rfl⟩
  have hmb : m ≤ 9223372036854775807 := by rw [hm.out]; obtain ⟨_, _, _, hh⟩ := h.form; exact hh
  subst hv
  have hmc : m ≤ cap := hcap
  have hm0 : 0 < m := by rw [hm.out]; exact h0
  have hA := h.below (below_new w (.cells #[.int .i64 0, .int .i64 0, .string ⟨#[]⟩] 77))
  obtain ⟨b, off, hao, hcell⟩ := hA.get h0
  subst hao
  rw [Nat.add_zero] at hcell
  have hbl := byteAt_le bs 0
  generalize hc0 : byteAt bs 0 = c0 at hcell hbl
  have HC0 := Lib.hid hc0
  have bel := below_new w (.cells #[.int .i64 0, .int .i64 0, .string ⟨#[]⟩] 77)
  clear hc0 h
  by_cases q1 : c0 = 1
  · subst q1
    by_cases q2 : 9 ≤ m
    · have hf := HX.out.symm.trans (first_one HC0.out (by rw [← hm.out]; exact q2))
      obtain ⟨rfl, rfl⟩ := Prod.mk.inj hf
      clear hf HX
      obtain ⟨bo, c, s2, hc2, r2⟩ := part_run hA hmc 1 9 (by omega) q2 1 9 rfl rfl
      have hrl := readLow_any s2 (by rw [List.length_take]; omega)
      generalize le ((bs.drop 1).take (9 - 1)) = L at hrl
      generalize hL : le ((bs.drop 1).take 8) = L2
      generalize hN : 9 - 1 = N at hrl r2
      clear s2 hA hL
      go_enter Try.func71, Try.ntmps71
      go_wp2_with fail
      refine hrl.mono ?_
      rintro e _ ⟨rfl, rfl⟩
      clear hrl
      go_wp2
      exact bodyPost_ret (v := .tuple #[.agg #[.int .i64 1, .int .i64 (wrap64 (L : Int)), .string ⟨#[]⟩], .int .i64 9]) (by simp [results, Try.results71, go_sem]) rfl ⟨rfl, below_new w _⟩
    · have hf := HX.out.symm.trans (first_no (fun e => q2 (by rw [hm.out]; exact e.2)) (fun e => by have := e.1; rw [HC0.out] at this; omega))
      obtain ⟨rfl, rfl⟩ := Prod.mk.inj hf
      clear hf HX hA
      go_enter Try.func71, Try.ntmps71
      go_wp2
      exact bodyPost_ret (v := .tuple #[.agg #[.int .i64 0, .int .i64 0, .string ⟨#[]⟩], .int .i64 0]) (by simp [results, Try.results71, go_sem]) rfl ⟨rfl, below_new w _⟩
  · have q1' : ((c0 : Int) == 1) = false := by simp; omega
    by_cases q2 : c0 = 2
    · subst q2
      by_cases q3 : 3 ≤ m
      · obtain ⟨bo, c, s2, hc2, r2⟩ := part_run hA hmc 1 3 (by omega) q3 1 3 rfl rfl
        have hrl := readLow_any s2 (by rw [List.length_take]; omega)
        have hLt := le_take_lt (bs.drop 1) 2 (by rw [List.length_drop, ← hm.out]; omega)
        have hLt' : le ((bs.drop 1).take 2) < 65536 := hLt
        rw [show (3 : Nat) - 1 = 2 from rfl] at hrl r2
        generalize hL : le ((bs.drop 1).take 2) = L at hrl hLt'
        have HL := Lib.hid hL
        clear hL hLt s2
        by_cases q4 : L ≤ 50000
        · by_cases q5 : L + 3 ≤ m
          · have hf := HX.out.symm.trans (first_two HC0.out (by rw [← hm.out]; exact q3) (by rw [HL.out]; exact q4) (by rw [HL.out, ← hm.out]; exact q5))
            rw [HL.out] at hf
            obtain ⟨rfl, rfl⟩ := Prod.mk.inj hf
            obtain ⟨bo3, c3, s3, hc3, r3⟩ := part_run hA hmc 3 (3 + L) (by omega) (by omega) 3 (3 + (L : Int)) rfl (by omega)
            rw [show 3 + L - 3 = L by omega] at s3 r3
            have hst := run_string_c s3
            generalize strOf ((bs.drop 3).take L) = str at hst
            clear hf HX hA s3 hc3
            go_enter Try.func71, Try.ntmps71
            go_wp2_with fail
            refine hrl.mono ?_
            rintro e _ ⟨rfl, rfl⟩
            clear hrl
            go_wp2
            exact bodyPost_ret (v := .tuple #[.agg #[.int .i64 2, .int .i64 0, .string str], .int .i64 (3 + (L : Int))]) (by simp [results, Try.results71, go_sem]) rfl ⟨rfl, below_new w _⟩
          · have hf := HX.out.symm.trans (first_no (fun e => by have := e.1; rw [HC0.out] at this; omega) (fun e => by have := e.2.2.2; rw [HL.out, ← hm.out] at this; omega))
            obtain ⟨rfl, rfl⟩ := Prod.mk.inj hf
            clear hf HX hA
            go_enter Try.func71, Try.ntmps71
            go_wp2_with fail
            refine hrl.mono ?_
            rintro e _ ⟨rfl, rfl⟩
            clear hrl
            go_wp2
            exact bodyPost_ret (v := .tuple #[.agg #[.int .i64 0, .int .i64 0, .string ⟨#[]⟩], .int .i64 0]) (by simp [results, Try.results71, go_sem]) rfl ⟨rfl, below_new w _⟩
        · have hf := HX.out.symm.trans (first_no (fun e => by have := e.1; rw [HC0.out] at this; omega) (fun e => by have := e.2.2.1; rw [HL.out] at this; omega))
          obtain ⟨rfl, rfl⟩ := Prod.mk.inj hf
          clear hf HX hA
          go_enter Try.func71, Try.ntmps71
          go_wp2_with fail
          refine hrl.mono ?_
          rintro e _ ⟨rfl, rfl⟩
          clear hrl
          go_wp2
          exact bodyPost_ret (v := .tuple #[.agg #[.int .i64 0, .int .i64 0, .string ⟨#[]⟩], .int .i64 0]) (by simp [results, Try.results71, go_sem]) rfl ⟨rfl, below_new w _⟩
      · have hf := HX.out.symm.trans (first_no (fun e => by have := e.1; rw [HC0.out] at this; omega) (fun e => by have := e.2.1; rw [← hm.out] at this; omega))
        obtain ⟨rfl, rfl⟩ := Prod.mk.inj hf
        clear hf HX hA
        go_enter Try.func71, Try.ntmps71
        go_wp2
        exact bodyPost_ret (v := .tuple #[.agg #[.int .i64 0, .int .i64 0, .string ⟨#[]⟩], .int .i64 0]) (by simp [results, Try.results71, go_sem]) rfl ⟨rfl, below_new w _⟩
    · have q2' : ((c0 : Int) == 2) = false := by simp; omega
      have hf := HX.out.symm.trans (first_no (fun e => by have := e.1; rw [HC0.out] at this; omega) (fun e => by have := e.1; rw [HC0.out] at this; omega))
      obtain ⟨rfl, rfl⟩ := Prod.mk.inj hf
      clear hf HX hA
      go_enter Try.func71, Try.ntmps71
      go_wp2
      exact bodyPost_ret (v := .tuple #[.agg #[.int .i64 0, .int .i64 0, .string ⟨#[]⟩], .int .i64 0]) (by simp [results, Try.results71, go_sem]) rfl ⟨rfl, below_new w _⟩
end Go.Proofs.Ytmkomhdlcbimoaa
