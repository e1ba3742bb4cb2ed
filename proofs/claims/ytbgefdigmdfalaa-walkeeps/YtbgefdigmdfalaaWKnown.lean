/- The contract of layer 8's known. No statement of the seat is proved here. -/
import Derived.Test.YtbgefdigmdfalaaWGrow
import Derived.Test.YtbgefdigmdfalaaWSame
namespace Go.Proofs.Ytbgefdigmdfalaa
set_option maxRecDepth 20000
open Go.RowKit

def kIm : Im := ⟨7, ⟨#[120]⟩⟩
theorem kIm_ok : ∀ x ∈ [kIm], x.ok := by
  intro x hx; rw [List.mem_singleton.1 hx]; exact ⟨⟨by decide, by decide⟩, by decide⟩
theorem kIms_ok : imsOk [kIm] = true := by decide
def kl1 : Wl := wl0 2 4 0 1
theorem k_open1 : openB (Dev.fresh 8) ((2 : Nat) : Int) ((4 : Nat) : Int) ((0 : Nat) : Int) ((1 : Nat) : Int) = true := by decide
theorem k_start : Grown (Dev.fresh 8) kl1 [] := Grown.start (by decide) k_open1
def kd2 : Dev := appDev (Dev.fresh 8) kl1 [kIm]
def kl2 : Wl := { kl1 with next := 2 }
theorem k_app : appE (Dev.fresh 8) kl1 [kIm] = 0 ∧ Grown kd2 kl2 [(1, [kIm])] ∧ kd2.waits.length = 2 ∧ appL (Dev.fresh 8) kl1 [kIm] = kl2 := by
  obtain ⟨h1, h2, h3, h4, h5, h6⟩ := k_start.app kIms_ok kIm_ok (by decide)
  rw [h6] at h2
  exact ⟨h1, h2, h3, h6⟩
theorem k_flush : kd2.flush = (0, kd2.flushed) ∧ Grown kd2.flushed kl2 [(1, [kIm])] := k_app.2.1.flush
theorem k_crash : Grown (kd2.flushed.crash []) kl2 [(1, [kIm])] := k_flush.2.crash0 rfl _
theorem k_open2 : openB (kd2.flushed.crash []) ((2 : Nat) : Int) ((4 : Nat) : Int) ((0 : Nat) : Int) ((2 : Nat) : Int) = true ∧ ((kd2.flushed.crash []).read ((2 : Nat) : Int)).2 ≠ 4 ∧ scanR (kd2.flushed.crash []) 4 (wl0 2 4 0 2) 0 = ([[kIm]], 2) :=
  Grown.opens (A := []) (B := [(1, [kIm])]) k_crash (by decide) 2 (by decide) (by decide)
structure KFacts (d1 d2 d3 d4 : Dev) : Prop where
  w1 : d1.waits.length = 0
  o1 : openB d1 ((2 : Nat) : Int) ((4 : Nat) : Int) ((0 : Nat) : Int) ((1 : Nat) : Int) = true
  r1 : (d1.read ((2 : Nat) : Int)).2 ≠ 4
  s1 : scanR d1 4 (wl0 2 4 0 1) 0 = ([], 0)
  a1 : appE d1 kl1 [kIm] = 0
  a2 : appDev d1 kl1 [kIm] = d2
  a3 : appL d1 kl1 [kIm] = kl2
  w2 : d2.waits.length = 2
  f2 : d2.flush = (0, d3)
  w3 : d3.waits.length = 0
  c3 : d3.crash [] = d4
  w4 : d4.waits.length = 0
  o4 : openB d4 ((2 : Nat) : Int) ((4 : Nat) : Int) ((0 : Nat) : Int) ((2 : Nat) : Int) = true
  r4 : (d4.read ((2 : Nat) : Int)).2 ≠ 4
  s4 : scanR d4 4 (wl0 2 4 0 2) 0 = ([[kIm]], 2)
theorem kfacts : ∃ d2 d3 d4, KFacts (Dev.fresh 8) d2 d3 d4 :=
  ⟨kd2, kd2.flushed, kd2.flushed.crash [], rfl, k_open1, by decide, fresh_scan (by decide) k_open1 4, k_app.1, rfl, k_app.2.2.2, k_app.2.2.1, k_flush.1, by rw [(flushed_same kd2).1]; rfl, rfl, by rw [(crash_same kd2.flushed []).1]; rfl, k_open2.1, k_open2.2.1, k_open2.2.2⟩
set_option maxRecDepth 20000 in
set_option maxHeartbeats 3200000 in
theorem wknown_any (w : World) : Calls Try.prog 8 #[] w fun e w' => e = .returned (.bool true) ∧ Below w.heap.size w w' := by
  have hnew := new_any w.heap.size w 8 (by decide) (by decide) (Nat.le_refl _)
  obtain ⟨dd2, dd3, dd4, K⟩ := kfacts
  generalize Dev.fresh 8 = dd1 at hnew K
  obtain ⟨K1, K2, K3, K4, K5, K6, K7, K8, K9, K10, K11, K12, K13, K14, K15⟩ := K
  go_enter Try.func8, Try.ntmps8
  go_wp2_with fail
  refine Calls.mono hnew ?_
  rintro e w1 ⟨rfl, d1, b1, s1⟩
  have bw := b1
  have sw := b1.size
  clear b1 s1
  have hop := open_yes d1 (by omega) K2 K3
  rw [K4] at hop
  go_wp2_with fail
  refine Calls.mono hop ?_
  rintro e w2 ⟨lb, v, rfl, hlb, tv, l2, d2, b2⟩
  obtain ⟨vo, vm, vc, hvv, hvm⟩ := tv.form'
  subst hvv
  have bw := bw.trans (b2.mono sw)
  have hlB : w.heap.size ≤ lb := Nat.le_trans sw hlb
  have sw := bw.size
  clear b2 hop d1 hlb tv
  have hb := build_im 7 ⟨#[120]⟩
  have hbs : (Instr.buildSlice 44 1 #[(0, .agg #[.int .i64 7, .string ⟨#[120]⟩])]).run Try.prog w2 = .ok (.slice (some ⟨w2.heap.size, 0, none⟩) 1 1) (w2.alloc (.cells #[.int .i64 7, .string ⟨#[120]⟩] 50)) := build_imgs_one w2 kIm
  have bn := below_new w2 (.cells #[.int .i64 7, .string ⟨#[120]⟩] 50)
  have sn : w.heap.size ≤ (w2.alloc (.cells #[.int .i64 7, .string ⟨#[120]⟩] 50)).heap.size := Nat.le_trans sw bn.size
  have hap := append_any (d2.below bn) (l := kl1) (l2.below bn) k_start.ok (by omega) sn hlB (ims := [kIm]) (imgsR_one w2 kIm (kIm_ok _ (by simp))).k
  rw [K5, K6, K7] at hap
  have bw := bw.trans (bn.mono sw)
  clear d2 l2 bn
  go_wp2_with fail
  refine Calls.mono hap ?_
  rintro e w3 ⟨rfl, d3, l3, b3⟩
  have bw := bw.trans b3
  have sw := bw.size
  have hfl := flush_any d3 (by rw [K8]; decide) (by omega)
  rw [K9] at hfl
  clear hap b3 hbs hb
  go_wp2_with fail
  refine Calls.mono hfl ?_
  rintro e w4 ⟨rfl, d4, f4⟩
  have bw := bw.trans (f4.below sw)
  have sw := bw.size
  clear hfl f4 d3 l3
  have hcr := crash_any d4 (by rw [K8, K10]; decide) (by omega) (Ints.nil FK w.heap.size w4)
  rw [K11] at hcr
  go_wp2_with fail
  refine Calls.mono hcr ?_
  rintro e w5 ⟨rfl, d5, f5⟩
  have bw := bw.trans (f5.below sw)
  have sw := bw.size
  have hop2 := open_yes d5 (by omega) K13 K14
  rw [K15] at hop2
  clear hcr f5 d4
  go_wp2_with fail
  refine Calls.mono hop2 ?_
  rintro e w6 ⟨lb6, v6, rfl, hlb6, t6, l6, d6, b6⟩
  have bw := bw.trans (b6.mono sw)
  have sw := bw.size
  have hnx := next_any l6
  have hro := fun w' (h : WlAt w' lb6 w.heap.size _) => room_any (l := { wl0 2 4 0 2 with next := 2 }) h ⟨by decide, by decide, by decide, by decide, by decide, by decide⟩
  clear hop2 d5 b6
  go_wp2_with fail
  refine Calls.mono hnx ?_
  rintro e _ ⟨rfl, rfl⟩
  go_wp2_with fail
  refine Calls.mono (hro _ l6) ?_
  rintro e w7 ⟨rfl, b7⟩
  have bw := bw.trans (b7.mono sw)
  have sw := bw.size
  have t7 := t6.below b7
  have hb := build_im 7 ⟨#[120]⟩
  have hbs : (Instr.buildSlice 44 1 #[(0, .agg #[.int .i64 7, .string ⟨#[120]⟩])]).run Try.prog w7 = .ok (.slice (some ⟨w7.heap.size, 0, none⟩) 1 1) (w7.alloc (.cells #[.int .i64 7, .string ⟨#[120]⟩] 50)) := build_imgs_one w7 kIm
  have hbl := build_lst_one (w7.alloc (.cells #[.int .i64 7, .string ⟨#[120]⟩] 50)) (some ⟨w7.heap.size, 0, none⟩) 1 1
  have bn := below_new w7 (.cells #[.int .i64 7, .string ⟨#[120]⟩] 50)
  have bn2 := below_new (w7.alloc (.cells #[.int .i64 7, .string ⟨#[120]⟩] 50)) (.cells #[.slice (some ⟨w7.heap.size, 0, none⟩) 1 1] 44)
  have i7 := (imgsR_one w7 kIm (kIm_ok _ (by simp))).below bn2
  have t8 := (t7.below bn).below bn2
  have bw := (bw.trans (bn.mono sw)).trans (bn2.mono (Nat.le_trans sw bn.size))
  have hn := heap_alloc_new (w7.alloc (.cells #[.int .i64 7, .string ⟨#[120]⟩] 50)) (.cells #[.slice (some ⟨w7.heap.size, 0, none⟩) 1 1] 44)
  have l8 : LstsAt ((w7.alloc (.cells #[.int .i64 7, .string ⟨#[120]⟩] 50)).alloc (.cells #[.slice (some ⟨w7.heap.size, 0, none⟩) 1 1] 44)) (.slice (some ⟨(w7.alloc (.cells #[.int .i64 7, .string ⟨#[120]⟩] 50)).heap.size, 0, none⟩) 1 1) [[kIm]] := by
    refine ⟨_, 1, rfl, by decide, fun i hi => ?_⟩
    obtain rfl : i = 0 := by simpa using hi
    exact ⟨_, 0, _, rfl, cell_row hn 0 rfl, i7.at⟩
  have hsa := sameAll_any t8.lsts l8
  have hz : (w7.alloc (.cells #[.int .i64 7, .string ⟨#[120]⟩] 50)).heap.size = w7.heap.size + 1 := by simp
  rw [hz] at hsa
  clear hz
  obtain ⟨to, tm, tc, htv, htm⟩ := t6.form'
  subst htv
  clear hro hnx t6 t7 l6 d6 b7 bn bn2 i7 t8 hn l8
  go_wp2_with fail
  refine Calls.mono hsa ?_
  rintro e w9 ⟨rfl, b9⟩
  have bw := bw.trans (b9.mono bw.size)
  clear hsa b9
  go_wp2
  go_ret
  exact ⟨rfl, bw⟩
end Go.Proofs.Ytbgefdigmdfalaa
