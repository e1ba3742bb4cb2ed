/- The contracts of list, Used, Leaving. No statement of the seat is proved here. -/
import Derived.Test.YtkmaikmbjebjeaaDoorAKnown
import Derived.Test.YtkmaikmbjebjeaaDoorOwn
namespace Go.Proofs.YtkmaikmbjebjeaaDoor
set_option maxRecDepth 20000
open Go.RowKit

def iV (z : Int) : Value := .int .i64 z
def OwnZ (base : Nat) (w : World) (v : Value) (zs : List Int) : Prop := w.ownsRow base 3 1 v zs.length (zs.map iV)
theorem OwnZ.nil (base : Nat) (w : World) : OwnZ base w (.slice none 0 0) [] := World.ownsRow_nil w base 3 1
theorem OwnZ.below {base : Nat} {w w' : World} {v : Value} {zs : List Int} (h : OwnZ base w v zs) (hb : Below w.heap.size w w') : OwnZ base w' v zs := ownsRow_below h hb
theorem OwnZ.form' {base : Nat} {w : World} {v : Value} {zs : List Int} (h : OwnZ base w v zs) : ∃ ao m cap, v = .slice ao m cap ∧ Hid (m = zs.length) := by
  obtain ⟨ao, cap, hv, _, _⟩ := ownsRow_form h
  exact ⟨ao, _, cap, hv, Lib.hid rfl⟩
theorem infoInt : (Tryd.prog.info? 3).map (fun i => (i.zero, i.size, i.bytes)) = some (some (.int .i64 0), 1, 8) := by kernel_rfl
theorem infoInt' : ∃ i, Tryd.prog.info? 3 = some i ∧ i.zero = some (.int .i64 0) ∧ i.size = 1 ∧ i.bytes = 8 := by
  have h := infoInt
  cases hq : Tryd.prog.info? 3 with
  | none => rw [hq] at h; simp at h
  | some i => rw [hq] at h; simp at h; exact ⟨i, rfl, h.1, h.2.1, h.2.2⟩
theorem build_z (z : Int) (w : World) : (Instr.buildSlice 22 1 #[(0, .int .i64 z)]).run Tryd.prog w = .ok (.slice (some ⟨w.heap.size, 0, none⟩) 1 1) (w.alloc (.cells #[.int .i64 z] 3)) := by kernel_rfl
/-- one number more -/
theorem own_pushZ {base : Nat} {w : World} {v : Value} {zs : List Int} (h : OwnZ base w v zs) (z : Int) (hb : base ≤ w.heap.size) (hlen : zs.length ≤ 100000) : ∃ v' w', (Builtin.append_ #[22, 22] 22 #[v, .slice (some ⟨w.heap.size, 0, none⟩) 1 1]).run Tryd.prog (w.alloc (.cells #[.int .i64 z] 3)) = .ok v' w' ∧ OwnZ base w' v' (zs ++ [z]) ∧ Below base w w' := by
  obtain ⟨i, hi, hi0, hi1, hi2⟩ := infoInt'
  have hb1 := below_new w (.cells #[.int .i64 z] 3)
  have h1 : OwnZ base (w.alloc (.cells #[.int .i64 z] 3)) v zs := h.below hb1
  obtain ⟨v', w', hr, ho, hbel, -, -⟩ := own_push (ty := 22) Tryd.underlying22 hi hi0 hi1 hi2 rfl (by decide) h1 (b := w.heap.size) (ys := [.int .i64 z]) (fz := (0, 0)) (heap_alloc_new w _) rfl (fun u hu => by rw [List.mem_singleton.1 hu]; rfl) (by omega) (by unfold maxLen; omega) (by simp; omega)
  refine ⟨v', w', hr, ?_, (hb1.mono hb).trans hbel⟩
  unfold OwnZ
  rw [List.length_append, List.map_append]
  exact ho
/-! ### lists of sets -/
def listN (f : Nat → Bool) (n : Nat) : List Int := ((List.range n).filter f).map Int.ofNat
theorem listN_succ (f : Nat → Bool) (n : Nat) : listN f (n + 1) = if f n then listN f n ++ [(n : Int)] else listN f n := by
  unfold listN
  rw [List.range_succ, List.filter_append, List.map_append]
  cases hf : f n <;> simp [hf]
theorem listN_skip {f : Nat → Bool} {n m : Nat} (hle : n ≤ m) (h : ∀ j, n ≤ j → j < m → f j = false) : listN f m = listN f n := by
  obtain ⟨d, rfl⟩ := Nat.exists_eq_add_of_le hle
  induction d with
  | zero => rfl
  | succ d ih =>
    rw [← Nat.add_assoc, listN_succ, h (n + d) (by omega) (by omega), if_neg (by simp)]
    exact ih (by omega) (fun j h1 h2 => h j h1 (by omega))
theorem listN_length (f : Nat → Bool) : ∀ n, (listN f n).length = cnt f n
  | 0 => rfl
  | n + 1 => by
    rw [listN_succ, cnt, ← listN_length f n]
    cases f n <;> simp
theorem clear_low {g : Nat → Bool} {b : Nat} (hb : b < 64) (hg : g b = true) (hl : ∀ j, j < b → g j = false) : bitsN g 64 &&& (bitsN g 64 - 1) = bitsN (setB g b false) 64 := by
  have hpos := bitsN_pos (k := 64) hb hg
  obtain ⟨m, hm, hk⟩ := Lib.ctzFrom_spec 64 (bitsN g 64) hpos (bitsN_lt g 64)
  have hc : Lib.ctzFrom 64 (bitsN g 64) = b := by
    have := ctz_bits hb hg hl
    unfold Lib.ctz at this
    rwa [if_neg (by omega)] at this
  rw [hc] at hm
  have hx1 : bitsN g 64 - 1 = 2 ^ b * (2 * m) + (2 ^ b - 1) := by
    rw [hm, Nat.mul_add, Nat.mul_one]
    have := Nat.pow_pos (n := b) (show 0 < 2 by decide)
    omega
  apply Nat.eq_of_testBit_eq
  intro i
  rw [Nat.testBit_and, hx1, Nat.testBit_two_pow_mul_add _ (by have := Nat.pow_pos (n := b) (show 0 < 2 by decide); omega), testBit_bitsN, testBit_bitsN]
  have hti := testBit_bitsN g 64 i
  rcases Nat.lt_trichotomy i b with h | h | h
  · rw [hl i h]
    simp [setB, hl i h]
  · subst h
    simp [setB]
  · rw [if_neg (by omega)]
    have e1 : (2 * m).testBit (i - b) = (bitsN g 64).testBit i := by
      rw [hm, Nat.mul_comm (2 ^ b), Nat.testBit_mul_two_pow]
      obtain ⟨d, rfl⟩ := Nat.exists_eq_add_of_lt h
      rw [show b + d + 1 - b = d + 1 by omega, Nat.testBit_succ, Nat.testBit_succ, show 2 * m / 2 = m by omega, show (2 * m + 1) / 2 = m by omega]
      simp; omega
    rw [e1, hti]
    unfold setB
    rw [if_neg (by omega)]
    cases decide (i < 64) <;> cases g i <;> rfl
def ListPost (w : World) (zs : List Int) (e : Ending) (w' : World) : Prop := ∃ v, e = .returned v ∧ OwnZ w.heap.size w' v zs ∧ Below w.heap.size w w'
theorem SetAt.below {w w' : World} {b off : Nat} {f : Nat → Bool} (h : SetAt w b off f) (hb : Below w.heap.size w w') : SetAt w' b off f := fun i hi => by
  have hc := h i hi
  exact (hb.cell (World.block_lt_of_cell? w _ hc)).trans hc
/-- the rest of a word, from the bit p on -/
def restW (f : Nat → Bool) (k p : Nat) : Nat := bitsN (fun j => f (64 * k + j) && decide (p ≤ j)) 64
theorem restW_zero {f : Nat → Bool} {k p : Nat} (h : restW f k p = 0) (hp : p ≤ 64) : listN f (64 * (k + 1)) = listN f (64 * k + p) := by
  refine listN_skip (by omega) (fun j h1 h2 => ?_)
  cases hf : f j
  · rfl
  · exfalso
    have := bitsN_pos (f := fun j => f (64 * k + j) && decide (p ≤ j)) (k := 64) (j := j - 64 * k) (by omega) (by
      simp only [Bool.and_eq_true, decide_eq_true_eq]
      exact ⟨by rw [show 64 * k + (j - 64 * k) = j by omega]; exact hf, by omega⟩)
    unfold restW at h
    omega
theorem restW_pos {f : Nat → Bool} {k p : Nat} (h : restW f k p ≠ 0) : ∃ b, p ≤ b ∧ b < 64 ∧ Lib.ctz 64 (restW f k p) = b ∧ restW f k p &&& (restW f k p - 1) = restW f k (b + 1) ∧ listN f (64 * k + (b + 1)) = listN f (64 * k + p) ++ [((64 * k + b : Nat) : Int)] := by
  have hex : ∃ j, j < 64 ∧ (f (64 * k + j) && decide (p ≤ j)) = true := by
    apply Classical.byContradiction
    intro hno
    exact h (bitsN_zero (fun j hj => by
      cases hq : (f (64 * k + j) && decide (p ≤ j))
      · rfl
      · exact absurd ⟨j, hj, hq⟩ hno))
  obtain ⟨b, hb, hf, hl⟩ := least_of _ hex
  have hf' := hf
  simp only [Bool.and_eq_true, decide_eq_true_eq] at hf'
  refine ⟨b, hf'.2, hb, ctz_bits hb hf hl, ?_, ?_⟩
  · unfold restW
    rw [clear_low hb hf hl]
    refine bitsN_congr (fun j hj => ?_)
    unfold setB
    by_cases e : j = b
    · rw [if_pos e, e, decide_eq_false (by omega)]; simp
    · rw [if_neg e]
      show (f (64 * k + j) && decide (p ≤ j)) = (f (64 * k + j) && decide (b + 1 ≤ j))
      by_cases hjb : j < b
      · have := hl j hjb
        rw [this, decide_eq_false (show ¬ b + 1 ≤ j by omega)]; simp
      · rw [decide_eq_true (show b + 1 ≤ j by omega), decide_eq_true (show p ≤ j by omega)]
  · rw [← Nat.add_assoc, listN_succ, hf'.1, if_pos rfl]
    rw [listN_skip (n := 64 * k + p) (by omega) (fun j h1 h2 => ?_)]
    have := hl (j - 64 * k) (by omega)
    rw [show 64 * k + (j - 64 * k) = j by omega] at this
    cases hq : f j
    · rfl
    · rw [hq, decide_eq_true (by omega)] at this
      exact absurd this (by simp)
theorem restW_start (f : Nat → Bool) (k : Nat) : restW f k 0 = wordOf f k := bitsN_congr (fun j _ => by simp)
theorem restW_lt (f : Nat → Bool) (k p : Nat) : restW f k p < 18446744073709551616 := bitsN_lt _ 64
set_option maxRecDepth 20000 in
set_option maxHeartbeats 3200000 in
theorem list_any {w : World} {ab off : Nat} {f : Nat → Bool} (h : SetAt w ab off f) (hT : tabG w) : Calls Tryd.prog 36 #[.pointer (some ⟨ab, off, none⟩)] w (ListPost w (listN f 4096)) := by
  have HH := Lib.hid h
  have HT := Lib.hid hT
  clear h hT
  go_enter Tryd.func36, Tryd.ntmps36
  go_wp2
  go_loopw [3, 7] (fun lv iv wr => ∃ k : Nat, k ≤ 64 ∧ iv = .int .i64 k ∧ OwnZ w.heap.size wr lv (listN f (64 * k)) ∧ Below w.heap.size w wr) (fun _ iv _ => 64 - (intOf iv).toNat)
  case atStart => exact ⟨0, Nat.zero_le _, rfl, OwnZ.nil _ _, Below.refl _ _⟩
  case round =>
    obtain ⟨k, hk, rfl, ho, hb⟩ := hrel
    obtain ⟨lo, lm, lc, hlv, hlm⟩ := ho.form'
    subst hlv
    by_cases hlt : k < 64
    · have c1 := (HH.out.below hb) k hlt
      rw [← restW_start] at c1
      go_wp2_with fail
      go_quiet (fail)
      have ho2 : OwnZ w.heap.size (wr.drewN nq) (.slice lo lm lc) (listN f (64 * k + 0)) := ho
      have hb2 : Below w.heap.size w (wr.drewN nq) := hb.trans ⟨rfl, rfl, rfl, Nat.le_refl _, fun _ _ => rfl⟩
      clear ho hb c1
      generalize wr.drewN nq = wq at ho2 hb2 ⊢
      have hkt : decide ((k : Int) < 64) = true := decide_eq_true (by omega)
      simp only [hkt]
      go_wp2
      go_loopw [3, 5] (fun lv xv wr => ∃ p : Nat, p ≤ 64 ∧ xv = .int .u64 (restW f k p : Nat) ∧ OwnZ w.heap.size wr lv (listN f (64 * k + p)) ∧ Below w.heap.size w wr) (fun _ xv _ => (intOf xv).toNat)
      case atStart => exact ⟨0, Nat.zero_le _, rfl, ho2, hb2⟩
      case round =>
        clear ho2 hb2
        obtain ⟨p, hp, rfl, ho, hb⟩ := hrel
        obtain ⟨lo, lm, lc, hlv, hlm⟩ := ho.form'
        subst hlv
        have hxl := restW_lt f k p
        by_cases hz : restW f k p = 0
        · have hL := restW_zero hz hp
          rw [← hL] at ho
          rw [hz]
          go_wp2
          go_roundw
          case rel => exact ⟨k + 1, by omega, by go_num, ho, hb⟩
          case measure => simp [intOf]; omega
        · obtain ⟨b, hpb, hb64, hct, hand, hls⟩ := restW_pos hz
          have htz := tz_any _ hxl hz wr (HT.out.mono hb)
          rw [hct] at htz
          have hll := listN_length f (64 * k + p)
          have hlc := cnt_le f (64 * k + p)
          obtain ⟨v2, w2, hr2, o2, bl2⟩ := own_pushZ ho ((64 * k + b : Nat) : Int) hb.size (by omega)
          rw [← hls] at o2
          have hb2 := hb.trans bl2
          obtain ⟨lo2, lm2, lc2, hv2, hm2⟩ := o2.form'
          subst hv2
          have hxy := restW_lt f k (b + 1)
          have hlow : restW f k (b + 1) < restW f k p := by
            have h1 : restW f k p &&& (restW f k p - 1) ≤ restW f k p - 1 := Nat.and_le_right
            omega
          have hba := bits_and_u64_nat (restW f k p) (restW f k p - 1) hxl (by omega)
          rw [hand] at hba
          have hbz := build_z ((64 * k + b : Nat) : Int) wr
          have hsum : ((64 * k + b : Nat) : Int) = (k : Int) * 64 + (b : Int) := by omega
          rw [hsum] at hbz hr2
          have hpe : b + 1 ≤ 64 := by omega
          obtain ⟨x, hx⟩ : ∃ x, restW f k p = x := ⟨_, rfl⟩
          obtain ⟨y, hy⟩ : ∃ y, restW f k (b + 1) = y := ⟨_, rfl⟩
          rw [hx] at hxl hz htz hlow hba
          rw [hy] at hxy hlow hba
          rw [hx]
          have hsub : ((x - 1 : Nat) : Int) = (x : Int) - 1 := by omega
          rw [hsub] at hba
          have HY := Lib.hid hy
          have HR2 := Lib.hid hr2
          have hxz : ((x : Int) != 0) = true := by simp; omega
          clear hx hy hct hand hls hll hlc ho bl2 hr2 hsum hsub hb hm2
          go_wp2_with fail
          refine Calls.mono htz ?_
          rintro e _ ⟨rfl, rfl⟩
          clear htz
          go_wp2_with (with_reducible refine wpList_append_own rfl (.tmp 19) (.tmp 25) 22 22 rfl (.slice lo lm lc) (.slice (some ⟨wr.heap.size, 0, none⟩) 1 1) (.slice lo2 lm2 lc2) rfl rfl HR2.out ?_)
          go_roundw
          case rel => exact ⟨b + 1, hpe, by rw [HY.out], o2, hb2⟩
          case measure => simp [intOf]; omega
    · obtain rfl : k = 64 := by omega
      have FIN : Hid (ListPost w (listN f 4096) (.returned (.slice lo lm lc)) wr) := Lib.hid ⟨_, rfl, ho, hb⟩
      clear ho hb
      go_wp2
      go_ret
      exact FIN.out
theorem used_any {w : World} {ab : Nat} {A : Al} (h : AlAt w ab A) (hT : tabG w) : Calls Tryd.prog 25 #[.pointer (some ⟨ab, 0, none⟩)] w (ListPost w (listN A.u 4096)) := by
  have hl := list_any h.sets.1 hT
  clear h hT
  generalize listN A.u 4096 = zs at hl ⊢
  go_enter Tryd.func25, Tryd.ntmps25
  go_wp2_with fail
  refine Calls.mono hl ?_
  rintro e w1 ⟨v, rfl, o1, b1⟩
  have FIN : Hid (ListPost w zs (.returned v) w1) := Lib.hid ⟨_, rfl, o1, b1⟩
  clear hl o1 b1
  go_wp2
  go_ret
  exact FIN.out
theorem leaving_any {w : World} {ab : Nat} {A : Al} (h : AlAt w ab A) (hT : tabG w) : Calls Tryd.prog 34 #[.pointer (some ⟨ab, 0, none⟩)] w (ListPost w (listN A.l 4096)) := by
  have hl := list_any h.sets.2.1 hT
  clear h hT
  generalize listN A.l 4096 = zs at hl ⊢
  go_enter Tryd.func34, Tryd.ntmps34
  go_wp2_with fail
  refine Calls.mono hl ?_
  rintro e w1 ⟨v, rfl, o1, b1⟩
  have FIN : Hid (ListPost w zs (.returned v) w1) := Lib.hid ⟨_, rfl, o1, b1⟩
  clear hl o1 b1
  go_wp2
  go_ret
  exact FIN.out
end Go.Proofs.YtkmaikmbjebjeaaDoor
