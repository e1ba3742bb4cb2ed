/- The contracts of backoff's Plan and of the document's. No statement of the seat is proved here. -/
import Derived.Test.YtolpajkeiijbmaaKArgs
import Derived.Test.YtolpajkeiijbmaaOwn
namespace Go.Proofs.Ytolpajkeiijbmaa
open Go.RowKit G

def cellsZ (l : List Int) : List Value := l.map fun x => .int .i64 x
/-- A slice of ints of the call's own. -/
def OwnZ (base : Nat) (w : World) (v : Value) (l : List Int) : Prop := w.ownsRow base 3 1 v l.length (cellsZ l)
theorem OwnZ.nil (base : Nat) (w : World) : OwnZ base w (.slice none 0 0) [] := World.ownsRow_nil w base 3 1
theorem OwnZ.form' {base : Nat} {w : World} {v : Value} {l : List Int} (h : OwnZ base w v l) : ∃ ao m cap, v = .slice ao m cap ∧ Hid (m = l.length) := by
  obtain ⟨ao, cap, hv, _, _⟩ := ownsRow_form h
  exact ⟨ao, _, cap, hv, Lib.hid rfl⟩
theorem info_int : ∃ i, Try.prog.info? 3 = some i ∧ i.zero = some (.int .i64 0) ∧ i.size = 1 ∧ i.bytes = 8 := by
  have h : (Try.prog.info? 3).map (fun i => (i.zero, i.size, i.bytes)) = some (some (.int .i64 0), 1, 8) := by kernel_rfl
  cases hq : Try.prog.info? 3 with
  | none => rw [hq] at h; simp at h
  | some i => rw [hq] at h; simp at h; exact ⟨i, rfl, h.1, h.2.1, h.2.2⟩
theorem own_push_int {base : Nat} {w : World} {v : Value} {l : List Int} (h : OwnZ base w v l) (x : Int) (hlen : l.length ≤ 1000) (hb : base ≤ w.heap.size) :
    ∃ v' w', (Builtin.append_ #[33, 33] 33 #[v, .slice (some ⟨w.heap.size, 0, none⟩) 1 1]).run Try.prog (w.alloc (.cells #[.int .i64 x] 3)) = .ok v' w' ∧ OwnZ base w' v' (l ++ [x]) ∧ Below base w w' := by
  obtain ⟨i, hi, hi0, hi1, hi2⟩ := info_int
  obtain ⟨v', w', hr, ho, hb', hs, -⟩ := own_push (ty := 33) Try.underlying33 hi hi0 hi1 hi2 rfl (by decide) (World.ownsRow.alloc h (.cells #[.int .i64 x] 3)) (ys := [.int .i64 x]) (heap_alloc_new w _) rfl (by simp [Value.oneCell']) (by omega) (by unfold maxLen; omega) (by simp; omega)
  refine ⟨v', w', hr, ?_, ((Below.refl _ _).alloc hb _).trans hb'⟩
  unfold OwnZ
  rw [List.length_append, show cellsZ (l ++ [x]) = cellsZ l ++ [.int .i64 x] by simp [cellsZ]]
  exact ho

/-- the tick ahead of try k -/
def tb (b f c : Nat) (now : Int) : Nat → Int
  | 0 => now
  | k + 1 => tb b f c now k + dly b f c k
def tl (b f c : Nat) (now : Int) (n : Nat) : List Int := (List.range n).map fun k => tb b f c now (k + 1)
theorem tl_succ (b f c : Nat) (now : Int) (n : Nat) : tl b f c now (n + 1) = tl b f c now n ++ [tb b f c now (n + 1)] := by simp [tl, List.range_succ]
theorem tl_length (b f c : Nat) (now : Int) (n : Nat) : (tl b f c now n).length = n := by simp [tl]
theorem tb_bounds (b f c : Nat) (now : Int) (n : Nat) : now ≤ tb b f c now n ∧ tb b f c now n ≤ now + 100000 * n := by
  induction n with
  | zero => simp [tb]
  | succ n ih => have := dly_bounds b f c n; simp only [tb]; omega
theorem tl_get (b f c : Nat) (now : Int) (n k : Nat) (h : k < n) : (cellsZ (tl b f c now n))[k]? = some (.int .i64 (tb b f c now (k + 1))) := by
  simp [cellsZ, tl, h]

abbrev planOk (now tries : Int) : Prop := (0 ≤ now ∧ now ≤ 1099511627776) ∧ (0 ≤ tries ∧ tries ≤ 1000)
def planL (b f c : Nat) (now tries : Int) : List Int := if planOk now tries then tl b f c now tries.toNat else []
def planE (now tries : Int) : Int := if planOk now tries then 0 else 1
def PlanRet (w : World) (l : List Int) (n : Int) (e : Ending) (w' : World) : Prop := ∃ v, e = .returned (.tuple #[v, .int .i64 n]) ∧ OwnZ w.heap.size w' v l ∧ Below w.heap.size w w'
theorem OwnZ.less {base base' : Nat} {w : World} {v : Value} {l : List Int} (h : OwnZ base w v l) (hb : base' ≤ base) : OwnZ base' w v l := by
  refine ⟨h.1, ?_⟩
  rcases h.2 with h2 | ⟨g, cap, cur, hv, hg, hh, r⟩
  · exact .inl h2
  · exact .inr ⟨g, cap, cur, hv, Nat.le_trans hb hg, hh, r⟩

set_option maxRecDepth 20000 in
set_option maxHeartbeats 1600000 in
theorem plan_any (b f c : Nat) (now tries : Int) (hc : c < 18446744073709551616) (W : World) :
    Calls Try.prog 14 #[setting b f c, .int .i64 now, .int .i64 tries] W (PlanRet W (planL b f c now tries) (planE now tries)) := by
  by_cases h0 : planOk now tries
  · rw [show planL b f c now tries = tl b f c now tries.toNat from if_pos h0, show planE now tries = 0 from if_pos h0]
    obtain ⟨⟨h1, h2⟩, h3, h4⟩ := h0
    obtain ⟨n, rfl⟩ : ∃ n : Nat, tries = n := ⟨tries.toNat, by omega⟩
    rw [Int.toNat_natCast]
    have i1 := within_any now 1099511627776
    rw [show decide (0 ≤ now ∧ now ≤ 1099511627776) = true by simp [h1, h2]] at i1
    have i2 := within_any (n : Int) 1000
    rw [show decide (0 ≤ (n : Int) ∧ (n : Int) ≤ 1000) = true by simp [h4]] at i2
    clear h3
    go_enter Try.func14, Try.ntmps14
    go_wp2_with fail
    refine (i1 _).mono ?_
    rintro e _ ⟨rfl, rfl⟩
    go_wp2_with fail
    refine (i2 _).mono ?_
    rintro e _ ⟨rfl, rfl⟩
    clear i1 i2
    go_wp2
    go_loopw [8, 9, 21] (fun tv kv iv wr => ∃ k : Nat, k ≤ n ∧ iv = .int .i64 k ∧ kv = .int .i64 (tb b f c now k) ∧ OwnZ (W.heap.size + 1) wr tv (tl b f c now k) ∧ Below (W.heap.size + 1) (W.alloc (setBox b f c)) wr) (fun _ _ iv _ => n - (intOf iv).toNat)
    case atStart => exact ⟨0, Nat.zero_le _, rfl, rfl, OwnZ.nil _ _, Below.refl _ _⟩
    case round =>
      obtain ⟨k, hk, rfl, rfl, ho, hbel⟩ := hrel
      obtain ⟨bo, m, bc, hform, hm⟩ := ho.form'
      by_cases hlt : k < n
      · have c0 := box_cell hbel 0 rfl
        have c1 := box_cell hbel 1 rfl
        have c2 := box_cell hbel 2 rfl
        have hd := delay_any b f c k hc (by omega)
        have htb := tb_bounds b f c now (k + 1)
        have hw1 : IntKind.i64.wrap (tb b f c now k + dly b f c k) = tb b f c now (k + 1) := by rw [IntKind.wrap_i64]; simp only [tb] at *; omega
        subst hform
        go_wp2_with fail
        refine (hd _).mono ?_
        rintro e w1 ⟨rfl, b1⟩
        have ho1 := ownsRow_below ho b1
        have hb1 := hbel.trans (b1.mono (szS hbel))
        obtain ⟨v', w', hr, ho', hb'⟩ := own_push_int (l := tl b f c now k) ho1 (tb b f c now (k + 1)) (by rw [tl_length]; omega) (szS hb1)
        rw [← tl_succ] at ho'
        have HB := hb1.trans hb'
        have HR := Lib.hid hr
        have HO := Lib.hid ho'
        clear hr c0 c1 c2 ho ho1 hb1 hb' hbel b1 ho' hd
        go_wp2_with (with_reducible refine wpList_append_own rfl (.tmp 29) (.tmp 31) 33 33 rfl (.slice bo m bc) (.slice (some ⟨w1.heap.size, 0, none⟩) 1 1) v' rfl rfl HR.out ?_)
        go_roundw
        case rel => exact ⟨k + 1, by omega, by go_num, rfl, HO.out, HB⟩
        case measure => simp [intOf]; omega
      · subst hform
        go_wp2
        go_ret2
        obtain rfl : k = n := by omega
        exact ⟨_, rfl, OwnZ.less ho (Nat.le_succ _), ((Below.refl _ _).alloc (Nat.le_refl _) _).trans (hbel.mono (Nat.le_succ _))⟩
  · rw [show planL b f c now tries = [] from if_neg h0, show planE now tries = 1 from if_neg h0]
    by_cases h1 : 0 ≤ now ∧ now ≤ 1099511627776
    · have h2 : ¬ (0 ≤ tries ∧ tries ≤ 1000) := fun h => h0 ⟨h1, h⟩
      have i1 := within_any now 1099511627776
      rw [show decide (0 ≤ now ∧ now ≤ 1099511627776) = true by simp [h1]] at i1
      have i2 := within_any tries 1000
      rw [show decide (0 ≤ tries ∧ tries ≤ 1000) = false by simp only [decide_eq_false_iff_not]; exact h2] at i2
      clear h0 h1 h2
      go_enter Try.func14, Try.ntmps14
      go_wp2_with fail
      refine (i1 _).mono ?_
      rintro e _ ⟨rfl, rfl⟩
      go_wp2_with fail
      refine (i2 _).mono ?_
      rintro e _ ⟨rfl, rfl⟩
      go_wp2
      go_ret2
      exact ⟨_, rfl, OwnZ.nil _ _, (Below.refl _ _).alloc (Nat.le_refl _) _⟩
    · have i1 := within_any now 1099511627776
      rw [show decide (0 ≤ now ∧ now ≤ 1099511627776) = false by simp only [decide_eq_false_iff_not]; exact h1] at i1
      clear h0 h1
      go_enter Try.func14, Try.ntmps14
      go_wp2_with fail
      refine (i1 _).mono ?_
      rintro e _ ⟨rfl, rfl⟩
      go_wp2
      go_ret2
      exact ⟨_, rfl, OwnZ.nil _ _, (Below.refl _ _).alloc (Nat.le_refl _) _⟩

set_option maxRecDepth 20000 in
set_option maxHeartbeats 1600000 in
theorem docPlan_any (b f c : Nat) (now tries : Int) (hc : c < 18446744073709551616) (W : World) :
    Calls Try.prog 13 #[.float .f64 b, .float .f64 f, .float .f64 c, .int .i64 now, .int .i64 tries] W (PlanRet W (planL b f c now tries) (planE now tries)) := by
  by_cases h0 : planOk now tries
  · rw [show planL b f c now tries = tl b f c now tries.toNat from if_pos h0, show planE now tries = 0 from if_pos h0]
    obtain ⟨⟨h1, h2⟩, h3, h4⟩ := h0
    obtain ⟨n, rfl⟩ : ∃ n : Nat, tries = n := ⟨tries.toNat, by omega⟩
    rw [Int.toNat_natCast]
    have h1' : ¬ now < 0 := by omega
    have h2' : ¬ 1099511627776 < now := by omega
    have h3' : ¬ (n : Int) < 0 := by omega
    have h4' : ¬ 1000 < (n : Int) := by omega
    clear h3
    go_enter Try.func13, Try.ntmps13
    go_wp2
    go_loopw [12, 3, 13] (fun tv kv iv wr => ∃ k : Nat, k ≤ n ∧ iv = .int .i64 k ∧ kv = .int .i64 (tb b f c now k) ∧ OwnZ W.heap.size wr tv (tl b f c now k) ∧ Below W.heap.size W wr) (fun _ _ iv _ => n - (intOf iv).toNat)
    case atStart => exact ⟨0, Nat.zero_le _, rfl, rfl, OwnZ.nil _ _, Below.refl _ _⟩
    case round =>
      obtain ⟨k, hk, rfl, rfl, ho, hbel⟩ := hrel
      obtain ⟨bo, m, bc, hform, hm⟩ := ho.form'
      by_cases hlt : k < n
      · have hd := rDelay_any b f c k hc (by omega)
        have htb := tb_bounds b f c now (k + 1)
        have hw1 : IntKind.i64.wrap (tb b f c now k + dly b f c k) = tb b f c now (k + 1) := by rw [IntKind.wrap_i64]; simp only [tb] at *; omega
        subst hform
        go_wp2_with fail
        refine (hd _).mono ?_
        rintro e w1 ⟨rfl, b1⟩
        have ho1 := ownsRow_below ho b1
        have hb1 := hbel.trans (b1.mono hbel.size)
        obtain ⟨v', w', hr, ho', hb'⟩ := own_push_int (l := tl b f c now k) ho1 (tb b f c now (k + 1)) (by rw [tl_length]; omega) hb1.size
        rw [← tl_succ] at ho'
        have HB := hb1.trans hb'
        have HR := Lib.hid hr
        have HO := Lib.hid ho'
        clear hr ho ho1 hb1 hb' hbel b1 ho' hd
        go_wp2_with (with_reducible refine wpList_append_own rfl (.tmp 40) (.tmp 42) 33 33 rfl (.slice bo m bc) (.slice (some ⟨w1.heap.size, 0, none⟩) 1 1) v' rfl rfl HR.out ?_)
        go_roundw
        case rel => exact ⟨k + 1, by omega, by go_num, rfl, HO.out, HB⟩
        case measure => simp [intOf]; omega
      · subst hform
        go_wp2
        go_ret2
        obtain rfl : k = n := by omega
        exact ⟨_, rfl, ho, hbel⟩
  · rw [show planL b f c now tries = [] from if_neg h0, show planE now tries = 1 from if_neg h0]
    have hh : now < 0 ∨ (¬ now < 0 ∧ 1099511627776 < now) ∨ (¬ now < 0 ∧ ¬ 1099511627776 < now ∧ tries < 0) ∨ (¬ now < 0 ∧ ¬ 1099511627776 < now ∧ ¬ tries < 0 ∧ 1000 < tries) := by omega
    clear h0
    rcases hh with h1 | ⟨h1, h2⟩ | ⟨h1, h2, h3⟩ | ⟨h1, h2, h3, h4⟩
    all_goals
      go_enter Try.func13, Try.ntmps13
      go_wp2
      go_ret2
      exact ⟨_, rfl, OwnZ.nil _ _, Below.refl _ _⟩
end Go.Proofs.Ytolpajkeiijbmaa
