/- The contracts of gauge's steps: ticks, powers, mixes, and of the laws' own known. No statement of the seat is proved here. -/
import Derived.Test.YtolpajkeiijbmaaGRef2
namespace Go.Proofs.Ytolpajkeiijbmaa
open Go.RowKit G Ieee

theorem rung_word (s : Bool) {r : Nat} (h : r < 9223372036854775808) : rung (D.word s r) = r := by
  unfold Format.word; rw [weight_eq]; unfold rung; cases s <;> simp <;> omega
theorem sgn_word (s : Bool) {r : Nat} (h : r < 9223372036854775808) : sgn (D.word s r) = s := by
  unfold Format.word; rw [weight_eq]; unfold sgn; cases s <;> simp <;> omega
theorem nan_word (s : Bool) {r : Nat} (h : r ≤ 9218868437227405312) : nan (D.word s r) = false := by
  unfold nan; rw [rung_word s (by omega)]; simpa using h
theorem write_num (s : Bool) (m : Nat) (e : Int) : nan (D.write (.number s m e)) = false := by
  unfold Format.write Format.nearest
  dsimp only
  split
  · exact nan_word s (by decide)
  · refine nan_word s ?_
    have := Nat.min_le_right ((max (e + m.log2 - D.fractionBits) D.leastPlace - D.leastPlace).toNat * D.binade + Toward.even.cut s (m <<< (e - max (e + m.log2 - D.fractionBits) D.leastPlace).toNat) (max (e + m.log2 - D.fractionBits) D.leastPlace - e).toNat) D.infRung
    rw [inf_eq] at this ⊢
    exact this
theorem write_inf (s : Bool) : nan (D.write (.infinity s)) = false := by
  unfold Format.write; rw [inf_eq]; exact nan_word s (by decide)

def Datum.fine : Datum → Prop | .nan .. => False | _ => True
theorem write_fine {d : Datum} (h : Datum.fine d) : nan (D.write d) = false := by
  cases d with
  | number s m e => exact write_num s m e
  | infinity s => exact write_inf s
  | nan s t => exact h.elim
theorem sum_fine {a b d : Datum} (h : a.sum b = some d) : Datum.fine d := by
  unfold Datum.sum at h
  split at h <;> (try split at h) <;> cases h <;> trivial
theorem product_fine {a b d : Datum} (h : a.product b = some d) : Datum.fine d := by
  unfold Datum.product at h
  split at h <;> (try split at h) <;> cases h <;> trivial
theorem map_fine {o : Option Datum} {r : Nat} (h : o.map D.write = some r) (hf : ∀ d, o = some d → Datum.fine d) : nan r = false := by
  cases o with
  | none => cases h
  | some d => cases h; exact write_fine (hf d rfl)

theorem read_nan {b : Nat} (h : nan b = true) : ∃ t, D.read b = .nan (sgn b) t := by
  rcases kind b with ⟨_, t, e⟩ | ⟨h', _, _⟩ | ⟨h', _, _, _, _, _, _⟩
  · exact ⟨t, e⟩
  · simp [h] at h'
  · simp [h] at h'
theorem sum_nan_left (s : Bool) (t : Nat) (d : Datum) : (Datum.nan s t).sum d = none := rfl
theorem sum_nan_right (s : Bool) (t : Nat) (d : Datum) : d.sum (Datum.nan s t) = none := by cases d <;> rfl
theorem product_nan_left (s : Bool) (t : Nat) (d : Datum) : (Datum.nan s t).product d = none := rfl
theorem product_nan_right (s : Bool) (t : Nat) (d : Datum) : d.product (Datum.nan s t) = none := by cases d <;> rfl

/-- a step on values: + - * -/
inductive Step : BinOp → Prop | add : Step .add | sub : Step .sub | mul : Step .mul
def fo (op : BinOp) (x y : Option Nat) : Option Nat := x.bind fun a => y.bind fun b => floatBits op .f64 a b
theorem fo_val {op : BinOp} (h : Step op) (x y : Nat) : floatBits op .f64 x y = fo op (val x) (val y) := by
  unfold fo val
  cases hx : nan x
  · cases hy : nan y
    · simp
    · obtain ⟨t, e⟩ := read_nan hy
      simp only [Bool.false_eq_true, if_false, if_true, Option.bind_some, Option.bind_none]
      cases h <;> simp only [floatBits, FloatKind.format, Format.add, Format.sub, Format.mul] <;> rw [show Ieee.double.read y = D.read y from rfl, e] <;> simp only [Datum.opposite, sum_nan_right, product_nan_right, Option.map_none]
  · obtain ⟨t, e⟩ := read_nan hx
    simp only [if_true, Option.bind_none]
    cases h <;> simp only [floatBits, FloatKind.format, Format.add, Format.sub, Format.mul] <;> rw [show Ieee.double.read x = D.read x from rfl, e] <;> simp only [sum_nan_left, product_nan_left, Option.map_none]
theorem floatBits_fine {op : BinOp} (h : Step op) {x y r : Nat} (e : floatBits op .f64 x y = some r) : nan r = false := by
  cases h
  · exact map_fine e fun d hd => sum_fine hd
  · exact map_fine e fun d hd => sum_fine hd
  · exact map_fine e fun d hd => product_fine hd
theorem floatBits_lt {op : BinOp} {x y r : Nat} (e : floatBits op .f64 x y = some r) : r < 18446744073709551616 := by
  have := floatBits_wf e; simpa [Lit.wf] using this

theorem nan_cut (x y t : Nat) : nan (Question.cut (.nanBits .f64 x y) t) = true ∧ Question.cut (.nanBits .f64 x y) t < 18446744073709551616 := by
  show nan ((t % 2) * 2 ^ 63 + 0x7ff0000000000000 + 1 + (t / 2) % (2 ^ 52 - 1)) = true ∧ (t % 2) * 2 ^ 63 + 0x7ff0000000000000 + 1 + (t / 2) % (2 ^ 52 - 1) < _
  rw [show (2 : Nat) ^ 63 = 9223372036854775808 by decide +kernel, show (2 : Nat) ^ 52 - 1 = 4503599627370495 by decide +kernel]
  have h1 : t / 2 % 4503599627370495 < 4503599627370495 := Nat.mod_lt _ (by decide)
  have h2 : t % 2 < 2 := Nat.mod_lt _ (by decide)
  generalize t / 2 % 4503599627370495 = z at h1 ⊢
  unfold nan rung
  simp only [decide_eq_true_eq]
  omega

/-- A step: its value, and a world that has drawn at most. -/
theorem run_step {op : BinOp} (h : Step op) (x y : Nat) (w : World) : ∃ r w', (binOp op 22 (.float .f64 x) (.float .f64 y)).run Try.prog w = .ok (.float .f64 r) w' ∧ r < 18446744073709551616 ∧ val r = fo op (val x) (val y) ∧ Below w.heap.size w w' ∧ w'.heap.size = w.heap.size := by
  cases hb : floatBits op .f64 x y with
  | some r =>
    refine ⟨r, w, run_float_arith w op _ .f64 x y r hb, floatBits_lt hb, ?_, Below.refl _ _, rfl⟩
    rw [← fo_val h, hb]; simp [val, floatBits_fine h hb]
  | none =>
    obtain ⟨n1, n2⟩ := nan_cut x y (w.tape w.drawn (.nanBits .f64 x y))
    refine ⟨Question.cut (.nanBits .f64 x y) (w.tape w.drawn (.nanBits .f64 x y)), w.drew, ?_, n2, ?_, (Below.refl _ _).drew, rfl⟩
    · cases h <;> (simp only [floatBits] at hb; simp [binOp, Op.floatArith, hb, Question.forced])
    · rw [← fo_val h, hb]; simp [val, n1]

/-- what a call that answers a number leaves -/
def FRet (o : Option Nat) (w : World) (e : Ending) (w' : World) : Prop := ∃ r, e = .returned (.float .f64 r) ∧ r < 18446744073709551616 ∧ val r = o ∧ Below w.heap.size w w' ∧ w'.heap.size = w.heap.size

def mixV (old now weight : Option Nat) : Option Nat := fo .add old (fo .mul weight (fo .sub now old))
def powV : Nat → Option Nat → Option Nat
  | 0, _ => some 4607182418800017408
  | n + 1, v => fo .mul (powV n v) v
theorem val_one : val 4607182418800017408 = some 4607182418800017408 := by decide +kernel
def times (n : Int) : Nat := (min (max n 0) 60).toNat
theorem times_le (n : Int) : times n ≤ 60 := by unfold times; omega
set_option maxHeartbeats 800000 in
theorem power_any (x : Nat) (n : Int) (w : World) : Calls Try.prog 18 #[.float .f64 x, .int .i64 n] w (FRet (powV (times n) (val x)) w) := by
  obtain ⟨N, hN⟩ : ∃ N, times n = N := ⟨_, rfl⟩
  rw [hN]
  unfold times at hN
  have hcase : (n < 0 ∧ N = 0) ∨ (60 < n ∧ N = 60) ∨ (0 ≤ n ∧ n ≤ 60 ∧ n = N) := by omega
  clear hN
  rcases hcase with ⟨h, rfl⟩ | ⟨h, rfl⟩ | ⟨h, h', rfl⟩
  · go_enter Try.func18, Try.ntmps18
    go_wp2
    go_loopw [5, 9] (fun pv iv wr => ∃ k r : Nat, k ≤ 0 ∧ iv = .int .i64 k ∧ pv = .float .f64 r ∧ r < 18446744073709551616 ∧ Hid (val r = powV k (val x)) ∧ Below w.heap.size w wr ∧ Hid (wr.heap.size = w.heap.size)) (fun _ iv _ => 0 - (intOf iv).toNat)
    case atStart => exact ⟨0, _, by omega, rfl, rfl, by decide, Lib.hid val_one, Below.refl _ _, Lib.hid rfl⟩
    case round =>
      obtain ⟨k, r, hk, rfl, rfl, hr, hv, hb, hs⟩ := hrel
      obtain ⟨r1, w1, e1, l1, v1, b1, s1⟩ := run_step .mul r x wr
      have hv1 : Hid (val r1 = powV (k + 1) (val x)) := Lib.hid (by rw [v1, hv.out]; rfl)
      have hb1 : Below w.heap.size w w1 := hb.trans (b1.mono (by rw [hs.out]; exact Nat.le_refl _))
      have hs1 : Hid (w1.heap.size = w.heap.size) := Lib.hid (by rw [s1, hs.out])
      clear v1 b1 s1
      by_cases hlt : k < 0
      · omega
      · clear e1
        go_wp2
        go_ret
        exact ⟨r, rfl, hr, by rw [hv.out, show k = 0 by omega], hb, hs.out⟩
  · go_enter Try.func18, Try.ntmps18
    go_wp2
    go_loopw [5, 9] (fun pv iv wr => ∃ k r : Nat, k ≤ 60 ∧ iv = .int .i64 k ∧ pv = .float .f64 r ∧ r < 18446744073709551616 ∧ Hid (val r = powV k (val x)) ∧ Below w.heap.size w wr ∧ Hid (wr.heap.size = w.heap.size)) (fun _ iv _ => 60 - (intOf iv).toNat)
    case atStart => exact ⟨0, _, by omega, rfl, rfl, by decide, Lib.hid val_one, Below.refl _ _, Lib.hid rfl⟩
    case round =>
      obtain ⟨k, r, hk, rfl, rfl, hr, hv, hb, hs⟩ := hrel
      obtain ⟨r1, w1, e1, l1, v1, b1, s1⟩ := run_step .mul r x wr
      have hv1 : Hid (val r1 = powV (k + 1) (val x)) := Lib.hid (by rw [v1, hv.out]; rfl)
      have hb1 : Below w.heap.size w w1 := hb.trans (b1.mono (by rw [hs.out]; exact Nat.le_refl _))
      have hs1 : Hid (w1.heap.size = w.heap.size) := Lib.hid (by rw [s1, hs.out])
      clear v1 b1 s1
      by_cases hlt : k < 60
      · go_wp2
        go_roundw
        case rel => exact ⟨k + 1, r1, by omega, by go_num, rfl, l1, hv1, hb1, hs1⟩
        case measure => simp [intOf]; omega
      · clear e1
        go_wp2
        go_ret
        exact ⟨r, rfl, hr, by rw [hv.out, show k = 60 by omega], hb, hs.out⟩
  · have hN : N ≤ 60 := by omega
    clear h h'
    go_enter Try.func18, Try.ntmps18
    go_wp2
    go_loopw [5, 9] (fun pv iv wr => ∃ k r : Nat, k ≤ N ∧ iv = .int .i64 k ∧ pv = .float .f64 r ∧ r < 18446744073709551616 ∧ Hid (val r = powV k (val x)) ∧ Below w.heap.size w wr ∧ Hid (wr.heap.size = w.heap.size)) (fun _ iv _ => N - (intOf iv).toNat)
    case atStart => exact ⟨0, _, by omega, rfl, rfl, by decide, Lib.hid val_one, Below.refl _ _, Lib.hid rfl⟩
    case round =>
      obtain ⟨k, r, hk, rfl, rfl, hr, hv, hb, hs⟩ := hrel
      obtain ⟨r1, w1, e1, l1, v1, b1, s1⟩ := run_step .mul r x wr
      have hv1 : Hid (val r1 = powV (k + 1) (val x)) := Lib.hid (by rw [v1, hv.out]; rfl)
      have hb1 : Below w.heap.size w w1 := hb.trans (b1.mono (by rw [hs.out]; exact Nat.le_refl _))
      have hs1 : Hid (w1.heap.size = w.heap.size) := Lib.hid (by rw [s1, hs.out])
      clear v1 b1 s1
      by_cases hlt : k < N
      · go_wp2
        go_roundw
        case rel => exact ⟨k + 1, r1, by omega, by go_num, rfl, l1, hv1, hb1, hs1⟩
        case measure => simp [intOf]; omega
      · clear e1
        go_wp2
        go_ret
        exact ⟨r, rfl, hr, by rw [hv.out, show k = N by omega], hb, hs.out⟩

set_option maxHeartbeats 800000 in
theorem rPower_any (x : Nat) (n : Int) (w : World) : Calls Try.prog 15 #[.float .f64 x, .int .i64 n] w (FRet (powV (times n) (val x)) w) := by
  obtain ⟨N, hN⟩ : ∃ N, times n = N := ⟨_, rfl⟩
  rw [hN]
  unfold times at hN
  have hcase : (n < 0 ∧ N = 0) ∨ (60 < n ∧ N = 60) ∨ (0 ≤ n ∧ n ≤ 60 ∧ n = N) := by omega
  clear hN
  rcases hcase with ⟨h, rfl⟩ | ⟨h, rfl⟩ | ⟨h, h', rfl⟩
  · go_enter Try.func15, Try.ntmps15
    go_wp2
    go_loopw [5, 6] (fun pv iv wr => ∃ k r : Nat, k ≤ 0 ∧ iv = .int .i64 k ∧ pv = .float .f64 r ∧ r < 18446744073709551616 ∧ Hid (val r = powV k (val x)) ∧ Below w.heap.size w wr ∧ Hid (wr.heap.size = w.heap.size)) (fun _ iv _ => 0 - (intOf iv).toNat)
    case atStart => exact ⟨0, _, by omega, rfl, rfl, by decide, Lib.hid val_one, Below.refl _ _, Lib.hid rfl⟩
    case round =>
      obtain ⟨k, r, hk, rfl, rfl, hr, hv, hb, hs⟩ := hrel
      obtain ⟨r1, w1, e1, l1, v1, b1, s1⟩ := run_step .mul r x wr
      have hv1 : Hid (val r1 = powV (k + 1) (val x)) := Lib.hid (by rw [v1, hv.out]; rfl)
      have hb1 : Below w.heap.size w w1 := hb.trans (b1.mono (by rw [hs.out]; exact Nat.le_refl _))
      have hs1 : Hid (w1.heap.size = w.heap.size) := Lib.hid (by rw [s1, hs.out])
      clear v1 b1 s1
      by_cases hlt : k < 0
      · omega
      · clear e1
        go_wp2
        go_ret
        exact ⟨r, rfl, hr, by rw [hv.out, show k = 0 by omega], hb, hs.out⟩
  · go_enter Try.func15, Try.ntmps15
    go_wp2
    go_loopw [5, 6] (fun pv iv wr => ∃ k r : Nat, k ≤ 60 ∧ iv = .int .i64 k ∧ pv = .float .f64 r ∧ r < 18446744073709551616 ∧ Hid (val r = powV k (val x)) ∧ Below w.heap.size w wr ∧ Hid (wr.heap.size = w.heap.size)) (fun _ iv _ => 60 - (intOf iv).toNat)
    case atStart => exact ⟨0, _, by omega, rfl, rfl, by decide, Lib.hid val_one, Below.refl _ _, Lib.hid rfl⟩
    case round =>
      obtain ⟨k, r, hk, rfl, rfl, hr, hv, hb, hs⟩ := hrel
      obtain ⟨r1, w1, e1, l1, v1, b1, s1⟩ := run_step .mul r x wr
      have hv1 : Hid (val r1 = powV (k + 1) (val x)) := Lib.hid (by rw [v1, hv.out]; rfl)
      have hb1 : Below w.heap.size w w1 := hb.trans (b1.mono (by rw [hs.out]; exact Nat.le_refl _))
      have hs1 : Hid (w1.heap.size = w.heap.size) := Lib.hid (by rw [s1, hs.out])
      clear v1 b1 s1
      by_cases hlt : k < 60
      · go_wp2
        go_roundw
        case rel => exact ⟨k + 1, r1, by omega, by go_num, rfl, l1, hv1, hb1, hs1⟩
        case measure => simp [intOf]; omega
      · clear e1
        go_wp2
        go_ret
        exact ⟨r, rfl, hr, by rw [hv.out, show k = 60 by omega], hb, hs.out⟩
  · have hN : N ≤ 60 := by omega
    clear h h'
    go_enter Try.func15, Try.ntmps15
    go_wp2
    go_loopw [5, 6] (fun pv iv wr => ∃ k r : Nat, k ≤ N ∧ iv = .int .i64 k ∧ pv = .float .f64 r ∧ r < 18446744073709551616 ∧ Hid (val r = powV k (val x)) ∧ Below w.heap.size w wr ∧ Hid (wr.heap.size = w.heap.size)) (fun _ iv _ => N - (intOf iv).toNat)
    case atStart => exact ⟨0, _, by omega, rfl, rfl, by decide, Lib.hid val_one, Below.refl _ _, Lib.hid rfl⟩
    case round =>
      obtain ⟨k, r, hk, rfl, rfl, hr, hv, hb, hs⟩ := hrel
      obtain ⟨r1, w1, e1, l1, v1, b1, s1⟩ := run_step .mul r x wr
      have hv1 : Hid (val r1 = powV (k + 1) (val x)) := Lib.hid (by rw [v1, hv.out]; rfl)
      have hb1 : Below w.heap.size w w1 := hb.trans (b1.mono (by rw [hs.out]; exact Nat.le_refl _))
      have hs1 : Hid (w1.heap.size = w.heap.size) := Lib.hid (by rw [s1, hs.out])
      clear v1 b1 s1
      by_cases hlt : k < N
      · go_wp2
        go_roundw
        case rel => exact ⟨k + 1, r1, by omega, by go_num, rfl, l1, hv1, hb1, hs1⟩
        case measure => simp [intOf]; omega
      · clear e1
        go_wp2
        go_ret
        exact ⟨r, rfl, hr, by rw [hv.out, show k = N by omega], hb, hs.out⟩


/-! ### ticks -/
/-- the whole part of a number from 0 on -/
def whole (b : Nat) : Nat := mag (rung b) / 2 ^ 1074
theorem cut_zero (s : Bool) (n d : Nat) : Toward.zero.cut s n d = n / 2 ^ d := by
  unfold Toward.cut
  simp only [Bool.toNat_false, Nat.add_zero, Nat.shiftLeft_eq, Nat.one_mul]
  by_cases h : d ≤ n.log2 + 2
  · rw [Nat.min_eq_left h]
  · rw [Nat.min_eq_right (by omega)]
    have h1 : n < 2 ^ (n.log2 + 1) := Nat.lt_log2_self
    have h2 : n < 2 ^ (n.log2 + 2) := Nat.lt_trans h1 (Nat.pow_lt_pow_right (by decide) (by omega))
    have h3 : n < 2 ^ d := Nat.lt_trans h1 (Nat.pow_lt_pow_right (by decide) (by omega))
    rw [Nat.div_eq_of_lt h2, Nat.div_eq_of_lt h3]
theorem div_pow_le (m : Nat) {p K : Nat} (h : p ≤ K) : m * 2 ^ p / 2 ^ K = m / 2 ^ (K - p) := by
  rw [show (2 : Nat) ^ K = 2 ^ (K - p) * 2 ^ p by rw [← Nat.pow_add]; congr 1; omega, Nat.mul_div_mul_right _ _ (Nat.two_pow_pos p)]
theorem div_pow_ge (m : Nat) {p K : Nat} (h : K ≤ p) : m * 2 ^ p / 2 ^ K = m * 2 ^ (p - K) := by
  rw [show (2 : Nat) ^ p = 2 ^ (p - K) * 2 ^ K by rw [← Nat.pow_add]; congr 1; omega, ← Nat.mul_assoc, Nat.mul_div_cancel _ (Nat.two_pow_pos _)]
theorem toInt_num {b : Nat} (hn : nan b = false) (hr : rung b < 9218868437227405312) : (D.read b).toInt .zero = some ((if sgn b then -1 else 1) * (whole b : Int)) := by
  rcases kind b with ⟨h', _, _⟩ | ⟨_, hr', _⟩ | ⟨_, _, m, p, e, hm, _⟩
  · simp [hn] at h'
  · omega
  · rw [e]
    unfold Datum.toInt Datum.integral
    simp only [cut_zero]
    rw [signed_eq]
    congr 2
    rw [Nat.pow_zero, Nat.mul_one, Nat.shiftLeft_eq]
    unfold whole
    rw [hm]
    by_cases h : p ≤ 1074
    · rw [show (-1074 + (p : Int)).toNat = 0 by omega, show (-(-1074 + (p : Int))).toNat = 1074 - p by omega, Nat.pow_zero, Nat.mul_one, div_pow_le m h]
    · rw [show (-1074 + (p : Int)).toNat = p - 1074 by omega, show (-(-1074 + (p : Int))).toNat = 0 by omega, Nat.pow_zero, Nat.div_one, div_pow_ge m (Nat.le_of_lt (Nat.lt_of_not_le h))]
theorem mag_le {r s : Nat} (h : r ≤ s) : mag r ≤ mag s := by
  rcases Nat.eq_or_lt_of_le h with rfl | h
  · exact Nat.le_refl _
  · exact Nat.le_of_lt (mag_lt h)
theorem whole_le {a b : Nat} (h : rung a ≤ rung b) : whole a ≤ whole b := Nat.div_le_div_right (mag_le h)
theorem whole_top : whole 4681608360884174848 = 100000 := by decide +kernel
theorem nan_top : nan 4681608360884174848 = false := by decide +kernel
theorem sv_top : sv 4681608360884174848 = 4681608360884174848 := by decide +kernel
theorem rung_top : rung 4681608360884174848 = 4681608360884174848 := by decide +kernel

def ticks (b : Nat) : Int := if nan b then 0 else if sv b < 0 then 0 else if 4681608360884174848 < sv b then 100000 else whole b
theorem conv_ticks {b : Nat} (w : World) (hn : nan b = false) (h0 : ¬ sv b < 0) (h1 : ¬ 4681608360884174848 < sv b) : (convert 22 3 (.float .f64 b)).run Try.prog w = .ok (.int .i64 (whole b)) w := by
  have hr : rung b ≤ 4681608360884174848 := by
    unfold sv at h0 h1; cases hs : sgn b <;> rw [hs] at h0 h1 <;> simp at h0 h1 <;> omega
  have hw : whole b ≤ 100000 := by rw [← whole_top]; exact whole_le (by rw [rung_top]; exact hr)
  refine run_convert_float_int w 22 3 .f64 .i64 b _ (by kernel_rfl) Try.underlying3 ?_
  unfold floatToIntVal
  rw [show FloatKind.f64.decode b = D.read b from rfl, toInt_num hn (by omega)]
  have hv : (if sgn b then -1 else 1) * (whole b : Int) = whole b := by
    cases hs : sgn b
    · simp
    · have : rung b = 0 := by unfold sv at h0; rw [hs] at h0; simp at h0; omega
      have hz : whole b = 0 := by unfold whole; rw [this]; decide +kernel
      rw [hz]; rfl
  rw [hv]
  dsimp only
  rw [if_pos]
  rw [show IntKind.i64.min = -9223372036854775808 by decide +kernel, show IntKind.i64.max = 9223372036854775807 by decide +kernel]
  omega
set_option maxHeartbeats 400000 in
theorem ticks_any (b : Nat) (w : World) : Calls Try.prog 19 #[.float .f64 b] w fun e w' => e = .returned (.int .i64 (ticks b)) ∧ w = w' := by
  cases hn : nan b
  · have hl := order_lt hn nan0
    have hg := order_gt hn nan_top
    rw [sv0] at hl; rw [sv_top] at hg
    rw [show D = FloatKind.f64.format from rfl] at hl hg
    by_cases c1 : sv b < 0
    · rw [show ticks b = 0 by simp [ticks, hn, c1]]
      rw [show decide (sv b < 0) = true by simpa using c1] at hl
      clear c1 hg
      go_enter Try.func19, Try.ntmps19
      go_wp2_with fail
      refine (isNaN_any _ _).mono ?_
      rintro e _ ⟨rfl, rfl⟩
      go_wp2
      go_ret
      exact ⟨rfl, rfl⟩
    · rw [show decide (sv b < 0) = false by simpa using c1] at hl
      by_cases c2 : 4681608360884174848 < sv b
      · rw [show ticks b = 100000 by simp [ticks, hn, c1, c2]]
        rw [show decide (4681608360884174848 < sv b) = true by simpa using c2] at hg
        clear c1 c2
        go_enter Try.func19, Try.ntmps19
        go_wp2_with fail
        refine (isNaN_any _ _).mono ?_
        rintro e _ ⟨rfl, rfl⟩
        go_wp2
        go_ret
        exact ⟨rfl, rfl⟩
      · rw [show ticks b = whole b by simp [ticks, hn, c1, c2]]
        rw [show decide (4681608360884174848 < sv b) = false by simpa using c2] at hg
        have hc := fun w => conv_ticks w hn c1 c2
        clear c1 c2
        go_enter Try.func19, Try.ntmps19
        go_wp2_with fail
        refine (isNaN_any _ _).mono ?_
        rintro e _ ⟨rfl, rfl⟩
        go_wp2
        go_ret
        exact ⟨rfl, rfl⟩
  · rw [show ticks b = 0 by simp [ticks, hn]]
    go_enter Try.func19, Try.ntmps19
    go_wp2_with fail
    refine (isNaN_any _ _).mono ?_
    rintro e _ ⟨rfl, rfl⟩
    go_wp2
    go_ret
    exact ⟨rfl, rfl⟩
set_option maxHeartbeats 400000 in
theorem rTicks_any (b : Nat) (w : World) : Calls Try.prog 16 #[.float .f64 b] w fun e w' => e = .returned (.int .i64 (ticks b)) ∧ w = w' := by
  cases hn : nan b
  · have hl := order_lt hn nan0
    have hg := order_gt hn nan_top
    rw [sv0] at hl; rw [sv_top] at hg
    rw [show D = FloatKind.f64.format from rfl] at hl hg
    by_cases c1 : sv b < 0
    · rw [show ticks b = 0 by simp [ticks, hn, c1]]
      rw [show decide (sv b < 0) = true by simpa using c1] at hl
      clear c1 hg
      go_enter Try.func16, Try.ntmps16
      go_wp2_with fail
      refine (rNaN_any _ _).mono ?_
      rintro e _ ⟨rfl, rfl⟩
      go_wp2
      go_ret
      exact ⟨rfl, rfl⟩
    · rw [show decide (sv b < 0) = false by simpa using c1] at hl
      by_cases c2 : 4681608360884174848 < sv b
      · rw [show ticks b = 100000 by simp [ticks, hn, c1, c2]]
        rw [show decide (4681608360884174848 < sv b) = true by simpa using c2] at hg
        clear c1 c2
        go_enter Try.func16, Try.ntmps16
        go_wp2_with fail
        refine (rNaN_any _ _).mono ?_
        rintro e _ ⟨rfl, rfl⟩
        go_wp2
        go_ret
        exact ⟨rfl, rfl⟩
      · rw [show ticks b = whole b by simp [ticks, hn, c1, c2]]
        rw [show decide (4681608360884174848 < sv b) = false by simpa using c2] at hg
        have hc := fun w => conv_ticks w hn c1 c2
        clear c1 c2
        go_enter Try.func16, Try.ntmps16
        go_wp2_with fail
        refine (rNaN_any _ _).mono ?_
        rintro e _ ⟨rfl, rfl⟩
        go_wp2
        go_ret
        exact ⟨rfl, rfl⟩
  · rw [show ticks b = 0 by simp [ticks, hn]]
    go_enter Try.func16, Try.ntmps16
    go_wp2_with fail
    refine (rNaN_any _ _).mono ?_
    rintro e _ ⟨rfl, rfl⟩
    go_wp2
    go_ret
    exact ⟨rfl, rfl⟩

end Go.Proofs.Ytolpajkeiijbmaa
