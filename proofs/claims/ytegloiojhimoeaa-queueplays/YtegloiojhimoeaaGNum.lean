/- The contracts of gauge's steps: ticks, powers, mixes, and of the laws' own known. No statement of the seat is proved here. -/
import Derived.Test.YtegloiojhimoeaaGRef2
namespace Go.Proofs.Ytegloiojhimoeaa
open Go.RowKit G Ieee

theorem rung_word (s : Bool) {r : Nat} (h : r < 9223372036854775808) : rung (D.word s r) = r := by
  unfold Format.word; rw [weight_eq]; unfold rung; cases s <;> simp <;> omega
theorem sgn_word (s : Bool) {r : Nat} (h : r < 9223372036854775808) : sgn (D.word s r) = s := by
  unfold Format.word; rw [weight_eq]; unfold sgn; cases s <;> simp <;> omega
theorem nan_word (s : Bool) {r : Nat} (h : r ≤ 9218868437227405312) : nan (D.word s r) = false := by
  unfold nan; rw [rung_word s (by omega)]; simpa using h
theorem write_num (s : Bool) (m : Nat) (e : Int) : nan (D.write (.number s m e)) = false := by
  unfold Format.write Format.nearest
  dsimp only
  split
  · exact nan_word s (by decide)
  · refine nan_word s ?_
    have := Nat.min_le_right ((max (e + m.log2 - D.fractionBits) D.leastPlace - D.leastPlace).toNat * D.binade + Toward.even.cut s (m <<< (e - max (e + m.log2 - D.fractionBits) D.leastPlace).toNat) (max (e + m.log2 - D.fractionBits) D.leastPlace - e).toNat) D.infRung
    rw [inf_eq] at this ⊢
    exact this
theorem write_inf (s : Bool) : nan (D.write (.infinity s)) = false := by
  unfold Format.write; rw [inf_eq]; exact nan_word s (by decide)

def Datum.fine : Datum → Prop | .nan .. => False | _ => True
theorem write_fine {d : Datum} (h : Datum.fine d) : nan (D.write d) = false := by
  cases d with
  | number s m e => exact write_num s m e
  | infinity s => exact write_inf s
  | nan s t => exact h.elim
theorem sum_fine {a b d : Datum} (h : a.sum b = some d) : Datum.fine d := by
  unfold Datum.sum at h
  split at h <;> (try split at h) <;> cases h <;> trivial
theorem product_fine {a b d : Datum} (h : a.product b = some d) : Datum.fine d := by
  unfold Datum.product at h
  split at h <;> (try split at h) <;> cases h <;> trivial
theorem map_fine {o : Option Datum} {r : Nat} (h : o.map D.write = some r) (hf : ∀ d, o = some d → Datum.fine d) : nan r = false := by
  cases o with
  | none => cases h
  | some d => cases h; exact write_fine (hf d rfl)

theorem read_nan {b : Nat} (h : nan b = true) : ∃ t, D.read b = .nan (sgn b) t := by
  rcases kind b with ⟨_, t, e⟩ | ⟨h', _, _⟩ | ⟨h', _, _, _, _, _, _⟩
  · exact ⟨t, e⟩
  · simp [h] at h'
  · simp [h] at h'
theorem sum_nan_left (s : Bool) (t : Nat) (d : Datum) : (Datum.nan s t).sum d = none := rfl
theorem sum_nan_right (s : Bool) (t : Nat) (d : Datum) : d.sum (Datum.nan s t) = none := by cases d <;> rfl
theorem product_nan_left (s : Bool) (t : Nat) (d : Datum) : (Datum.nan s t).product d = none := rfl
theorem product_nan_right (s : Bool) (t : Nat) (d : Datum) : d.product (Datum.nan s t) = none := by cases d <;> rfl

/-- a step on values: + - * -/
inductive Step : BinOp → Prop | add : Step .add | sub : Step .sub | mul : Step .mul
def fo (op : BinOp) (x y : Option Nat) : Option Nat := x.bind fun a => y.bind fun b => floatBits op .f64 a b
theorem fo_val {op : BinOp} (h : Step op) (x y : Nat) : floatBits op .f64 x y = fo op (val x) (val y) := by
  unfold fo val
  cases hx : nan x
  · cases hy : nan y
    · simp
    · obtain ⟨t, e⟩ := read_nan hy
      simp only [Bool.false_eq_true, if_false, if_true, Option.bind_some, Option.bind_none]
      cases h <;> simp only [floatBits, FloatKind.format, Format.add, Format.sub, Format.mul] <;> rw [show Ieee.double.read y = D.read y from rfl, e] <;> simp only [Datum.opposite, sum_nan_right, product_nan_right, Option.map_none]
  · obtain ⟨t, e⟩ := read_nan hx
    simp only [if_true, Option.bind_none]
    cases h <;> simp only [floatBits, FloatKind.format, Format.add, Format.sub, Format.mul] <;> rw [show Ieee.double.read x = D.read x from rfl, e] <;> simp only [sum_nan_left, product_nan_left, Option.map_none]
theorem floatBits_fine {op : BinOp} (h : Step op) {x y r : Nat} (e : floatBits op .f64 x y = some r) : nan r = false := by
  cases h
  · exact map_fine e fun d hd => sum_fine hd
  · exact map_fine e fun d hd => sum_fine hd
  · exact map_fine e fun d hd => product_fine hd
theorem floatBits_lt {op : BinOp} {x y r : Nat} (e : floatBits op .f64 x y = some r) : r < 18446744073709551616 := by
  have := floatBits_wf e; simpa [Lit.wf] using this

theorem nan_cut (x y t : Nat) : nan (Question.cut (.nanBits .f64 x y) t) = true ∧ Question.cut (.nanBits .f64 x y) t < 18446744073709551616 := by
  show nan ((t % 2) * 2 ^ 63 + 0x7ff0000000000000 + 1 + (t / 2) % (2 ^ 52 - 1)) = true ∧ (t % 2) * 2 ^ 63 + 0x7ff0000000000000 + 1 + (t / 2) % (2 ^ 52 - 1) < _
  rw [show (2 : Nat) ^ 63 = 9223372036854775808 by decide +kernel, show (2 : Nat) ^ 52 - 1 = 4503599627370495 by decide +kernel]
  have h1 : t / 2 % 4503599627370495 < 4503599627370495 := Nat.mod_lt _ (by decide)
  have h2 : t % 2 < 2 := Nat.mod_lt _ (by decide)
  generalize t / 2 % 4503599627370495 = z at h1 ⊢
  unfold nan rung
  simp only [decide_eq_true_eq]
  omega

/-- A step: its value, and a world that has drawn at most. -/
theorem run_step {op : BinOp} (h : Step op) (x y : Nat) (w : World) : ∃ r w', (binOp op 31 (.float .f64 x) (.float .f64 y)).run Try.prog w = .ok (.float .f64 r) w' ∧ r < 18446744073709551616 ∧ val r = fo op (val x) (val y) ∧ Below w.heap.size w w' ∧ w'.heap.size = w.heap.size := by
  cases hb : floatBits op .f64 x y with
  | some r =>
    refine ⟨r, w, run_float_arith w op _ .f64 x y r hb, floatBits_lt hb, ?_, Below.refl _ _, rfl⟩
    rw [← fo_val h, hb]; simp [val, floatBits_fine h hb]
  | none =>
    obtain ⟨n1, n2⟩ := nan_cut x y (w.tape w.drawn (.nanBits .f64 x y))
    refine ⟨Question.cut (.nanBits .f64 x y) (w.tape w.drawn (.nanBits .f64 x y)), w.drew, ?_, n2, ?_, (Below.refl _ _).drew, rfl⟩
    · cases h <;> (simp only [floatBits] at hb; simp [binOp, Op.floatArith, hb, Question.forced])
    · rw [← fo_val h, hb]; simp [val, n1]

/-- what a call that answers a number leaves -/
def FRet (o : Option Nat) (w : World) (e : Ending) (w' : World) : Prop := ∃ r, e = .returned (.float .f64 r) ∧ r < 18446744073709551616 ∧ val r = o ∧ Below w.heap.size w w' ∧ w'.heap.size = w.heap.size

def mixV (old now weight : Option Nat) : Option Nat := fo .add old (fo .mul weight (fo .sub now old))
def powV : Nat → Option Nat → Option Nat
  | 0, _ => some 4607182418800017408
  | n + 1, v => fo .mul (powV n v) v
theorem val_one : val 4607182418800017408 = some 4607182418800017408 := by decide +kernel
def times (n : Int) : Nat := (min (max n 0) 60).toNat
theorem times_le (n : Int) : times n ≤ 60 := by unfold times; omega
/-! ### ticks -/
/-- the whole part of a number from 0 on -/
def whole (b : Nat) : Nat := mag (rung b) / 2 ^ 1074
theorem cut_zero (s : Bool) (n d : Nat) : Toward.zero.cut s n d = n / 2 ^ d := by
  unfold Toward.cut
  simp only [Bool.toNat_false, Nat.add_zero, Nat.shiftLeft_eq, Nat.one_mul]
  by_cases h : d ≤ n.log2 + 2
  · rw [Nat.min_eq_left h]
  · rw [Nat.min_eq_right (by omega)]
    have h1 : n < 2 ^ (n.log2 + 1) := Nat.lt_log2_self
    have h2 : n < 2 ^ (n.log2 + 2) := Nat.lt_trans h1 (Nat.pow_lt_pow_right (by decide) (by omega))
    have h3 : n < 2 ^ d := Nat.lt_trans h1 (Nat.pow_lt_pow_right (by decide) (by omega))
    rw [Nat.div_eq_of_lt h2, Nat.div_eq_of_lt h3]
theorem div_pow_le (m : Nat) {p K : Nat} (h : p ≤ K) : m * 2 ^ p / 2 ^ K = m / 2 ^ (K - p) := by
  rw [show (2 : Nat) ^ K = 2 ^ (K - p) * 2 ^ p by rw [← Nat.pow_add]; congr 1; omega, Nat.mul_div_mul_right _ _ (Nat.two_pow_pos p)]
theorem div_pow_ge (m : Nat) {p K : Nat} (h : K ≤ p) : m * 2 ^ p / 2 ^ K = m * 2 ^ (p - K) := by
  rw [show (2 : Nat) ^ p = 2 ^ (p - K) * 2 ^ K by rw [← Nat.pow_add]; congr 1; omega, ← Nat.mul_assoc, Nat.mul_div_cancel _ (Nat.two_pow_pos _)]
theorem toInt_num {b : Nat} (hn : nan b = false) (hr : rung b < 9218868437227405312) : (D.read b).toInt .zero = some ((if sgn b then -1 else 1) * (whole b : Int)) := by
  rcases kind b with ⟨h', _, _⟩ | ⟨_, hr', _⟩ | ⟨_, _, m, p, e, hm, _⟩
  · simp [hn] at h'
  · omega
  · rw [e]
    unfold Datum.toInt Datum.integral
    simp only [cut_zero]
    rw [signed_eq]
    congr 2
    rw [Nat.pow_zero, Nat.mul_one, Nat.shiftLeft_eq]
    unfold whole
    rw [hm]
    by_cases h : p ≤ 1074
    · rw [show (-1074 + (p : Int)).toNat = 0 by omega, show (-(-1074 + (p : Int))).toNat = 1074 - p by omega, Nat.pow_zero, Nat.mul_one, div_pow_le m h]
    · rw [show (-1074 + (p : Int)).toNat = p - 1074 by omega, show (-(-1074 + (p : Int))).toNat = 0 by omega, Nat.pow_zero, Nat.div_one, div_pow_ge m (Nat.le_of_lt (Nat.lt_of_not_le h))]
theorem mag_le {r s : Nat} (h : r ≤ s) : mag r ≤ mag s := by
  rcases Nat.eq_or_lt_of_le h with rfl | h
  · exact Nat.le_refl _
  · exact Nat.le_of_lt (mag_lt h)
theorem whole_le {a b : Nat} (h : rung a ≤ rung b) : whole a ≤ whole b := Nat.div_le_div_right (mag_le h)
theorem whole_top : whole 4681608360884174848 = 100000 := by decide +kernel
theorem nan_top : nan 4681608360884174848 = false := by decide +kernel
theorem sv_top : sv 4681608360884174848 = 4681608360884174848 := by decide +kernel
theorem rung_top : rung 4681608360884174848 = 4681608360884174848 := by decide +kernel

def ticks (b : Nat) : Int := if nan b then 0 else if sv b < 0 then 0 else if 4681608360884174848 < sv b then 100000 else whole b
theorem conv_ticks {b : Nat} (w : World) (hn : nan b = false) (h0 : ¬ sv b < 0) (h1 : ¬ 4681608360884174848 < sv b) : (convert 31 3 (.float .f64 b)).run Try.prog w = .ok (.int .i64 (whole b)) w := by
  have hr : rung b ≤ 4681608360884174848 := by
    unfold sv at h0 h1; cases hs : sgn b <;> rw [hs] at h0 h1 <;> simp at h0 h1 <;> omega
  have hw : whole b ≤ 100000 := by rw [← whole_top]; exact whole_le (by rw [rung_top]; exact hr)
  refine run_convert_float_int w 31 3 .f64 .i64 b _ (by kernel_rfl) Try.underlying3 ?_
  unfold floatToIntVal
  rw [show FloatKind.f64.decode b = D.read b from rfl, toInt_num hn (by omega)]
  have hv : (if sgn b then -1 else 1) * (whole b : Int) = whole b := by
    cases hs : sgn b
    · simp
    · have : rung b = 0 := by unfold sv at h0; rw [hs] at h0; simp at h0; omega
      have hz : whole b = 0 := by unfold whole; rw [this]; decide +kernel
      rw [hz]; rfl
  rw [hv]
  dsimp only
  rw [if_pos]
  rw [show IntKind.i64.min = -9223372036854775808 by decide +kernel, show IntKind.i64.max = 9223372036854775807 by decide +kernel]
  omega
end Go.Proofs.Ytegloiojhimoeaa
