/- Pairs in memory, and the contracts of bigPairs and formedPairs. No statement of the seat is proved here. -/
import Derived.Test.YtmkomhdlcbimoaaRDec
namespace Go.Proofs.Ytmkomhdlcbimoaa
set_option maxRecDepth 20000
open Go.RowKit

structure Pr where
  k : ByteArray
  v : ByteArray
def Pr.ok (x : Pr) : Prop := x.k.size ≤ 140737488355328 ∧ x.v.size ≤ 140737488355328
def Pr.none : Pr := ⟨ByteArray.empty, ByteArray.empty⟩
def prAt (l : List Pr) (i : Nat) : Pr := l.getD i .none
theorem prAt_ok {l : List Pr} (h : ∀ x ∈ l, x.ok) {i : Nat} (hi : i < l.length) : (prAt l i).ok := by
  unfold prAt; rw [List.getD_eq_getElem?_getD, List.getElem?_eq_getElem hi]; exact h _ (List.getElem_mem hi)
theorem prAt_mem {l : List Pr} {i : Nat} (hi : i < l.length) : prAt l i ∈ l := by
  unfold prAt; rw [List.getD_eq_getElem?_getD, List.getElem?_eq_getElem hi]; exact List.getElem_mem hi
theorem mem_prAt {l : List Pr} {x : Pr} (h : x ∈ l) : ∃ i, i < l.length ∧ prAt l i = x := by
  obtain ⟨i, hi, rfl⟩ := List.mem_iff_getElem.1 h
  exact ⟨i, hi, by unfold prAt; rw [List.getD_eq_getElem?_getD, List.getElem?_eq_getElem hi]; rfl⟩
/-- A slice of pairs that reads as l in w, its block below B. -/
def PairsAt (B : Nat) (w : World) (v : Value) (l : List Pr) : Prop :=
  ∃ ao cap, v = .slice ao l.length cap ∧ l.length ≤ cap ∧ l.length ≤ 9223372036854775807 ∧ (∀ x ∈ l, x.ok) ∧
    (0 < l.length → ∃ b off, ao = some ⟨b, off, none⟩ ∧ b < B ∧ ∀ i, i < l.length → w.cell? ⟨b, off + i * 2, none⟩ = some (.string (prAt l i).k) ∧ w.cell? ⟨b, off + i * 2 + 1, none⟩ = some (.string (prAt l i).v))
theorem PairsAt.below {B : Nat} {w w' : World} {v : Value} {l : List Pr} (h : PairsAt B w v l) (hb : Below B w w') : PairsAt B w' v l := by
  obtain ⟨ao, cap, hv, h1, h2, h3, h4⟩ := h
  refine ⟨ao, cap, hv, h1, h2, h3, fun h0 => ?_⟩
  obtain ⟨b, off, e, hB, hc⟩ := h4 h0
  refine ⟨b, off, e, hB, fun i hi => ?_⟩
  obtain ⟨c1, c2⟩ := hc i hi
  exact ⟨(hb.cell hB).trans c1, (hb.cell hB).trans c2⟩
theorem PairsAt.more {B B' : Nat} {w : World} {v : Value} {l : List Pr} (h : PairsAt B w v l) (hB : B ≤ B') : PairsAt B' w v l := by
  obtain ⟨ao, cap, hv, h1, h2, h3, h4⟩ := h
  refine ⟨ao, cap, hv, h1, h2, h3, fun h0 => ?_⟩
  obtain ⟨b, off, e, hb, hc⟩ := h4 h0
  exact ⟨b, off, e, Nat.lt_of_lt_of_le hb hB, hc⟩
theorem PairsAt.form' {B : Nat} {w : World} {v : Value} {l : List Pr} (h : PairsAt B w v l) : ∃ ao m cap, v = .slice ao m cap ∧ Hid (m = l.length) := by
  obtain ⟨ao, cap, hv, _⟩ := h
  exact ⟨ao, _, cap, hv, Lib.hid rfl⟩
def cellsP (l : List Pr) : List Value := l.flatMap fun x => [.string x.k, .string x.v]
theorem cellsP_length (l : List Pr) : (cellsP l).length = l.length * 2 := by
  induction l with
  | nil => rfl
  | cons x r ih => simp only [cellsP, List.flatMap_cons, List.length_append, List.length_cons, List.length_nil] at *; omega
theorem cellsP_one (l : List Pr) : ∀ u ∈ cellsP l, u.oneCell' = true := by
  intro u hu
  simp only [cellsP, List.mem_flatMap] at hu
  obtain ⟨x, _, hx⟩ := hu
  simp only [List.mem_cons, List.not_mem_nil, or_false] at hx
  rcases hx with rfl | rfl <;> rfl
theorem cellsP_append (l m : List Pr) : cellsP (l ++ m) = cellsP l ++ cellsP m := by simp [cellsP]
theorem cellsP_get (l : List Pr) : ∀ (i : Nat), i < l.length → (cellsP l)[i * 2]? = some (.string (prAt l i).k) ∧ (cellsP l)[i * 2 + 1]? = some (.string (prAt l i).v) := by
  induction l with
  | nil => intro i hi; simp at hi
  | cons x r ih =>
    intro i hi
    have e : cellsP (x :: r) = [.string x.k, .string x.v] ++ cellsP r := by simp [cellsP]
    cases i with
    | zero => rw [e]; exact ⟨rfl, rfl⟩
    | succ j =>
      have h := ih j (by simpa using hi)
      have ea : prAt (x :: r) (j + 1) = prAt r j := rfl
      rw [e, ea]
      refine ⟨?_, ?_⟩
      · rw [List.getElem?_append_right (by simp; omega)]; rw [← h.1]; congr 1; simp; omega
      · rw [List.getElem?_append_right (by simp; omega)]; rw [← h.2]; congr 1; simp; omega
/-- A slice of pairs of the call's own. -/
def OwnP (base : Nat) (w : World) (v : Value) (l : List Pr) : Prop := w.ownsRow base 66 2 v l.length (cellsP l)
theorem OwnP.nil (base : Nat) (w : World) : OwnP base w (.slice none 0 0) [] := World.ownsRow_nil w base 66 2
theorem OwnP.alloc {base : Nat} {w : World} {v : Value} {l : List Pr} (h : OwnP base w v l) (o : Obj) : OwnP base (w.alloc o) v l := World.ownsRow.alloc h o
theorem OwnP.below {base : Nat} {w w' : World} {v : Value} {l : List Pr} (h : OwnP base w v l) (hb : Below w.heap.size w w') : OwnP base w' v l :=
  ownsRow_of_row h (fun k _ hk => (hb.block k (lt_of_heap hk)).trans hk)
theorem OwnP.base {b b' : Nat} {w : World} {v : Value} {l : List Pr} (h : OwnP b w v l) (hb : b' ≤ b) : OwnP b' w v l :=
  ownsRow_base h (fun k hk => Nat.le_trans hb (World.ownsRow.lt h k hk).1)
theorem OwnP.form {base : Nat} {w : World} {v : Value} {l : List Pr} (h : OwnP base w v l) : ∃ ao cap, v = .slice ao l.length cap ∧ l.length ≤ cap ∧ l.length ≤ maxLen := by
  rcases h.2 with ⟨h1, h2⟩ | ⟨g, cap, cur, hv, hb, hg, hn, hm, hs, htake⟩
  · exact ⟨none, 0, by rw [h1, h2], by omega, by rw [h2]; exact Nat.zero_le _⟩
  · exact ⟨_, cap, hv, hn, Nat.le_trans hn hm⟩
theorem OwnP.form' {base : Nat} {w : World} {v : Value} {l : List Pr} (h : OwnP base w v l) : ∃ ao m cap, v = .slice ao m cap ∧ Hid (m = l.length) := by
  obtain ⟨ao, cap, hv, _, _⟩ := h.form
  exact ⟨ao, _, cap, hv, Lib.hid rfl⟩
theorem OwnP.pairs {base : Nat} {w : World} {v : Value} {l : List Pr} (h : OwnP base w v l) (hok : ∀ x ∈ l, x.ok) : PairsAt w.heap.size w v l := by
  obtain ⟨ao, cap, hv, h1, h2⟩ := h.form
  refine ⟨ao, cap, hv, h1, by unfold maxLen at h2; omega, hok, fun h0 => ?_⟩
  obtain ⟨g, cap', hv', hb, hlt⟩ := World.ownsRow.form h h0
  have hc := World.ownsRow.cells h (g := g) (by rw [hv']; rfl)
  rw [hv] at hv'
  have ha : ao = some ⟨g, 0, none⟩ := by injection hv'
  refine ⟨g, 0, ha, hlt, fun i hi => ?_⟩
  obtain ⟨c1, c2⟩ := cellsP_get l i hi
  have e : ∀ j u, (cellsP l)[j]? = some u → w.cell? ⟨g, 0 + j, none⟩ = some u := fun j u hu => by have := hc j u hu; rwa [Addr.add_mid] at this
  exact ⟨e _ _ c1, by rw [Nat.add_assoc]; exact e _ _ c2⟩
theorem infoPair : (Try.prog.info? 66).map (fun i => (i.zero, i.size, i.bytes)) = some (some (.agg #[.string ByteArray.empty, .string ByteArray.empty]), 2, 32) := by kernel_rfl
theorem infoPair' : ∃ i, Try.prog.info? 66 = some i ∧ i.zero = some (.agg #[.string ByteArray.empty, .string ByteArray.empty]) ∧ i.size = 2 ∧ i.bytes = 32 := by
  have h := infoPair
  cases hq : Try.prog.info? 66 with
  | none => rw [hq] at h; simp at h
  | some i => rw [hq] at h; simp at h; exact ⟨i, rfl, h.1, h.2.1, h.2.2⟩
/-- append onto pairs of one's own: from a slice that reads as pairs -/
theorem own_append_pairs {base : Nat} {w : World} {v : Value} {l : List Pr} (h : OwnP base w v l) {B : Nat} {x : Value} {m : List Pr} (hx : PairsAt B w x m) (hlen : (l.length + m.length) * 32 ≤ 140737488355328) (hb : base ≤ w.heap.size) (ty : TypeId) :
    ∃ v' w', (Builtin.append_ #[54, 54] ty #[v, x]).run Try.prog w = .ok v' w' ∧ OwnP base w' v' (l ++ m) ∧ Below base w w' ∧ w.heap.size ≤ w'.heap.size := by
  obtain ⟨i, hi, hi0, hi1, hi2⟩ := infoPair'
  obtain ⟨bo, c, hxv, hxc0, hxl, hxo, hxc⟩ := hx
  subst hxv
  by_cases h0 : 0 < m.length
  · obtain ⟨b', off', rfl, hB, hat⟩ := hxc h0
    obtain ⟨v', w', hr, ho, hgr, -, -⟩ := run_append_own_at (P := Try.prog) w base 54 ty 66 i _ 2 32 Try.underlying54 hi hi0 hi1 hi2 rfl (by decide) v l.length (cellsP l) h ⟨b', off', none⟩ m.length c (cellsP m) (cellsP_length m) (fun j u hu => by
        have hj : j < m.length * 2 := by have := (List.getElem?_eq_some_iff.1 hu).1; rwa [cellsP_length] at this
        rw [Addr.add_mid]
        obtain ⟨q1, q2⟩ := hat (j / 2) (by omega)
        obtain ⟨p1, p2⟩ := cellsP_get m (j / 2) (by omega)
        have hj3 : j % 2 = 0 ∨ j % 2 = 1 := by omega
        rcases hj3 with e | e
        · have ej : j = j / 2 * 2 := by omega
          rw [ej] at hu ⊢
          rw [p1] at hu; rw [← hu]
          exact q1
        · have ej : j = j / 2 * 2 + 1 := by omega
          rw [ej] at hu ⊢
          rw [p2] at hu; rw [← hu, ← Nat.add_assoc]
          exact q2) (cellsP_one m) (by unfold maxLen; omega) (by omega) hb
    refine ⟨v', w', hr, ?_, (Below.refl _ _).grown hgr hb (fun k hk => (World.ownsRow.lt h k hk).1), hgr.size⟩
    unfold OwnP
    rw [List.length_append, cellsP_append]
    exact ho
  · have hcs : m = [] := List.eq_nil_of_length_eq_zero (by omega)
    subst hcs
    obtain ⟨ao, cap, hv, hc1, _⟩ := h.form
    subst hv
    refine ⟨_, w, run_append_none w 54 ty 66 Try.underlying54 i hi ao bo l.length cap c hc1, by rw [List.append_nil]; exact h, Below.refl _ _, Nat.le_refl _⟩
theorem build_pairs_one (w : World) (x : Pr) : (Instr.buildSlice 54 1 #[(0, .agg #[.string x.k, .string x.v])]).run Try.prog w = .ok (.slice (some ⟨w.heap.size, 0, none⟩) 1 1) (w.alloc (.cells #[.string x.k, .string x.v] 66)) := by
  obtain ⟨i, hi, hi0, hi1, hi2⟩ := infoPair'
  exact run_buildSlice_one w 54 66 i _ [.string x.k, .string x.v] Try.underlying54 hi hi0 hi1 (by simp) (by simp)
theorem pairs_one (w : World) (x : Pr) (hx : x.ok) : PairsAt (w.alloc (.cells #[.string x.k, .string x.v] 66)).heap.size (w.alloc (.cells #[.string x.k, .string x.v] 66)) (.slice (some ⟨w.heap.size, 0, none⟩) 1 1) [x] := by
  refine ⟨_, 1, rfl, Nat.le_refl _, by simp, fun y hy => ?_, fun _ => ⟨w.heap.size, 0, rfl, by simp, fun i hi => ?_⟩⟩
  · rw [List.mem_singleton.1 hy]; exact hx
  · have : i = 0 := by simpa using hi
    subst this
    exact ⟨cell_new w _ _ 0 _ rfl, cell_new w _ _ 1 _ rfl⟩

/-! ### how big, and in form? -/
def sizP (l : List Pr) : Nat := (l.map fun x => 6 + x.k.size + x.v.size).sum
def bigP (l : List Pr) : Bool := decide (1900 < l.length) || decide (60000 < 22 + sizP l)
theorem sizP_take (l : List Pr) (k : Nat) (h : k < l.length) : sizP (l.take (k + 1)) = sizP (l.take k) + (6 + (prAt l k).k.size + (prAt l k).v.size) := by
  unfold sizP prAt
  rw [List.take_succ_eq_append_getElem h, List.map_append, List.sum_append, List.getD_eq_getElem?_getD, List.getElem?_eq_getElem h]; simp
theorem sizP_bound (l : List Pr) (h : ∀ x ∈ l, x.ok) (k : Nat) (hk : k ≤ l.length) : sizP (l.take k) ≤ k * 281474976710662 := by
  induction k with
  | zero => simp [sizP]
  | succ k ih =>
    rw [sizP_take l k (by omega)]
    have h1 := ih (by omega)
    have h2 := prAt_ok h (i := k) (by omega)
    have := h2.1
    have := h2.2
    rw [Nat.succ_mul]; omega
set_option maxHeartbeats 800000 in
theorem bigPairs_any {w : World} {v : Value} {l : List Pr} (h : PairsAt w.heap.size w v l) : Calls Try.prog 42 #[v] w fun e w' => e = .returned (.bool (bigP l)) ∧ Below w.heap.size w w' := by
  obtain ⟨ao, cap, rfl, h1, h2, h3, h4⟩ := h
  by_cases c1 : 1900 < l.length
  · rw [show bigP l = true by unfold bigP; simp [c1]]
    clear h3 h4
    go_enter Try.func42, Try.ntmps42
    go_wp2
    go_ret
    exact ⟨rfl, Below.refl _ _⟩
  · have hb := sizP_bound l h3
    have HB := Lib.hid hb
    clear hb h3
    go_enter Try.func42, Try.ntmps42
    go_wp2
    go_loopw [3, 11] (fun sv iv wr => ∃ k : Nat, k ≤ l.length ∧ iv = .int .i64 k ∧ sv = .int .i64 ((22 + sizP (l.take k) : Nat) : Int) ∧ Below w.heap.size w wr) (fun _ iv _ => l.length - (intOf iv).toNat)
    case atStart => exact ⟨0, Nat.zero_le _, rfl, rfl, Below.refl _ _⟩
    case round =>
      obtain ⟨k, hk, rfl, rfl, hb⟩ := hrel
      by_cases hlt : k < l.length
      · obtain ⟨b, off, rfl, hB, hc⟩ := h4 (by omega)
        obtain ⟨d1, d2⟩ := hc k hlt
        have d1' := (hb.cell (p := ⟨b, off + k * 2, none⟩) hB).trans d1
        have d2' := (hb.cell (p := ⟨b, off + k * 2 + 1, none⟩) hB).trans d2
        have hs := sizP_take l k hlt
        have hs2 := HB.out (k + 1) (by omega)
        rw [hs] at hs2
        have HS := Lib.hid hs
        have HBA := hb.alloc hb.size (.cells #[.string (prAt l k).k, .string (prAt l k).v] 66)
        generalize prAt l k = x at d1' d2' HS hs2 HBA
        obtain ⟨xk, xv⟩ := x
        generalize hsz : sizP (l.take k) = sz at HS hs2
        simp only at hs2 d1' d2' HBA
        have hk2 : k ≤ 1899 := by omega
        have q1 : 22 + sz + (6 + xk.size + xv.size) ≤ 9223372036854775807 := by
          have : (k + 1) * 281474976710662 ≤ 1900 * 281474976710662 := Nat.mul_le_mul_right _ (by omega)
          omega
        have HSZ := Lib.hid hsz
        clear d1 d2 hc hs hs2 hsz h4
        go_wp2
        go_roundw
        case rel => exact ⟨k + 1, by omega, by go_num, by rw [HS.out]; simp only [Value.int.injEq, true_and]; push_cast; omega, HBA⟩
        case measure => simp [intOf]; omega
      · have ht : bigP l = decide (60000 < 22 + sizP (l.take k)) := by
          unfold bigP; rw [decide_eq_false c1, Bool.false_or, List.take_of_length_le (by omega)]
        have HT := Lib.hid ht
        have q1 := HB.out k hk
        have : k * 281474976710662 ≤ 1900 * 281474976710662 := Nat.mul_le_mul_right _ (by omega)
        generalize sizP (l.take k) = sz at HT q1
        clear ht h4
        go_wp2
        go_ret
        refine ⟨?_, hb⟩
        rw [HT.out]
        show Ending.returned (.bool (decide ((60000 : Int) < 22 + (sz : Int)))) = _
        rw [show decide ((60000 : Int) < 22 + (sz : Int)) = decide (60000 < 22 + sz) from decide_eq_decide.2 (by omega)]

def leS (a b : ByteArray) : Bool := Op.bytesLess a.toList b.toList || a.toList == b.toList
def prevK (l : List Pr) (i : Nat) : ByteArray := if i = 0 then ByteArray.empty else (prAt l (i - 1)).k
def fitAt (l : List Pr) (i : Nat) : Bool := !(leS (prAt l i).k (prevK l i)) && decide ((prAt l i).k.size ≤ 32) && decide ((prAt l i).v.size ≤ 48)
def fitP (l : List Pr) : Bool := (List.range l.length).all (fitAt l)
def okP (n : Int) (l : List Pr) : Bool := fitP l && decide (0 ≤ n)
theorem fitP_false {l : List Pr} {i : Nat} (hi : i < l.length) (h : fitAt l i = false) : fitP l = false := by
  unfold fitP; rw [List.all_eq_false]; exact ⟨i, List.mem_range.2 hi, by simpa using h⟩
theorem fitP_true {l : List Pr} (h : ∀ i, i < l.length → fitAt l i = true) : fitP l = true := by
  unfold fitP; rw [List.all_eq_true]; exact fun i hi => h i (List.mem_range.1 hi)
set_option maxHeartbeats 800000 in
theorem formedPairs_any {w : World} {v : Value} {l : List Pr} (h : PairsAt w.heap.size w v l) (n : Int) : Calls Try.prog 43 #[.int .i64 n, v] w fun e w' => e = .returned (.bool (okP n l)) ∧ Below w.heap.size w w' := by
  obtain ⟨ao, cap, rfl, h1, h2, h3, h4⟩ := h
  have H3 := Lib.hid h3
  clear h3
  go_enter Try.func43, Try.ntmps43
  go_wp2
  go_loopw [5, 10] (fun av iv wr => ∃ k : Nat, k ≤ l.length ∧ iv = .int .i64 k ∧ av = .string (prevK l k) ∧ Hid (∀ j, j < k → fitAt l j = true) ∧ Below w.heap.size w wr) (fun _ iv _ => l.length - (intOf iv).toNat)
  case atStart => exact ⟨0, Nat.zero_le _, rfl, rfl, Lib.hid (fun j hj => by omega), Below.refl _ _⟩
  case round =>
    obtain ⟨k, hk, rfl, rfl, hf, hb⟩ := hrel
    by_cases hlt : k < l.length
    · obtain ⟨b, off, rfl, hB, hc⟩ := h4 (by omega)
      obtain ⟨d1, d2⟩ := hc k hlt
      have d1' := (hb.cell (p := ⟨b, off + k * 2, none⟩) hB).trans d1
      have d2' := (hb.cell (p := ⟨b, off + k * 2 + 1, none⟩) hB).trans d2
      have hok := prAt_ok H3.out hlt
      have hfd : fitAt l k = (!(leS (prAt l k).k (prevK l k)) && decide ((prAt l k).k.size ≤ 32) && decide ((prAt l k).v.size ≤ 48)) := rfl
      have HBA := hb.alloc hb.size (.cells #[.string (prAt l k).k, .string (prAt l k).v] 66)
      have hnx : prevK l (k + 1) = (prAt l k).k := by unfold prevK; rw [if_neg (by omega)]; rfl
      generalize hx : prAt l k = x at d1' d2' hok hfd HBA hnx
      obtain ⟨xk, xv⟩ := x
      obtain ⟨o1, o2⟩ := hok
      simp only at d1' d2' o1 o2 hfd HBA hnx
      generalize prevK l k = pk at hfd
      have hlq : leS xk pk = (Op.bytesLess xk.toList pk.toList || xk.toList == pk.toList) := rfl
      clear d1 d2 hc h4 hx
      rw [hlq] at hfd
      cases hA : Op.bytesLess xk.toList pk.toList
      · cases hB : (xk.toList == pk.toList)
        · by_cases c1 : xk.size ≤ 32
          · by_cases c2 : xv.size ≤ 48
            · rw [hA, hB, decide_eq_true c1, decide_eq_true c2] at hfd
              have HF := Lib.hid (snoc_true hf.out hfd)
              have HN := Lib.hid hnx
              clear hfd hlq hf hnx
              go_wp2
              go_roundw
              case rel => exact ⟨k + 1, by omega, by go_num, by rw [HN.out], HF, HBA⟩
              case measure => simp [intOf]; omega
            · rw [hA, hB, decide_eq_true c1, decide_eq_false c2] at hfd
              have HF := Lib.hid (fitP_false hlt hfd)
              clear hfd hlq hf hnx
              go_wp2
              go_ret
              exact ⟨by unfold okP; rw [HF.out]; rfl, HBA⟩
          · rw [hA, hB, decide_eq_false c1] at hfd
            have HF := Lib.hid (fitP_false hlt hfd)
            clear hfd hlq hf hnx
            go_wp2
            go_ret
            exact ⟨by unfold okP; rw [HF.out]; rfl, HBA⟩
        · rw [hA, hB] at hfd
          have HF := Lib.hid (fitP_false hlt hfd)
          clear hfd hlq hf hnx
          go_wp2
          go_ret
          exact ⟨by unfold okP; rw [HF.out]; rfl, HBA⟩
      · rw [hA] at hfd
        have HF := Lib.hid (fitP_false hlt hfd)
        clear hfd hlq hf hnx
        go_wp2
        go_ret
        exact ⟨by unfold okP; rw [HF.out]; rfl, HBA⟩
    · have ht := Lib.hid (fitP_true (l := l) (fun i hi => hf.out i (by omega)))
      clear hf
      go_wp2
      go_ret
      refine ⟨?_, hb⟩
      rw [show okP n l = decide (0 ≤ n) by unfold okP; rw [ht.out]; rfl]
      rfl
end Go.Proofs.Ytmkomhdlcbimoaa
