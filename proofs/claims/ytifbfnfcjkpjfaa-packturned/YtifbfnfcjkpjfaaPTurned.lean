/- Sealed bytes with one, two or three neighbouring bits turned are not opened: the law cisternlaw03.PackTurned returns true at every input. No condition. -/
import Derived.Test.YtifbfnfcjkpjfaaPTurnM
import Derived.Test.YtifbfnfcjkpjfaaPSteps
import Derived.Laws.OwnMore
namespace Go.Proofs.Ytifbfnfcjkpjfaa.packTurned
open Go.RowKit Go.ChangeShapes Go.WideShapes Go.ChangeAt

theorem own : ownKnob Try.prog.godebug = none := by kernel_rfl
def maskB (r : Nat) : UInt8 := UInt8.ofNat (2 ^ r)
def flipAt (l : List UInt8) (i : Nat) : List UInt8 := l.set (i / 8) (l.getD (i / 8) 0 ^^^ maskB (i % 8))
def fl (at' : Nat) : Nat → List UInt8 → List UInt8
  | 0, l => l
  | j + 1, l => flipAt (fl at' j l) (at' + j)
theorem flip_length (l : List UInt8) (i : Nat) : (flipAt l i).length = l.length := by simp [flipAt]
theorem fl_length (at' j : Nat) (l : List UInt8) : (fl at' j l).length = l.length := by
  induction j with
  | zero => rfl
  | succ j ih => show (flipAt _ _).length = _; rw [flip_length, ih]
theorem zipX_length (s D : List UInt8) (h : s.length = D.length) : (zipX s D).length = s.length := by unfold zipX; rw [List.length_zipWith]; omega
theorem flip_zip (s D : List UInt8) (i : Nat) (h : s.length = D.length) (hi : i / 8 < s.length) : flipAt (zipX s D) i = zipX s (flipAt D i) := by
  unfold flipAt zipX
  apply List.ext_getElem
  · simp
  · intro q h1 h2
    rw [List.getElem_set]
    simp only [List.getElem_zipWith, List.getElem_set]
    split
    · rename_i e
      subst e
      have e1 : (List.zipWith (· ^^^ ·) s D).getD (i / 8) 0 = s[i / 8] ^^^ D[i / 8] := by
        rw [List.getD_eq_getElem?_getD, List.getElem?_eq_getElem (by rw [List.length_zipWith]; omega)]
        simp only [Option.getD_some, List.getElem_zipWith]
      have e2 : D.getD (i / 8) 0 = D[i / 8] := by
        rw [List.getD_eq_getElem?_getD, List.getElem?_eq_getElem (by omega)]; rfl
      simp only [e1, e2, UInt8.xor_assoc]
    · rfl
theorem zip_zero (s : List UInt8) : zipX s (List.replicate s.length 0) = s := by
  unfold zipX
  apply List.ext_getElem
  · simp
  · intro q h1 h2
    simp
theorem fl_zip (s : List UInt8) (at' j : Nat) (h : at' + j ≤ 8 * s.length) : fl at' j s = zipX s (fl at' j (List.replicate s.length 0)) := by
  induction j with
  | zero => exact (zip_zero s).symm
  | succ j ih =>
    show flipAt (fl at' j s) (at' + j) = zipX s (flipAt _ _)
    rw [ih (by omega), flip_zip _ _ _ (by rw [fl_length]; simp) (by omega)]
def pat (o : Nat) : Nat → UInt8
  | 0 => 0
  | j + 1 => pat o j ^^^ maskB (o + j)
theorem flip_first (p : Nat) (d : UInt8) (rest : List UInt8) (i : Nat) (h : i / 8 = p) : flipAt (List.replicate p 0 ++ d :: rest) i = List.replicate p 0 ++ (d ^^^ maskB (i % 8)) :: rest := by
  unfold flipAt
  rw [h, List.set_append, if_neg (by simp), List.getD_eq_getElem?_getD, List.getElem?_append_right (by simp)]
  simp
theorem flip_second (p : Nat) (d e : UInt8) (rest : List UInt8) (i : Nat) (h : i / 8 = p + 1) : flipAt (List.replicate p 0 ++ d :: e :: rest) i = List.replicate p 0 ++ d :: (e ^^^ maskB (i % 8)) :: rest := by
  unfold flipAt
  rw [h, List.set_append, if_neg (by simp), List.getD_eq_getElem?_getD, List.getElem?_append_right (by simp)]
  simp
theorem fl_in (p o : Nat) (rest : List UInt8) : ∀ j, o + j ≤ 8 → fl (8 * p + o) j (List.replicate p 0 ++ 0 :: rest) = List.replicate p 0 ++ pat o j :: rest
  | 0, _ => rfl
  | j + 1, h => by
    show flipAt (fl _ j _) _ = _
    rw [fl_in p o rest j (by omega), flip_first _ _ _ _ (by omega), show (8 * p + o + j) % 8 = o + j by omega]
    rfl
theorem fl_over (p o : Nat) (ho : o < 8) (rest : List UInt8) : ∀ j, j ≤ 8 → fl (8 * p + o) (8 - o + j) (List.replicate p 0 ++ 0 :: 0 :: rest) = List.replicate p 0 ++ pat o (8 - o) :: pat 0 j :: rest
  | 0, _ => by rw [Nat.add_zero, fl_in p o _ _ (by omega)]; rfl
  | j + 1, h => by
    show flipAt (fl (8 * p + o) (8 - o + j) _) (8 * p + o + (8 - o + j)) = _
    rw [fl_over p o ho rest j (by omega), flip_second _ _ _ _ _ (by omega), show (8 * p + o + (8 - o + j)) % 8 = 0 + j by omega]
    rfl
theorem check_in : ∀ o, o < 8 → ∀ j, j < 4 → 1 ≤ j → o + j ≤ 8 → pat o j ≠ 0 ∧ bitsS 8 (pat o j).toNat ≠ (0 : UInt8).toNat := by decide +kernel
theorem check_over : ∀ o, o < 8 → ∀ j, j < 3 → 8 - o + j ≤ 3 → pat o (8 - o) ≠ 0 ∧ bitsS 8 (pat o (8 - o)).toNat ≠ (pat 0 j).toNat := by decide +kernel
theorem turned_no (bs : List UInt8) (at' j : Nat) (hj : 1 ≤ j) (hj3 : j ≤ 3) (h : at' + j ≤ 8 * (sealed bs).length) : openOk (fl at' j (sealed bs)) = false := by
  cases hok : openOk (fl at' j (sealed bs))
  · rfl
  · exfalso
    have hl := sealed_length bs
    rw [fl_zip _ _ _ h] at hok
    have hx := open_xor bs _ (by rw [fl_length, List.length_replicate, hl]) hok
    rw [hl] at hx h
    obtain ⟨p, o, ho, rfl⟩ : ∃ p o, o < 8 ∧ at' = 8 * p + o := ⟨at' / 8, at' % 8, by omega, by omega⟩
    have hp : p < bs.length + 4 := by omega
    have hrep : List.replicate (bs.length + 4) (0 : UInt8) = List.replicate p 0 ++ 0 :: List.replicate (bs.length + 4 - p - 1) 0 := by
      rw [← List.replicate_succ, List.replicate_append_replicate]; congr 1; omega
    by_cases c : o + j ≤ 8
    · obtain ⟨k1, k2⟩ := check_in o ho j (by omega) hj c
      rw [hrep, fl_in p o _ j c] at hx
      by_cases e : p + 1 = bs.length + 4
      · have er : bs.length + 4 - p - 1 = 0 := by omega
        rw [er, List.replicate_zero] at hx
        exact burst_no bs.length p (pat o j) 0 [] (.inl ⟨rfl, e⟩) (by simp; omega) k1 k2 hx
      · have er : List.replicate (bs.length + 4 - p - 1) (0 : UInt8) = 0 :: List.replicate (bs.length + 4 - p - 2) 0 := by
          rw [← List.replicate_succ]; congr 1; omega
        rw [er] at hx
        exact burst_no bs.length p (pat o j) 0 _ (.inr ⟨⟨_, rfl⟩, by omega⟩) (by simp; omega) k1 k2 hx
    · obtain ⟨i, rfl⟩ : ∃ i, j = 8 - o + i := ⟨j - (8 - o), by omega⟩
      obtain ⟨k1, k2⟩ := check_over o ho i (by omega) hj3
      have er : List.replicate (bs.length + 4 - p - 1) (0 : UInt8) = 0 :: List.replicate (bs.length + 4 - p - 2) 0 := by
        rw [← List.replicate_succ]; congr 1; omega
      rw [hrep, er, fl_over p o ho _ i (by omega)] at hx
      exact burst_no bs.length p (pat o (8 - o)) (pat 0 i) _ (.inr ⟨⟨_, rfl⟩, by omega⟩) (by simp; omega) k1 k2 hx
theorem turned_open (bs : List UInt8) (at' j : Nat) (hj : 1 ≤ j) (hj3 : j ≤ 3) (h : at' + j ≤ 8 * (sealed bs).length) : openE (fl at' j (sealed bs)) = 16 ∧ openR (fl at' j (sealed bs)) = [] := by
  have hl := sealed_length bs
  have hf := fl_length at' j (sealed bs)
  have hn : ¬ (fl at' j (sealed bs)).length < 4 := by omega
  unfold openE openR
  simp only [if_neg hn, turned_no bs at' j hj hj3 h]
  exact ⟨rfl, rfl⟩

theorem mask_mod (r : Nat) (hr : r < 8) : (2 : Int) ^ r % 256 = ((maskB r).toNat : Int) := by
  have : r = 0 ∨ r = 1 ∨ r = 2 ∨ r = 3 ∨ r = 4 ∨ r = 5 ∨ r = 6 ∨ r = 7 := by omega
  rcases this with rfl | rfl | rfl | rfl | rfl | rfl | rfl | rfl <;> decide
theorem xor8 (a b : UInt8) : bits .xor .u8 (a.toNat : Int) (b.toNat : Int) = ((a ^^^ b).toNat : Int) := by
  rw [u8_xor_nat _ _ (by have := a.toNat_lt; omega) (by have := b.toNat_lt; omega), UInt8.toNat_xor]
theorem set_cells (l : List UInt8) (q : Nat) (x : UInt8) : (cellsB l).set q (byteV x) = cellsB (l.set q x) := by
  unfold cellsB; rw [List.map_set]
/-- a store into bytes of one's own -/
theorem OwnB.store {base g n cap : Nat} {w : World} {l : List UInt8} (h : OwnB base w (.slice (some ⟨g, 0, none⟩) n cap) l) (q : Nat) (x : UInt8) : OwnB base (w.setCell ⟨g, q, none⟩ (byteV x)) (.slice (some ⟨g, 0, none⟩) n cap) (l.set q x) := by
  have hn : n = l.length := by obtain ⟨_, _, hv, _⟩ := h.form; cases hv; rfl
  subst hn
  have := World.ownsRow.stored h q (byteV x)
  unfold OwnB
  rw [List.length_set, ← set_cells]
  exact this.1
set_option maxRecDepth 20000 in
set_option maxHeartbeats 3200000 in
theorem walk (v : Value) (bs : List UInt8) (n : Int) (wn : (Lit.int .i64 n).wf = true) (k : Int) (wk : (Lit.int .i64 k).wf = true) (W : World) (hv : BytesArg W v bs) :
    Calls Try.prog 6 #[v, .int .i64 n, .int .i64 k] W fun e w' => e = .returned (.bool true) ∧ Below W.heap.size W w' := by
  obtain ⟨hb, hcap, hlen⟩ := hv
  have _ := wn
  have _ := wk
  clear wn wk
  obtain ⟨ao, m, cap, hvf, hm⟩ : ∃ ao m cap, v = .slice ao m cap ∧ Hid (m = bs.length) := by
    obtain ⟨ao, cap, hv, _⟩ := hb
    exact ⟨ao, _, cap, hv, Lib.hid rfl⟩
  subst hvf
  have hmb : m ≤ 140737488351232 := by rw [hm.out]; exact hlen
  go_enter Try.func6, Try.ntmps6
  go_wp2_with fail
  refine (known_any _).mono ?_
  rintro e w1 ⟨rfl, b1⟩
  go_wp2_with fail
  refine (seal_any (hb.below b1) (by omega)).mono ?_
  rintro e w2 ⟨sv, rfl, h2, b2⟩
  have bb2 := b1.trans (b2.mono b1.size)
  obtain ⟨g, cap2, hv2, hgb, hglt⟩ := World.ownsRow.form h2 (by rw [sealed_length]; omega)
  rw [sealed_length, ← hm.out] at hv2
  subst hv2
  have HSL : Hid ((sealed bs).length = m + 4) := Lib.hid (by rw [sealed_length, hm.out])
  clear b2 hb hcap
  go_wp2
  have hA : ∃ A : Nat, wrap64 ((IntKind.u64.wrap n).tmod (8 * ((m : Int) + 4))) = (A : Int) ∧ A < 8 * (m + 4) := by
    have h : 0 ≤ IntKind.u64.wrap n := by rw [IntKind.wrap_u64]; omega
    rw [Int.tmod_eq_emod_of_nonneg h]
    have h1 := Int.emod_nonneg (IntKind.u64.wrap n) (show 8 * ((m : Int) + 4) ≠ 0 by omega)
    have h2 := Int.emod_lt_of_pos (IntKind.u64.wrap n) (show 0 < 8 * ((m : Int) + 4) by omega)
    refine ⟨(IntKind.u64.wrap n % (8 * ((m : Int) + 4))).toNat, by unfold wrap64; omega, by omega⟩
  have hB : ∃ B : Nat, wrap64 (1 + wrap64 ((IntKind.u64.wrap k).tmod 3)) = (B : Int) ∧ 1 ≤ B ∧ B ≤ 3 := by
    have h : 0 ≤ IntKind.u64.wrap k := by rw [IntKind.wrap_u64]; omega
    rw [Int.tmod_eq_emod_of_nonneg h]
    refine ⟨(1 + IntKind.u64.wrap k % 3).toNat, by unfold wrap64; omega, by omega, by omega⟩
  obtain ⟨A, hAe, hA8⟩ := hA
  obtain ⟨B, hBe, hB1, hB3⟩ := hB
  rw [hAe, hBe]
  clear hAe hBe
  go_loopw [8] (fun iv wr => ∃ j : Nat, j ≤ B ∧ A + j ≤ 8 * (m + 4) ∧ iv = .int .i64 ((A + j : Nat) : Int) ∧ OwnB w1.heap.size wr (.slice (some ⟨g, 0, none⟩) (m + 4) cap2) (fl A j (sealed bs)) ∧ Below W.heap.size W wr ∧ w2.heap.size ≤ wr.heap.size) (fun iv _ => A + B - (intOf iv).toNat)
  case atStart => exact ⟨0, by omega, by omega, rfl, h2, bb2, Nat.le_refl _⟩
  case round =>
    obtain ⟨j, hjB, hj8, rfl, ho, hbel, hws⟩ := hrel
    by_cases hgo : j < B ∧ A + j < 8 * (m + 4)
    · obtain ⟨hj1, hj2⟩ := hgo
      obtain ⟨I, hI⟩ : ∃ I, A + j = I := ⟨_, rfl⟩
      have hq : I / 8 < m + 4 := by omega
      have hfl : (fl A j (sealed bs)).length = m + 4 := by rw [fl_length, HSL.out]
      have ho' : wr.ownsRow w1.heap.size 5 1 (.slice (some ⟨g, 0, none⟩) (m + 4) cap2) (m + 4) (cellsB (fl A j (sealed bs))) := by have h := ho; unfold OwnB at h; rwa [hfl] at h
      have hcell : wr.cell? ⟨g, I / 8, none⟩ = some (.int .u8 (((fl A j (sealed bs)).getD (I / 8) 0).toNat : Int)) := by
        have h0 := World.ownsRow.cellAt ho' (I / 8) (by omega)
        rw [h0]
        simp only [cellsB, List.getElem?_map, List.getElem?_eq_getElem (show I / 8 < (fl A j (sealed bs)).length by omega), Option.map_some, List.getD_eq_getElem?_getD, Option.getD_some]
        rfl
      have hfree := World.ownsRow.frozenAt ho' (I / 8)
      have hbs := (World.ownsRow.stored ho' (I / 8) (byteV ((fl A j (sealed bs)).getD (I / 8) 0 ^^^ maskB (I % 8)))).2
      have hst := OwnB.store ho (I / 8) ((fl A j (sealed bs)).getD (I / 8) 0 ^^^ maskB (I % 8))
      generalize hc : (fl A j (sealed bs)).getD (I / 8) 0 = c at hcell hst hbs
      have hb3 : Below W.heap.size W (wr.setCell ⟨g, I / 8, none⟩ (byteV (c ^^^ maskB (I % 8)))) := hbel.grown hbs hbel.size (fun k hk => by cases hk; have := b1.size; omega)
      have hs3 : w2.heap.size ≤ (wr.setCell ⟨g, I / 8, none⟩ (byteV (c ^^^ maskB (I % 8)))).heap.size := Nat.le_trans hws hbs.size
      clear hbs hbel hws
      have hx : Hid (bits .xor .u8 (c.toNat : Int) ((2 : Int) ^ (I % 8) % 256) = ((c ^^^ maskB (I % 8)).toNat : Int)) := Lib.hid (by rw [mask_mod (I % 8) (by omega)]; exact xor8 c (maskB (I % 8)))
      have HC := Lib.hid hc
      have HST := Lib.hid hst
      clear hc hst ho ho'
      rw [hI]
      go_wp2_with fail
      go_region
      rw [hx.out]
      have HST3 : OwnB w1.heap.size (wr.setCell ⟨g, I / 8, none⟩ (byteV (c ^^^ maskB (I % 8)))).drew (.slice (some ⟨g, 0, none⟩) (m + 4) cap2) (fl A (j + 1) (sealed bs)) := by
        show OwnB w1.heap.size (wr.setCell ⟨g, I / 8, none⟩ (byteV (c ^^^ maskB (I % 8)))) _ (flipAt (fl A j (sealed bs)) (A + j))
        unfold flipAt
        rw [hI, HC.out]; exact HST.out
      have HB3 := hb3.drew
      have HS3 : w2.heap.size ≤ (wr.setCell ⟨g, I / 8, none⟩ (byteV (c ^^^ maskB (I % 8)))).drew.heap.size := hs3
      have eb : Value.int .u8 (((c ^^^ maskB (I % 8)).toNat : Nat) : Int) = byteV (c ^^^ maskB (I % 8)) := rfl
      rw [eb]
      generalize (wr.setCell ⟨g, I / 8, none⟩ (byteV (c ^^^ maskB (I % 8)))).drew = w5 at HST3 HB3 HS3 ⊢
      have HI := Lib.hid hI
      clear hcell hfree hx HST hb3 hs3 eb HC hI
      go_wp2
      go_roundw
      case rel => exact ⟨j + 1, by omega, by have := HI.out; omega, by rw [← HI.out]; go_num, HST3, HB3, HS3⟩
      case measure => have := HI.out; simp [intOf]; omega
    · have hj1 : 1 ≤ j := by omega
      have htn := turned_open bs A j hj1 (by omega) (by rw [HSL.out]; exact hj8)
      have hop := open_any ho.at ho.cap (by rw [fl_length, HSL.out]; omega)
      rw [htn.1, htn.2] at hop
      have hcase : ¬ j < B ∨ (j < B ∧ ¬ A + j < 8 * (m + 4)) := by omega
      clear htn hgo ho
      rcases hcase with hc | ⟨hc, hd⟩
      all_goals
        go_wp2_with fail
        refine hop.mono ?_
        rintro e w6 ⟨v6, rfl, h6, b6⟩
        have bb6 := hbel.trans (b6.mono hbel.size)
        obtain ⟨ao6, m6, cap6, hv6, hm6⟩ := h6.form'
        obtain rfl : m6 = 0 := hm6.out
        subst hv6
        clear hop h6 b6
        go_wp2
        go_ret
        exact ⟨rfl, bb6⟩

/-! ### the row -/
theorem laidOut : laidOutB Try.prog = true := by kernel_rfl
theorem bytesInt : Try.prog.bytesOf 3 = 8 := by kernel_rfl
set_option maxRecDepth 100000 in
theorem lifted (os : Os) (started : os.Started) (H : Type) (enc : TypeId × Value → H) :
    ReturnsInHanded {} Try.checked os 6 .any (Rows.packTurnedSpec.pre6 enc Try.prog Try.f6 Rows.packTurnedRow.domain false) (Rows.packTurnedSpec.post enc Try.prog Try.f6 false true false false) := by
  refine returnsInHanded_of_change_sized (C := Try.checked) own started (by kernel_rfl) Try.func6
    (ChangeSpec.witness6 (enc := enc) (C := Try.checked) false ⟨#[], #[.slice none 0 0, .int .i64 0, .int .i64 0], []⟩ 8 (by kernel_rfl) (by kernel_rfl) (by kernel_rfl) (by kernel_rfl)) ?_
  intro W base args ds gs before hval0 hW hcnd hsz0 _
  have hval : ∀ (j : Nat) t v, Try.f6.params[j]? = some t → args[j]? = some v → Value.okWide Try.prog W .any base t v := hval0
  have hW' := hW
  obtain ⟨p, q, hA0, hV, rfl, hfz, hnd⟩ := hW
  have hA : DataW.TrodAll enc Try.prog W 0 (fun _ => true) true Try.f6.params.toList args.toList ds p := hA0
  have hsz : (DataW.weightsEach Try.prog (Try.f6.params.toList ++ Rows.packTurnedSpec.plain.varTypes Try.prog) (ds ++ gs)).all (· ≤ reachBytes) = true := hsz0
  rw [Try.params6] at hA hval hsz
  obtain ⟨v0, vs0, d0, ds0, p0, q0, hargs, rfl, rfl, h0, r0⟩ := trodAll_cons hA
  obtain ⟨v1, vs1, d1, ds1, p1, q1, rfl, rfl, rfl, h1, r1⟩ := trodAll_cons r0
  obtain ⟨v2, vs2, d2, ds2, p2, q2, rfl, rfl, rfl, h2, r2⟩ := trodAll_cons r1
  obtain ⟨rfl, rfl, rfl⟩ := trodAll_nil r2
  obtain rfl : args = #[v0, v1, v2] := by cases args; simp_all
  obtain ⟨rfl, rfl⟩ := trodVars_none hV
  have k0 := h0
  have lt0 := args_lt k0
  obtain ⟨z0, w0⟩ := bytes_arg Try.underlying23 Try.underlying5 (by kernel_rfl) (hval 0 23 v0 rfl rfl) (fun el sp e => by subst e; have := sized_slice hsz (j := 0) (t := 23) (e := 5) rfl rfl Try.underlying23; rwa [bytesU8] at this) h0
  obtain ⟨a1, rfl, rfl, rfl, w1⟩ := open_int Try.underlying3 (hval 1 3 v1 rfl rfl) h1
  obtain ⟨a2, rfl, rfl, rfl, w2⟩ := open_int Try.underlying3 (hval 2 3 v2 rfl rfl) h2
  clear hA0 hval0 hsz0
  refine (walk v0 z0 a1 w1 a2 w2 W w0).mono fun e W' ⟨he, bel⟩ => ?_
  subst he
  exact ⟨_, rfl, _, _, _, [], _, [], hW', trodAll_mk1 (shut_bool Try.underlying4 _), (trodAll_cons_mk (Below.trod laidOut (by kernel_rfl) (of_decide_eq_true (by kernel_rfl)) k0 bel lt0) (trodAll_cons_mk (shut_int Try.underlying3 w1) (trodAll_cons_mk (shut_int Try.underlying3 w2) trodAll_mk0))), rfl, bel.frame _, fun h => by cases h⟩

theorem over : Rows.packTurnedRow.holds Try.pinned (OpenSpec.ofChange Rows.packTurnedSpec) :=
  OpenClaim.holds_of_wide 6 Try.f6 rfl rfl rfl rfl rfl rfl rfl ⟨rfl, rfl, rfl, rfl, rfl⟩ rfl rfl rfl rfl rfl (by kernel_rfl) Try.func6 (by kernel_rfl)
    (of_decide_eq_true (by kernel_rfl)) (by unfold Func.isWrapper; first | (rw [if_pos (by decide +kernel)]; kernel_rfl) | (rw [if_neg (by decide +kernel)]; exact ⟨rfl, rfl⟩))
    (fun os started H enc _ => lifted os started H enc)
end Go.Proofs.Ytifbfnfcjkpjfaa.packTurned

namespace Go.Proofs.Ytifbfnfcjkpjfaa
/-- The law returns true at every input. -/
theorem packTurned_holds : Rows.PackTurnedSaid := packTurned.over
end Go.Proofs.Ytifbfnfcjkpjfaa

