/- The contracts of the document's own little, number, DocFrame, DocUnframe. No statement of the seat is proved here. -/
import Derived.Test.YtmkomhdlcbimoaaPArgs
import Derived.Test.YtmkomhdlcbimoaaPSteps
namespace Go.Proofs.Ytmkomhdlcbimoaa
set_option maxRecDepth 20000
open Go.RowKit

theorem low_wrap (n k : Nat) : IntKind.u8.wrap ((n / 2 ^ (8 * k) : Nat) : Int) = ((lowB n k).toNat : Int) := by
  unfold lowB
  rw [IntKind.wrap_u8, UInt8.toNat_ofNat']; omega
theorem div_next (n k : Nat) : n / 2 ^ (8 * k) / 256 = n / 2 ^ (8 * (k + 1)) := by
  rw [Nat.div_div_eq_div_mul, show 8 * (k + 1) = 8 * k + 8 by omega, Nat.pow_add]
set_option maxHeartbeats 800000 in
theorem little_any (n c : Nat) (hn : n < 18446744073709551616) (hc : c ≤ 8) (w : World) :
    Calls Try.prog 66 #[.int .u64 n, .int .i64 c] w fun e w' => e = .returned (.string (strOf (low n c))) ∧ Below w.heap.size w w' := by
  go_enter Try.func66, Try.ntmps66
  go_wp2
  go_loopw [0, 5, 6] (fun nv bv iv wr => ∃ k : Nat, k ≤ c ∧ iv = .int .i64 k ∧ nv = .int .u64 ((n / 2 ^ (8 * k) : Nat) : Int) ∧ OwnB w.heap.size wr bv (low n k) ∧ Below w.heap.size w wr) (fun _ _ iv _ => c - (intOf iv).toNat)
  case atStart => exact ⟨0, Nat.zero_le _, rfl, by simp, OwnB.nil _ _, Below.refl _ _⟩
  case round =>
    obtain ⟨k, hk, rfl, rfl, ho, hbel⟩ := hrel
    obtain ⟨bo, m, bc, hform, hm⟩ := ho.form'
    by_cases hlt : k < c
    · have hs := low_wrap n k
      have hd := div_next n k
      have hlt64 : n / 2 ^ (8 * k) < 18446744073709551616 := Nat.lt_of_le_of_lt (Nat.div_le_self _ _) hn
      generalize n / 2 ^ (8 * k) = q at hs hd hlt64 ⊢
      have HD := Lib.hid hd
      have hx := bytes_one wr (lowB n k)
      obtain ⟨v', w', hr, ho', hb', hsz, -⟩ := own_append (ho.alloc (.cells #[.int .u8 ((lowB n k).toNat : Int)] 5)) hx (by rw [low_length]; simp; omega) (by have := hbel.size; simp; omega) 36
      rw [← low_succ] at ho'
      have HB := (hbel.alloc (by have := hbel.size; omega) (.cells #[.int .u8 ((lowB n k).toNat : Int)] 5)).trans hb'
      have HR := Lib.hid hr
      obtain ⟨bo', m', bc', hform', hm'⟩ := ho'.form'
      subst hform'
      clear hr hx ho hb' hsz hbel hd
      subst hform
      go_wp2_with (with_reducible refine wpList_append_eq rfl (.tmp 12) (.tmp 15) 36 36 rfl (.slice bo m bc) (.slice (some ⟨wr.heap.size, 0, none⟩) 1 1) (.slice bo' m' bc') rfl rfl HR.out ?_)
      go_roundw
      case rel => exact ⟨k + 1, by omega, by go_num, by rw [← HD.out]; rfl, ho', HB⟩
      case measure => simp [intOf]; omega
    · have hst := run_string ho
      subst hform
      have hkc : Hid (k = c) := Lib.hid (by omega)
      clear ho
      go_wp2
      go_ret
      exact ⟨by rw [← hkc.out]; rfl, hbel⟩

theorem le_drop (l : List UInt8) (k : Nat) (h : k < l.length) : le (l.drop k) = byteAt l k + 256 * le (l.drop (k + 1)) := by
  rw [List.drop_eq_getElem_cons h]
  simp only [le]
  congr 1
  unfold byteAt
  rw [List.getD_eq_getElem?_getD, List.getElem?_eq_getElem h]; rfl
theorem le_drop_lt (l : List UInt8) (k : Nat) (h : l.length ≤ 8) : le (l.drop k) < 18446744073709551616 := by
  have h1 := le_lt (l.drop k)
  have h2 : (2 : Nat) ^ (8 * (l.drop k).length) ≤ 2 ^ 64 := Nat.pow_le_pow_right (by decide) (by rw [List.length_drop]; omega)
  have e : (2 : Nat) ^ 64 = 18446744073709551616 := by decide
  omega
theorem byte_get (s : ByteArray) (k : Nat) (h : k < s.size) : s[k].toNat = byteAt s.data.toList k := by
  unfold byteAt
  rw [List.getD_eq_getElem?_getD, Array.getElem?_toList, Array.getElem?_eq_getElem h]; rfl
set_option maxHeartbeats 800000 in
theorem number_any (s : ByteArray) (hs : s.size ≤ 8) (w : World) : Calls Try.prog 56 #[.string s] w fun e w' => e = .returned (.int .u64 (le s.data.toList)) ∧ w = w' := by
  have hlen : s.data.toList.length = s.size := by rw [Array.length_toList]; rfl
  go_enter Try.func56, Try.ntmps56
  go_wp2
  go_loop [3, 4] (fun nv iv => ∃ k : Nat, k ≤ s.size ∧ iv = .int .i64 ((k : Int) - 1) ∧ nv = .int .u64 (le (s.data.toList.drop k))) (fun _ iv => (intOf iv + 1).toNat)
  case atStart => exact ⟨s.size, Nat.le_refl _, rfl, by rw [List.drop_of_length_le (by omega)]; rfl⟩
  case round =>
    obtain ⟨k, hk, rfl, rfl⟩ := hrel
    by_cases h0 : 0 < k
    · obtain ⟨j, rfl⟩ : ∃ j, k = j + 1 := ⟨k - 1, by omega⟩
      have e1 : (((j + 1 : Nat) : Int) - 1) = (j : Int) := by omega
      rw [e1]
      have hj : j < s.size := by omega
      have hg := byte_get s j hj
      have hd := le_drop s.data.toList j (by omega)
      have h1 := le_drop_lt s.data.toList (j + 1) (by omega)
      have h2 := le_drop_lt s.data.toList j (by omega)
      generalize le (s.data.toList.drop (j + 1)) = q at hd h1 ⊢
      have hb := byteAt_le s.data.toList j
      generalize byteAt s.data.toList j = c at hg hd hb
      have HD := Lib.hid hd
      have hq : c + 256 * q < 18446744073709551616 := by rw [← HD.out]; exact h2
      clear hd h2
      go_wp2
      go_round
      case rel => exact ⟨j, by omega, rfl, by rw [HD.out]; congr 1; omega⟩
      case measure => first | (simp [intOf]; done) | (simp [intOf]; omega)
    · have hk0 : k = 0 := by omega
      subst hk0
      go_wp2
      go_ret
      exact ⟨rfl, rfl⟩

section
variable {P : Program} {md : Region.Mode} {ops : Array Oper} {Q : Exit → Act → World → Prop} {S : World → Prop} {fuel : Nat} {L : Array Bool} {a : Act} {w : World}
/-- a call and another operation may come in either order -/
theorem wpAnyH_call_or (i j : Nat) (di dj : Option Tmp) (f : FuncId) (args : Array Value) (vj : Value) {w2 : World} {oi oj : Oper} (hi : ops[i]? = some oi) (hj : ops[j]? = some oj) (hr : Region.ready md ops L = [i, j])
    (hwi : Region.wanted oi (yielded ops a.tmps) = true) (hwj : Region.wanted oj (yielded ops a.tmps) = true) (hdi : oi.dst = di) (hdj : oj.dst = dj) (hyi : (execOp a.eval oi).run P w = .ok (.enter f args) w) {R : Ending → World → Prop} (hc : Calls P f args w R)
    (hyj : (execOp a.eval oj).run P w = .ok (.value vj) w2) (hS2 : S w2)
    (h1 : ∀ e w1, R e w1 → ∃ v, e = .returned v ∧ S w1 ∧ wpAnyH P md ops Q S fuel (L.setIfInBounds i true) (a.put di v) w1) (h2 : wpAnyH P md ops Q S fuel (L.setIfInBounds j true) (a.put dj vj) w2) : wpAnyH P md ops Q S (fuel + 1) L a w := by
  subst hdi
  subst hdj
  refine wpAnyH_ready hr (by simp) (AllReadyH.cons hi (fun K hK => ?_) (AllReadyH.cons hj (fun K hK => ?_) AllReadyH.nil))
  · rw [if_pos hwi]
    unfold Oper.wp
    rw [hyi, Oper.upon_enter]
    refine hc.mono fun e w1 hR => ?_
    obtain ⟨v, rfl, hS, h3⟩ := h1 e w1 hR
    exact hK.out _ _ hS (fun _ => h3)
  · rw [if_pos hwj]
    unfold Oper.wp
    rw [hyj]; exact hK.out _ _ hS2 (fun _ => h2)
theorem exec_stradd {ρ : Operand → Value} {o : Oper} {t t' : TypeId} {x y : Operand} {r s : ByteArray} (ho : o.op = .binOp .add t x y t') (hx : ρ x = .string r) (hy : ρ y = .string s) (hb : r.size + s.size ≤ 9223372036854775807) : (execOp ρ o).run P w = .ok (.value (.string (r ++ s))) w := by
  unfold execOp
  simp only [ho, hx, hy, Sem.run_bind]
  have e1 : (eqGuard .add t x y (.string r) (.string s)).run P w = .ok () w := by simp [eqGuard]
  have e2 : (binOp .add t (.string r) (.string s)).run P w = .ok (.string (r ++ s)) w := by
    simp only [binOp]; exact run_string_add_sum (P := P) (w := w) r s hb
  rw [e1, Result.andThen_ok, e2]; rfl
theorem exec_mk {ρ : Operand → Value} {o : Oper} {t : TypeId} {l c : Operand} {n : Int} {v : Value} {w1 : World} (ho : o.op = .makeSlice t l c) (hl : ρ l = .int .i64 n) (hc : ρ c = .int .i64 n) (hrun : (Instr.makeSlice t (.int .i64 n) (.int .i64 n)).run P w = .ok v w1) : (execOp ρ o).run P w = .ok (.value v) w1 := by
  unfold execOp
  simp [ho, hl, hc, hrun]
end
theorem made_zeros (n : Nat) : (madeCells (Value.int .u8 0).cells (n * 1)).toList = cellsB (List.replicate n 0) := by
  rw [← zerosV_cells, Nat.mul_one]
  unfold madeCells zerosV
  have hz : (Value.int IntKind.u8 0).cells = #[.int .u8 0] := rfl
  rw [hz]
  apply List.ext_getElem
  · simp
  · intro i h1 h2
    simp [Nat.mod_one]
/-- 'make([]byte, n)' -/
theorem run_zeros (w : World) (n : Nat) (h : n ≤ 60000) : ∃ w', (Instr.makeSlice 36 (.int .i64 (n : Int)) (.int .i64 (n : Int))).run Try.prog w = .ok (.slice (some ⟨w.heap.size, 0, none⟩) n n) w' ∧ OwnB w.heap.size w' (.slice (some ⟨w.heap.size, 0, none⟩) n n) (List.replicate n 0) ∧ Below w.heap.size w w' := by
  obtain ⟨i, hi, hi0, hi1, hi2⟩ := info5'
  obtain ⟨w', hr, ho, hg⟩ := run_make_full (P := Try.prog) w w.heap.size 36 5 i (.int .u8 0) 1 Try.underlying36 hi hi0 hi1 .i64 .i64 n (by rw [hi2]; omega) (by unfold maxLen; omega) (Nat.le_refl _)
  refine ⟨w', hr, ?_, (Below.refl _ _).grown hg (Nat.le_refl _) (by simp)⟩
  rw [made_zeros] at ho
  unfold OwnB
  rw [List.length_replicate]; exact ho
theorem strOf_append (a b : List UInt8) : strOf (a ++ b) = strOf a ++ strOf b := by
  unfold strOf
  apply WideShapes.bytes_inj
  simp
theorem strOf_size (a : List UInt8) : (strOf a).size = a.length := by show (List.toArray a).size = _; simp
def StrRetE (w : World) (s : ByteArray) (er : Int) (e : Ending) (w' : World) : Prop := e = .returned (.tuple #[.string s, .int .i64 er]) ∧ Below w.heap.size w w'
set_option maxRecDepth 20000 in
set_option maxHeartbeats 3200000 in
theorem docFrame_any (bs : List UInt8) (hbs : bs.length ≤ 140737488355328) (size : Int) (w : World) : Calls Try.prog 50 #[.string (strOf bs), .int .i64 size] w (StrRetE w (strOf (frameR bs size)) (frameE bs.length size)) := by
  have hsz := strOf_size bs
  generalize hs : strOf bs = s at hsz
  have HS := Lib.hid hs
  have HSZ := Lib.hid hsz
  have hs9 : s.size ≤ 140737488355328 := by rw [hsz]; exact hbs
  rw [← hsz]
  clear hs hsz
  by_cases c1 : size < 2
  · have e0 : frameE s.size size = 1 := by unfold frameE; rw [if_pos (.inl c1)]
    unfold frameR; rw [← HSZ.out, e0, if_neg (by decide)]
    clear e0
    go_enter Try.func50, Try.ntmps50
    go_wp2
    go_ret2
    exact ⟨rfl, Below.refl _ _⟩
  · by_cases c2 : 60000 < size
    · have e0 : frameE s.size size = 1 := by unfold frameE; rw [if_pos (.inr c2)]
      unfold frameR; rw [← HSZ.out, e0, if_neg (by decide)]
      clear e0
      go_enter Try.func50, Try.ntmps50
      go_wp2
      go_ret2
      exact ⟨rfl, Below.refl _ _⟩
    · by_cases c3 : size - 2 < (s.size : Int)
      · have e0 : frameE s.size size = 14 := by unfold frameE; rw [if_neg (by omega), if_pos c3]
        unfold frameR; rw [← HSZ.out, e0, if_neg (by decide)]
        clear e0
        go_enter Try.func50, Try.ntmps50
        go_wp2
        go_ret2
        exact ⟨rfl, Below.refl _ _⟩
      · have e0 : frameE s.size size = 0 := by unfold frameE; rw [if_neg (by omega), if_neg c3]
        unfold frameR; rw [← HSZ.out, e0, if_pos rfl]
        clear e0
        obtain ⟨S, rfl⟩ := Int.eq_ofNat_of_zero_le (show 0 ≤ size by omega)
        have hS6 : S ≤ 60000 := by omega
        have hsS : s.size + 2 ≤ S := by omega
        have HF : Hid (strOf (frameB bs (S : Int)) = strOf (low s.size 2) ++ s ++ strOf (List.replicate (S - 2 - s.size) 0)) := Lib.hid (by
          unfold frameB
          rw [strOf_append, strOf_append, HS.out, HSZ.out]
          congr 3
          rw [← HSZ.out]; simp; omega)
        have hw0 : IntKind.u64.wrap ((s.size : Nat) : Int) = s.size := wrap_nat _ (by omega)
        have hwa : IntKind.i64.wrap ((S : Int) - 2) = (S : Int) - 2 := by rw [IntKind.wrap_i64]; omega
        have hwb : IntKind.i64.wrap ((S : Int) - 2 - s.size) = ((S - 2 - s.size : Nat) : Int) := by rw [IntKind.wrap_i64]; omega
        have hl2 : (strOf (low s.size 2)).size = 2 := by rw [strOf_size, low_length]
        have hA : (strOf (low s.size 2)).size + s.size ≤ 9223372036854775807 := by omega
        have hB : (strOf (low s.size 2) ++ s).size + (strOf (List.replicate (S - 2 - s.size) 0)).size ≤ 9223372036854775807 := by
          rw [ByteArray.size_append, strOf_size (List.replicate _ _), List.length_replicate]; omega
        go_enter Try.func50, Try.ntmps50
        go_wp2_with fail
        have hS : Below w.heap.size w w.drew := (Below.refl _ _).drew
        refine wp_region_held_drew (S := fun w' => Below w.heap.size w w') mixed hS (fun _ => ?_)
        show wpAnyH _ _ _ _ _ 16 (Array.replicate 16 false) _ _
        refine wpAnyH_take_d 0 (some 17) (.string s) rfl (by kernel_rfl) (by kernel_rfl) (by kernel_rfl) (by kernel_rfl) rfl (fun _ _ _ h => h) (fun _ _ => by kernel_rfl) (by exact hS) ?_
        simp only [Act.put, List.setIfInBounds_toArray, List.set_cons_succ, List.set_cons_zero]
        refine wpAnyH_take_d 1 (some 18) (.int .i64 (s.size : Nat)) rfl (by kernel_rfl) (by kernel_rfl) (by kernel_rfl) (by kernel_rfl) rfl (fun _ _ _ h => h) (fun _ _ => by kernel_rfl) (by exact hS) ?_
        simp only [Act.put, List.setIfInBounds_toArray, List.set_cons_succ, List.set_cons_zero]
        refine wpAnyH_take_d 2 (some 19) (.int .u64 (s.size : Nat)) rfl (by kernel_rfl) (by kernel_rfl) (by kernel_rfl) (by kernel_rfl) rfl (fun _ _ _ h => h) (fun w' h => exec_convert rfl rfl (by simp [go_sem, hw0])) (by exact hS) ?_
        simp only [Act.put, List.setIfInBounds_toArray, List.set_cons_succ, List.set_cons_zero]
        refine wpAnyH_take_d 4 (some 21) (.string s) rfl (by kernel_rfl) (by kernel_rfl) (by kernel_rfl) (by kernel_rfl) rfl (fun _ _ _ h => h) (fun _ _ => by kernel_rfl) (by exact hS) ?_
        simp only [Act.put, List.setIfInBounds_toArray, List.set_cons_succ, List.set_cons_zero]
        refine wpAnyH_take_d 6 (some 23) (.int .i64 (S : Nat)) rfl (by kernel_rfl) (by kernel_rfl) (by kernel_rfl) (by kernel_rfl) rfl (fun _ _ _ h => h) (fun _ _ => by kernel_rfl) (by exact hS) ?_
        simp only [Act.put, List.setIfInBounds_toArray, List.set_cons_succ, List.set_cons_zero]
        refine wpAnyH_take_d 7 (some 24) (.int .i64 (IntKind.i64.wrap ((S : Int) - 2))) rfl (by kernel_rfl) (by kernel_rfl) (by kernel_rfl) (by kernel_rfl) rfl (fun _ _ _ h => h) (fun _ _ => by kernel_rfl) (by exact hS) ?_
        simp only [Act.put, List.setIfInBounds_toArray, List.set_cons_succ, List.set_cons_zero]
        refine wpAnyH_take_d 8 (some 25) (.string s) rfl (by kernel_rfl) (by kernel_rfl) (by kernel_rfl) (by kernel_rfl) rfl (fun _ _ _ h => h) (fun _ _ => by kernel_rfl) (by exact hS) ?_
        simp only [Act.put, List.setIfInBounds_toArray, List.set_cons_succ, List.set_cons_zero]
        refine wpAnyH_take_d 9 (some 26) (.int .i64 (s.size : Nat)) rfl (by kernel_rfl) (by kernel_rfl) (by kernel_rfl) (by kernel_rfl) rfl (fun _ _ _ h => h) (fun _ _ => by kernel_rfl) (by exact hS) ?_
        simp only [Act.put, List.setIfInBounds_toArray, List.set_cons_succ, List.set_cons_zero]
        refine wpAnyH_take_d 10 (some 27) (.int .i64 (IntKind.i64.wrap (IntKind.i64.wrap ((S : Int) - 2) - s.size))) rfl (by kernel_rfl) (by kernel_rfl) (by kernel_rfl) (by kernel_rfl) rfl (fun _ _ _ h => h) (fun _ _ => by kernel_rfl) (by exact hS) ?_
        simp only [Act.put, List.setIfInBounds_toArray, List.set_cons_succ, List.set_cons_zero]
        rw [hwa, hwb]
        obtain ⟨wz, hrz, hoz, hbz⟩ := run_zeros w.drew (S - 2 - s.size) (by omega)
        have hSz : Below w.heap.size w wz := ((Below.refl _ _).drew).trans hbz
        refine wpAnyH_call_or 3 11 (some 20) (some 28) 66 #[.int .u64 (s.size : Nat), .int .i64 2] (.slice (some ⟨w.drew.heap.size, 0, none⟩) (S - 2 - s.size) (S - 2 - s.size)) rfl rfl (by kernel_rfl) (by kernel_rfl) (by kernel_rfl) rfl rfl (by kernel_rfl) (little_any s.size 2 (by omega) (by decide) w.drew) (exec_mk rfl rfl rfl hrz) hSz ?_ ?_
        · rintro e w1 ⟨rfl, b1⟩
          have hS : Below w.heap.size w w1 := ((Below.refl _ _).drew).trans b1
          refine ⟨_, rfl, hS, ?_⟩
          simp only [Act.put, List.setIfInBounds_toArray, List.set_cons_succ, List.set_cons_zero]
          refine wpAnyH_take_d 5 (some 22) (.string (strOf (low s.size 2) ++ s)) rfl (by kernel_rfl) (by kernel_rfl) (by kernel_rfl) (by kernel_rfl) rfl (fun _ _ _ h => h) (fun w' h => exec_stradd rfl rfl rfl hA) (by exact hS) ?_
          simp only [Act.put, List.setIfInBounds_toArray, List.set_cons_succ, List.set_cons_zero]
          obtain ⟨w2, hr2, ho2, hb2⟩ := run_zeros w1 (S - 2 - s.size) (by omega)
          have hS : Below w.heap.size w w2 := hS.trans (hb2.mono hS.size)
          refine wpAnyH_one 11 (some 28) (.slice (some ⟨w1.heap.size, 0, none⟩) (S - 2 - s.size) (S - 2 - s.size)) rfl (by kernel_rfl) (by kernel_rfl) rfl (exec_mk rfl rfl rfl hr2) (by exact hS) ?_
          simp only [Act.put, List.setIfInBounds_toArray, List.set_cons_succ, List.set_cons_zero]
          refine wpAnyH_one 12 (some 29) (.string (strOf (List.replicate (S - 2 - s.size) 0))) rfl (by kernel_rfl) (by kernel_rfl) rfl (exec_convert rfl rfl (run_string ho2)) (by exact hS) ?_
          simp only [Act.put, List.setIfInBounds_toArray, List.set_cons_succ, List.set_cons_zero]
          refine wpAnyH_take_d 13 (some 30) (.string (strOf (low s.size 2) ++ s ++ strOf (List.replicate (S - 2 - s.size) 0))) rfl (by kernel_rfl) (by kernel_rfl) (by kernel_rfl) (by kernel_rfl) rfl (fun _ _ _ h => h) (fun w' h => exec_stradd rfl rfl rfl hB) (by exact hS) ?_
          simp only [Act.put, List.setIfInBounds_toArray, List.set_cons_succ, List.set_cons_zero]
          refine wpAnyH_take_d 14 (some 4) (.string (strOf (low s.size 2) ++ s ++ strOf (List.replicate (S - 2 - s.size) 0))) rfl (by kernel_rfl) (by kernel_rfl) (by kernel_rfl) (by kernel_rfl) rfl (fun _ _ _ h => h) (fun _ _ => by kernel_rfl) (by exact hS) ?_
          simp only [Act.put, List.setIfInBounds_toArray, List.set_cons_succ, List.set_cons_zero]
          refine wpAnyH_take_d 15 (some 5) (.int .i64 0) rfl (by kernel_rfl) (by kernel_rfl) (by kernel_rfl) (by kernel_rfl) rfl (fun _ _ _ h => h) (fun _ _ => by kernel_rfl) (by exact hS) ?_
          simp only [Act.put, List.setIfInBounds_toArray, List.set_cons_succ, List.set_cons_zero]
          refine wpAnyH_done (by kernel_rfl) ?_ _
          go_wp2
          go_ret2
          refine ⟨?_, hS⟩
          rw [HF.out]; rfl
        · have hS := hSz
          simp only [Act.put, List.setIfInBounds_toArray, List.set_cons_succ, List.set_cons_zero]
          refine wpAnyH_call_or 3 12 (some 20) (some 29) 66 #[.int .u64 (s.size : Nat), .int .i64 2] (.string (strOf (List.replicate (S - 2 - s.size) 0))) rfl rfl (by kernel_rfl) (by kernel_rfl) (by kernel_rfl) rfl rfl (by kernel_rfl) (little_any s.size 2 (by omega) (by decide) wz) (exec_convert rfl rfl (run_string hoz)) hSz ?_ ?_
          · rintro e w1 ⟨rfl, b1⟩
            have hS : Below w.heap.size w w1 := hSz.trans (b1.mono hSz.size)
            refine ⟨_, rfl, hS, ?_⟩
            simp only [Act.put, List.setIfInBounds_toArray, List.set_cons_succ, List.set_cons_zero]
            refine wpAnyH_take_d 5 (some 22) (.string (strOf (low s.size 2) ++ s)) rfl (by kernel_rfl) (by kernel_rfl) (by kernel_rfl) (by kernel_rfl) rfl (fun _ _ _ h => h) (fun w' h => exec_stradd rfl rfl rfl hA) (by exact hS) ?_
            simp only [Act.put, List.setIfInBounds_toArray, List.set_cons_succ, List.set_cons_zero]
            refine wpAnyH_one 12 (some 29) (.string (strOf (List.replicate (S - 2 - s.size) 0))) rfl (by kernel_rfl) (by kernel_rfl) rfl (exec_convert rfl rfl (run_string_c (hoz.at.below b1))) (by exact hS) ?_
            simp only [Act.put, List.setIfInBounds_toArray, List.set_cons_succ, List.set_cons_zero]
            refine wpAnyH_take_d 13 (some 30) (.string (strOf (low s.size 2) ++ s ++ strOf (List.replicate (S - 2 - s.size) 0))) rfl (by kernel_rfl) (by kernel_rfl) (by kernel_rfl) (by kernel_rfl) rfl (fun _ _ _ h => h) (fun w' h => exec_stradd rfl rfl rfl hB) (by exact hS) ?_
            simp only [Act.put, List.setIfInBounds_toArray, List.set_cons_succ, List.set_cons_zero]
            refine wpAnyH_take_d 14 (some 4) (.string (strOf (low s.size 2) ++ s ++ strOf (List.replicate (S - 2 - s.size) 0))) rfl (by kernel_rfl) (by kernel_rfl) (by kernel_rfl) (by kernel_rfl) rfl (fun _ _ _ h => h) (fun _ _ => by kernel_rfl) (by exact hS) ?_
            simp only [Act.put, List.setIfInBounds_toArray, List.set_cons_succ, List.set_cons_zero]
            refine wpAnyH_take_d 15 (some 5) (.int .i64 0) rfl (by kernel_rfl) (by kernel_rfl) (by kernel_rfl) (by kernel_rfl) rfl (fun _ _ _ h => h) (fun _ _ => by kernel_rfl) (by exact hS) ?_
            simp only [Act.put, List.setIfInBounds_toArray, List.set_cons_succ, List.set_cons_zero]
            refine wpAnyH_done (by kernel_rfl) ?_ _
            go_wp2
            go_ret2
            refine ⟨?_, hS⟩
            rw [HF.out]; rfl
          · have hS := hSz
            simp only [Act.put, List.setIfInBounds_toArray, List.set_cons_succ, List.set_cons_zero]
            refine wpAnyH_call 3 (some 20) 66 #[.int .u64 (s.size : Nat), .int .i64 2] rfl (by kernel_rfl) (by kernel_rfl) rfl (by kernel_rfl) (little_any s.size 2 (by omega) (by decide) wz) ?_
            rintro e w1 ⟨rfl, b1⟩
            have hS : Below w.heap.size w w1 := hSz.trans (b1.mono hSz.size)
            refine ⟨_, rfl, hS, ?_⟩
            simp only [Act.put, List.setIfInBounds_toArray, List.set_cons_succ, List.set_cons_zero]
            refine wpAnyH_take_d 5 (some 22) (.string (strOf (low s.size 2) ++ s)) rfl (by kernel_rfl) (by kernel_rfl) (by kernel_rfl) (by kernel_rfl) rfl (fun _ _ _ h => h) (fun w' h => exec_stradd rfl rfl rfl hA) (by exact hS) ?_
            simp only [Act.put, List.setIfInBounds_toArray, List.set_cons_succ, List.set_cons_zero]
            refine wpAnyH_take_d 13 (some 30) (.string (strOf (low s.size 2) ++ s ++ strOf (List.replicate (S - 2 - s.size) 0))) rfl (by kernel_rfl) (by kernel_rfl) (by kernel_rfl) (by kernel_rfl) rfl (fun _ _ _ h => h) (fun w' h => exec_stradd rfl rfl rfl hB) (by exact hS) ?_
            simp only [Act.put, List.setIfInBounds_toArray, List.set_cons_succ, List.set_cons_zero]
            refine wpAnyH_take_d 14 (some 4) (.string (strOf (low s.size 2) ++ s ++ strOf (List.replicate (S - 2 - s.size) 0))) rfl (by kernel_rfl) (by kernel_rfl) (by kernel_rfl) (by kernel_rfl) rfl (fun _ _ _ h => h) (fun _ _ => by kernel_rfl) (by exact hS) ?_
            simp only [Act.put, List.setIfInBounds_toArray, List.set_cons_succ, List.set_cons_zero]
            refine wpAnyH_take_d 15 (some 5) (.int .i64 0) rfl (by kernel_rfl) (by kernel_rfl) (by kernel_rfl) (by kernel_rfl) rfl (fun _ _ _ h => h) (fun _ _ => by kernel_rfl) (by exact hS) ?_
            simp only [Act.put, List.setIfInBounds_toArray, List.set_cons_succ, List.set_cons_zero]
            refine wpAnyH_done (by kernel_rfl) ?_ _
            go_wp2
            go_ret2
            refine ⟨?_, hS⟩
            rw [HF.out]; rfl
end Go.Proofs.Ytmkomhdlcbimoaa
