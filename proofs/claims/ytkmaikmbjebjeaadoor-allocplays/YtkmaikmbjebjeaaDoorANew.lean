/- The contracts of Copy, New. No statement of the seat is proved here. -/
import Derived.Test.YtkmaikmbjebjeaaDoorAMeth3
namespace Go.Proofs.YtkmaikmbjebjeaaDoor
set_option maxRecDepth 20000
open Go.RowKit

def Z130 : Array Value := (Value.int .i64 0 :: (List.replicate 128 (Value.int .u64 0) ++ [.int .i64 0])).toArray
theorem zero130 (w : World) : (zeroValue 51).run Tryd.prog w = .ok (.agg Z130) w := by kernel_rfl
theorem szAlloc : (Tryd.prog.info? 51).map (·.size) = some 130 := by kernel_rfl
theorem Z130_size : Z130.size = 130 := by decide +kernel
set_option maxHeartbeats 400000 in
theorem copy_nil (w : World) : Calls Tryd.prog 12 #[.pointer none] w fun e w' => e = .returned (.pointer none) ∧ w = w' := by
  go_enter Tryd.func12, Tryd.ntmps12
  go_wp2
  go_ret
  exact ⟨rfl, rfl⟩
set_option maxHeartbeats 400000 in
theorem free_nil (w : World) : Calls Tryd.prog 10 #[.pointer none] w fun e w' => e = .returned (.int .i64 0) ∧ w = w' := by
  go_enter Tryd.func10, Tryd.ntmps10
  go_wp2
  go_ret
  exact ⟨rfl, rfl⟩
set_option maxHeartbeats 400000 in
theorem give_nil (w : World) (b : Int) : Calls Tryd.prog 11 #[.pointer none, .int .i64 b] w fun e w' => e = .returned (.int .i64 1) ∧ w = w' := by
  have hi := is_nil w b
  go_enter Tryd.func11, Tryd.ntmps11
  go_wp2_with fail
  refine Calls.mono hi ?_
  rintro e _ ⟨rfl, rfl⟩
  go_wp2
  go_ret
  exact ⟨rfl, rfl⟩
theorem al_one {cs : Array Value} {n k : Nat} {u l : Nat → Bool} (hs : cs.size = 130) (h0 : cs[0]? = some (.int .i64 (n : Nat))) (h1 : SetIn cs 1 u) (h2 : SetIn cs 65 l) (h3 : cs[129]? = some (.int .i64 (k : Nat))) : cs.all (·.oneCell') = true := by
  rw [Array.all_eq_true_iff_forall_mem]
  intro v hv
  obtain ⟨i, hi, e⟩ := Array.getElem_of_mem hv
  have e' : cs[i]? = some v := by rw [Array.getElem?_eq_getElem hi, e]
  by_cases c0 : i = 0
  · subst c0; rw [h0] at e'; cases e'; rfl
  · by_cases c1 : i < 65
    · have := h1 (i - 1) (by omega)
      rw [show 1 + (i - 1) = i by omega, e'] at this; cases this; rfl
    · by_cases c2 : i < 129
      · have := h2 (i - 65) (by omega)
        rw [show 65 + (i - 65) = i by omega, e'] at this; cases this; rfl
      · obtain rfl : i = 129 := by omega
        rw [h3] at e'; cases e'; rfl
def CopyPost (w : World) (A : Al) (e : Ending) (w' : World) : Prop := ∃ cb, e = .returned (.pointer (some ⟨cb, 0, none⟩)) ∧ w.heap.size ≤ cb ∧ AlAt w' cb A ∧ Below w.heap.size w w'
set_option maxRecDepth 20000 in
set_option maxHeartbeats 1600000 in
theorem copy_any {w : World} {ab : Nat} {A : Al} (h : AlAt w ab A) : Calls Tryd.prog 12 #[.pointer (some ⟨ab, 0, none⟩)] w (CopyPost w A) := by
  obtain ⟨cs, hc, hs, hr⟩ := h
  have h1 := al_one hs hr.1 hr.2.1 hr.2.2.1 hr.2.2.2
  have hlt := lt_of_heap hc
  have hz := zero130 w
  have hzs := Z130_size
  have HI : Hid ((Tryd.prog.info? 51).map (·.size) = some cs.size) := Lib.hid (by rw [hs]; exact szAlloc)
  have HS := Lib.hid (show Z130.size = cs.size by rw [hs]; exact Z130_size)
  have HZ := Lib.hid hz
  have H1 := Lib.hid h1
  have HR := Lib.hid hr
  have HSZ := Lib.hid hs
  have HC := Lib.hid hc
  clear hr hz hzs h1 hs hc
  generalize Z130 = Z at *
  go_enter Tryd.func12, Tryd.ntmps12
  go_wp2_with (first | (with_reducible refine wpList_load_row rfl 51 (.tmp 7) rfl ab rfl 51 cs (0, 0) _ HC.out Tryd.underlying51 rfl HI.out ?_) | (with_reducible refine wpList_alloc_row rfl 51 rfl Z HZ.out ?_))
  intro w1 hg1 hb1 hs1
  go_wp2_with (with_reducible refine wpList_store_row rfl 51 (.tmp 3) (.tmp 8) rfl w.heap.size 51 Z cs rfl rfl hg1 HI.out HS.out H1.out ?_)
  intro w2 hg2 hgr hs2
  have hb2 : Below w.heap.size w w2 := hb1.grown hgr (by omega) (fun k e => by cases e; exact Nat.le_refl _)
  have FIN : Hid (CopyPost w A (.returned (.pointer (some ⟨w.heap.size, 0, none⟩))) w2) := Lib.hid ⟨_, rfl, Nat.le_refl _, ⟨cs, hg2, HSZ.out, HR.out⟩, hb2⟩
  clear hg1 hb1 hs1 hg2 hgr hs2 hb2
  go_wp2
  go_ret
  exact FIN.out
/-! ### New -/
def ReadZ (w : World) (v : Value) (zs : List Int) : Prop := ∃ ao cap, v = .slice ao zs.length cap ∧ zs.length ≤ 9223372036854775807 ∧ ∀ i, i < zs.length → ∃ b off, ao = some ⟨b, off, none⟩ ∧ b < w.heap.size ∧ w.cell? ⟨b, off + i, none⟩ = some (.int .i64 (zs.getD i 0))
theorem ReadZ.below {w w' : World} {v : Value} {zs : List Int} (h : ReadZ w v zs) (hb : Below w.heap.size w w') : ReadZ w' v zs := by
  obtain ⟨ao, cap, hv, hl, hc⟩ := h
  refine ⟨ao, cap, hv, hl, fun i hi => ?_⟩
  obtain ⟨b, off, e, hlt, h⟩ := hc i hi
  exact ⟨b, off, e, Nat.lt_of_lt_of_le hlt hb.size, (hb.cell hlt).trans h⟩
theorem ReadZ.nil (w : World) : ReadZ w (.slice none 0 0) [] := ⟨none, 0, rfl, by simp, fun i hi => absurd hi (by simp)⟩
def memK (zs : List Int) : Nat → Nat → Bool
  | 0 => fun _ => false
  | k + 1 => setB (memK zs k) (zs.getD k 0).toNat true
def newA (n : Nat) (zs : List Int) (k : Nat) : Al := ⟨n, memK zs k, fun _ => false, 0⟩
def inR (n : Nat) (z : Int) : Bool := decide (0 ≤ z ∧ z < (n : Int))
theorem newA_ok {n : Nat} (h1 : 1 ≤ n) (h2 : n ≤ 4096) {zs : List Int} : ∀ {k : Nat}, (∀ i, i < k → inR n (zs.getD i 0) = true) → (newA n zs k).Ok ∧ cnt (memK zs k) 4096 ≤ k
  | 0, _ => ⟨⟨h1, h2, fun j hj => absurd hj (by simp [newA, memK]), fun j hj => absurd hj (by simp [newA]), fun _ _ => rfl, by
      show cnt (fun _ => false) 4096 + cnt (fun _ => false) 4096 + 0 ≤ n
      rw [cnt_void]; omega⟩, by show cnt (fun _ => false) 4096 ≤ 0; rw [cnt_void]; exact Nat.le_refl _⟩
  | k + 1, h => by
    obtain ⟨ih, ic⟩ := newA_ok h1 h2 (zs := zs) (k := k) (fun i hi => h i (by omega))
    have hz := h k (by omega)
    unfold inR at hz
    simp only [decide_eq_true_eq] at hz
    have hus : ∀ j, memK zs (k + 1) j = true → j < n := fun j hj => by
      simp only [memK, setB] at hj
      split at hj
      · omega
      · exact ih.us j hj
    have hle : cnt (memK zs (k + 1)) 4096 ≤ n := by
      rw [cnt_beyond h2 hus]; exact cnt_le _ _
    refine ⟨⟨h1, h2, hus, fun j hj => absurd hj (by simp [newA]), fun _ _ => rfl, ?_⟩, ?_⟩
    · show cnt (memK zs (k + 1)) 4096 + cnt (fun _ => false) 4096 + 0 ≤ n
      rw [cnt_void]; omega
    · cases hm : memK zs k (zs.getD k 0).toNat
      · have := cnt_reset (f := memK zs k) (b := (zs.getD k 0).toNat) (n := 4096) (by omega) hm
        show cnt (setB (memK zs k) (zs.getD k 0).toNat true) 4096 ≤ k + 1
        omega
      · have : setB (memK zs k) (zs.getD k 0).toNat true = memK zs k := by
          funext j; unfold setB; split
          · rename_i e; rw [e, hm]
          · rfl
        show cnt (setB (memK zs k) (zs.getD k 0).toNat true) 4096 ≤ k + 1
        rw [this]; omega
def ZN (n : Nat) : Array Value := (Value.int .i64 (n : Nat) :: (List.replicate 128 (Value.int .u64 0) ++ [.int .i64 0])).toArray
theorem build51 (n : Nat) (w : World) : (Instr.build 51 #[(0, .int .i64 (n : Nat))]).run Tryd.prog w = .ok (.agg (ZN n)) w := by kernel_rfl
theorem ZN_al (n : Nat) (zs : List Int) {w : World} {ab : Nat} (h : w.heap[ab]? = some (.cells (ZN n) 51 (0, 0))) : AlAt w ab (newA n zs 0) := by
  have hw : ∀ i, i < 64 → wordOf (fun _ => false) i = 0 := fun i _ => wordOf_void i
  have hg : ∀ j, j < 128 → (ZN n)[1 + j]? = some (.int .u64 0) := fun j hj => by
    unfold ZN
    simp only [List.getElem?_toArray]
    rw [Nat.add_comm 1 j, List.getElem?_cons_succ, List.getElem?_append_left (by simpa using hj), List.getElem?_replicate, if_pos hj]
  refine ⟨_, h, ?_, rfl, fun i hi => ?_, fun i hi => ?_, ?_⟩
  · unfold ZN; simp
  · rw [hg i (by omega)]
    show some _ = some (Value.int .u64 ((wordOf (fun _ => false) i : Nat) : Int))
    rw [hw i hi]; rfl
  · rw [show 65 + i = 1 + (64 + i) by omega, hg (64 + i) (by omega)]
    show some _ = some (Value.int .u64 ((wordOf (fun _ => false) i : Nat) : Int))
    rw [hw i hi]; rfl
  · unfold ZN
    simp only [List.getElem?_toArray]
    rw [show (129 : Nat) = 128 + 1 from rfl, List.getElem?_cons_succ, List.getElem?_append_right (by simp)]
    simp; rfl
def NewPost (w : World) (n : Nat) (zs : List Int) (e : Ending) (w' : World) : Prop :=
  (e = .returned (.tuple #[.pointer none, .int .i64 1]) ∧ (∃ i, i < zs.length ∧ inR n (zs.getD i 0) = false) ∧ Below w.heap.size w w') ∨
  ((∀ i, i < zs.length → inR n (zs.getD i 0) = true) ∧ Below w.heap.size w w' ∧
    ((e = .returned (.tuple #[.pointer none, .int .i64 8]) ∧ cnt (memK zs zs.length) 4096 < zs.length) ∨
     ∃ ab, e = .returned (.tuple #[.pointer (some ⟨ab, 0, none⟩), .int .i64 0]) ∧ w.heap.size ≤ ab ∧ AlAt w' ab (newA n zs zs.length) ∧ cnt (memK zs zs.length) 4096 = zs.length))
set_option maxHeartbeats 800000 in
theorem new_no (w : World) (z : Int) (hz : z < 1 ∨ 4096 < z) (v : Value) : Calls Tryd.prog 13 #[.int .i64 z, v] w fun e w' => e = .returned (.tuple #[.pointer none, .int .i64 1]) ∧ w = w' := by
  by_cases h1 : z < 1
  · go_enter Tryd.func13, Tryd.ntmps13
    go_wp2
    go_returns
    exact ⟨rfl, rfl⟩
  · have h2 : 4096 < z := by omega
    go_enter Tryd.func13, Tryd.ntmps13
    go_wp2
    go_returns
    exact ⟨rfl, rfl⟩
set_option maxRecDepth 20000 in
set_option maxHeartbeats 3200000 in
theorem new_any {w : World} {v : Value} {zs : List Int} (h : ReadZ w v zs) {n : Nat} (h1 : 1 ≤ n) (h2 : n ≤ 4096) : Calls Tryd.prog 13 #[.int .i64 (n : Nat), v] w (NewPost w n zs) := by
  have hh := Lib.hid h
  obtain ⟨ao, cap, rfl, hl, -⟩ := h
  obtain ⟨m, hm⟩ : ∃ m, zs.length = m := ⟨_, rfl⟩
  have HM := Lib.hid hm
  rw [hm] at hl ⊢
  clear hm
  have hb := build51 n
  have HB := Lib.hid hb
  have hza := fun {w : World} {ab : Nat} => ZN_al n zs (w := w) (ab := ab)
  clear hb
  generalize ZN n = Z at HB hza
  go_enter Tryd.func13, Tryd.ntmps13
  go_wp2_with (first | (with_reducible refine wpList_build1 rfl 51 0 (.tmp 15) rfl (.int .i64 (n : Nat)) (.agg Z) rfl (HB.out _) ?_) | (with_reducible refine wpList_box_row rfl 51 (.tmp 16) rfl Z rfl ?_))
  intro w1 hg1 hb1 hs1
  have a1 := hza hg1
  clear hza hg1
  go_wp2
  go_loopw [20] (fun iv wr => ∃ k : Nat, k ≤ m ∧ iv = .int .i64 k ∧ Hid (∀ i, i < k → inR n (zs.getD i 0) = true) ∧ AlAt wr w.heap.size (newA n zs k) ∧ Below w.heap.size w wr ∧ w.heap.size < wr.heap.size) (fun iv _ => m - (intOf iv).toNat)
  case atStart => exact ⟨0, Nat.zero_le _, rfl, Lib.hid (fun i hi => by omega), a1, hb1, hs1⟩
  case round =>
    clear a1 hb1 hs1
    obtain ⟨k, hk, rfl, hin, ak, bk, sk⟩ := hrel
    obtain ⟨ao', cap', he, -, hc⟩ := hh.out
    by_cases hlt : k < m
    · obtain ⟨b, off, eb, hbl, hcell⟩ := hc k (by rw [HM.out]; exact hlt)
      injection he with e1 e2 e3
      rw [← e1] at eb
      subst eb
      have hcl := (bk.cell (p := ⟨b, off + k, none⟩) hbl).trans hcell
      have his := is_any ak (zs.getD k 0)
      have hii : isB (newA n zs k) (zs.getD k 0) = inR n (zs.getD k 0) := rfl
      rw [hii] at his
      obtain ⟨z, hz⟩ : ∃ z, zs.getD k 0 = z := ⟨_, rfl⟩
      rw [hz] at hcl his
      have HZ := Lib.hid hz
      clear hz hcell e1 e2 e3 hc hii
      go_wp2_with fail
      refine Calls.mono his ?_
      rintro e _ ⟨rfl, rfl⟩
      cases hr : inR n z
      · have FIN : Hid (NewPost w n zs (.returned (.tuple #[.pointer none, .int .i64 1])) wr) := Lib.hid (.inl ⟨rfl, ⟨k, by rw [HM.out]; exact hlt, by rw [HZ.out]; exact hr⟩, bk⟩)
        clear his ak bk
        go_wp2
        go_returns
        exact FIN.out
      · have hr2 := hr
        unfold inR at hr2
        simp only [decide_eq_true_eq] at hr2
        obtain ⟨c, rfl⟩ : ∃ c : Nat, z = c := ⟨z.toNat, by omega⟩
        have hc4 : c < 4096 := by omega
        obtain ⟨su, -, -, -, fz⟩ := ak.sets
        have hadd := add_raw su fz c hc4
        have hst := (ak.set1 c hc4 true).drew
        have heq : ({ newA n zs k with u := setB (newA n zs k).u c true } : Al) = newA n zs (k + 1) := by
          show (⟨n, setB (memK zs k) c true, fun _ => false, 0⟩ : Al) = ⟨n, setB (memK zs k) (zs.getD k 0).toNat true, fun _ => false, 0⟩
          rw [HZ.out]; rfl
        rw [heq] at hst
        have bst : Below w.heap.size w (wr.setCell ⟨w.heap.size, 1 + c / 64, none⟩ (.int .u64 (wordOf (setB (newA n zs k).u c true) (c / 64) : Nat))).drew := (bk.setCell (p := ⟨w.heap.size, 1 + c / 64, none⟩) (Nat.le_refl _) _).drew
        have sst : w.heap.size < (wr.setCell ⟨w.heap.size, 1 + c / 64, none⟩ (.int .u64 (wordOf (setB (newA n zs k).u c true) (c / 64) : Nat))).drew.heap.size := by simpa [World.setCell] using sk
        have hin2 := Lib.hid (show ∀ i, i < k + 1 → inR n (zs.getD i 0) = true from fun i hi => by
          by_cases e : i = k
          · subst e; rw [HZ.out]; exact hr
          · exact hin.out i (by omega))
        have FIN := Lib.hid (And.intro hst (And.intro bst sst))
        clear hst bst sst su fz ak bk his hr hr2 heq
        go_wp2_with fail
        refine Calls.mono hadd ?_
        rintro e w3 ⟨rfl, rfl⟩
        clear hadd
        go_wp2
        go_roundw
        case rel => exact ⟨k + 1, by omega, by go_num, hin2, FIN.out⟩
        case measure => simp [intOf]; omega
    · obtain rfl : k = m := by omega
      have hall : ∀ i, i < zs.length → inR n (zs.getD i 0) = true := fun i hi => hin.out i (by rw [HM.out] at hi; exact hi)
      have hcn := (newA_ok h1 h2 hin.out).2
      have hco := count_any ak.sets.1
      have hcu : cnt (newA n zs k).u 4096 = cnt (memK zs k) 4096 := rfl
      rw [hcu] at hco
      by_cases hlt2 : cnt (memK zs k) 4096 < k
      · have FIN : Hid (NewPost w n zs (.returned (.tuple #[.pointer none, .int .i64 8])) wr) := Lib.hid (.inr ⟨hall, bk, .inl ⟨rfl, by rw [HM.out]; exact hlt2⟩⟩)
        generalize cnt (memK zs k) 4096 = c at hco hlt2
        clear ak bk hall hcu hcn
        go_wp2_with fail
        refine Calls.mono hco ?_
        rintro e _ ⟨rfl, rfl⟩
        go_wp2
        go_returns
        exact FIN.out
      · have FIN : Hid (NewPost w n zs (.returned (.tuple #[.pointer (some ⟨w.heap.size, 0, none⟩), .int .i64 0])) wr) := Lib.hid (.inr ⟨hall, bk, .inr ⟨_, rfl, Nat.le_refl _, by rw [HM.out]; exact ak, by rw [HM.out]; omega⟩⟩)
        have hnl : ¬ ((cnt (memK zs k) 4096 : Nat) : Int) < (k : Int) := by omega
        generalize cnt (memK zs k) 4096 = c at hco hnl
        clear ak bk hall hcu hcn hlt2
        go_wp2_with fail
        refine Calls.mono hco ?_
        rintro e _ ⟨rfl, rfl⟩
        go_wp2
        go_returns
        exact FIN.out
end Go.Proofs.YtkmaikmbjebjeaaDoor
