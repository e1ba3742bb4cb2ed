/- The contract of the queue's List. No statement of the seat is proved here. -/
import Derived.Test.YtegloiojhimoeaaQSort
namespace Go.Proofs.Ytegloiojhimoeaa
open Go.RowKit

def entC (x : Wt) : List Value := [.int .i64 x.id, .float .f64 x.pr]
def cellsE (M : List Wt) : List Value := M.flatMap entC
/-- An own row of entries. -/
def OwnE (base : Nat) (w : World) (v : Value) (M : List Wt) : Prop := w.ownsRow base 43 2 v M.length (cellsE M)
theorem cellsE_append (M : List Wt) (x : Wt) : cellsE (M ++ [x]) = cellsE M ++ entC x := by simp [cellsE]
theorem OwnE.nil (base : Nat) (w : World) : OwnE base w (.slice none 0 0) [] := World.ownsRow_nil _ _ _ _
theorem infoE : ∃ i, Try.prog.info? 43 = some i ∧ i.zero = some (.agg #[.int .i64 0, .float .f64 0]) ∧ i.size = 2 ∧ i.bytes = 16 := by
  have h : (Try.prog.info? 43).map (fun i => (i.zero, i.size, i.bytes)) = some (some (.agg #[.int .i64 0, .float .f64 0]), 2, 16) := by kernel_rfl
  cases hq : Try.prog.info? 43 with
  | none => rw [hq] at h; simp at h
  | some i => rw [hq] at h; simp at h; exact ⟨i, rfl, h.1, h.2.1, h.2.2⟩
theorem own_push_ent {base : Nat} {w : World} {v : Value} {M : List Wt} (h : OwnE base w v M) (x : Wt) (hlen : M.length ≤ 100000) (hb : base ≤ w.heap.size) :
    ∃ ao cap w', (Builtin.append_ #[39, 39] 39 #[v, .slice (some ⟨w.heap.size, 0, none⟩) 1 1]).run Try.prog (w.alloc (.cells #[.int .i64 x.id, .float .f64 x.pr] 43)) = .ok (.slice ao (M.length + 1) cap) w' ∧ OwnE base w' (.slice ao (M.length + 1) cap) (M ++ [x]) ∧ Below base w w' := by
  obtain ⟨i, hi, hi0, hi1, hi2⟩ := infoE
  obtain ⟨v', w', hr, ho, hb', hs, -⟩ := own_push (ty := 39) Try.underlying39 hi hi0 hi1 hi2 rfl (by decide) (World.ownsRow.alloc h (.cells #[.int .i64 x.id, .float .f64 x.pr] 43)) (ys := entC x) (heap_alloc_new w _) rfl (by simp [entC, Value.oneCell']) (by omega) (by unfold maxLen; omega) (by simp; omega)
  obtain ⟨ao, cap, rfl, -, -⟩ := ownsRow_form ho
  refine ⟨ao, cap, w', hr, ?_, ((Below.refl _ _).alloc hb _).trans hb'⟩
  unfold OwnE
  rw [List.length_append, cellsE_append]
  exact ho
theorem entCells_at (M : List Wt) (k i : Nat) (hi : i < 2) : (cellsE M)[2 * k + i]? = (M[k]?).bind (fun x => (entC x)[i]?) := by
  unfold cellsE
  induction M generalizing k with
  | nil => simp
  | cons x M ih =>
    simp only [List.flatMap_cons]
    cases k with
    | zero =>
      rw [List.getElem?_append_left (by simp [entC]; omega)]
      simp
    | succ k =>
      rw [List.getElem?_append_right (by simp [entC]; omega)]
      have e : 2 * (k + 1) + i - (entC x).length = 2 * k + i := by simp [entC]; omega
      rw [e, ih k]; simp
/-- The cells of entry k. -/
theorem OwnE.get {base : Nat} {w : World} {ao : Option Addr} {n cap : Nat} {M : List Wt} (h : OwnE base w (.slice ao n cap) M) {k : Nat} (hk : k < M.length) : ∃ b, ao = some ⟨b, 0, none⟩ ∧ base ≤ b ∧ w.cell? ⟨b, 2 * k, none⟩ = some (.int .i64 (at' M k).id) ∧ w.cell? ⟨b, 2 * k + 1, none⟩ = some (.float .f64 (at' M k).pr) := by
  have e0 : (cellsE M)[2 * k + 0]? = some (.int .i64 (at' M k).id) := by rw [entCells_at M k 0 (by omega), at_some hk]; rfl
  have e1 : (cellsE M)[2 * k + 1]? = some (.float .f64 (at' M k).pr) := by rw [entCells_at M k 1 (by omega), at_some hk]; rfl
  obtain ⟨b, h1, h2, h3⟩ := ownsRow_cell h e0
  obtain ⟨b', h1', h2', h3'⟩ := ownsRow_cell h e1
  rw [h1] at h1'
  cases h1'
  exact ⟨b, h1, h2, h3, h3'⟩
theorem OwnE.form {base : Nat} {w : World} {v : Value} {M : List Wt} (h : OwnE base w v M) : ∃ ao cap, v = .slice ao M.length cap ∧ M.length ≤ cap := by
  obtain ⟨ao, cap, e, h1, _⟩ := ownsRow_form h
  exact ⟨ao, cap, e, h1⟩
theorem OwnE.below {base : Nat} {w w' : World} {v : Value} {M : List Wt} (h : OwnE base w v M) (hb : Below w.heap.size w w') : OwnE base w' v M := ownsRow_below h hb

/-! ### Clone -/
theorem clone_any {w : World} {lv : Value} {n : Nat} {L : List Wt} (hn : n = L.length) (hl : L.length ≤ 100000) (h : w.ownsRow 0 66 1 lv n (L.map ptrW)) :
    Calls Try.prog 31 #[lv] w fun e w' => ∃ ao cap, e = .returned (.slice ao n cap) ∧ w'.ownsRow w.heap.size 66 1 (.slice ao n cap) n (L.map ptrW) ∧ Below w.heap.size w w' := by
  subst hn
  obtain ⟨ao, cap, rfl, -, hm⟩ := ownsRow_form h
  obtain ⟨i0, hi0, hz0, hz1, hz2⟩ := infoP
  cases ao with
  | none =>
    have h0 : L.length = 0 := by
      rcases h.2 with ⟨h', h2⟩ | ⟨g', cap', cur, h', _⟩
      · exact h2
      · simp at h'
    have hL : L = [] := List.eq_nil_of_length_eq_zero h0
    subst hL
    refine Calls.mono (AnyE.slices_Clone_nil Try.cloneQ 0 cap w) ?_
    rintro e w' ⟨rfl, rfl⟩
    exact ⟨none, 0, rfl, World.ownsRow_nil _ _ _ _, Below.refl _ _⟩
  | some a =>
    have ha : ∃ g, a = ⟨g, 0, none⟩ := by
      rcases h.2 with ⟨h', h2⟩ | ⟨g', cap', cur, h', _⟩
      · simp at h'
      · simp only [Value.slice.injEq, Option.some.injEq, true_and] at h'; exact ⟨g', h'.1⟩
    obtain ⟨g, rfl⟩ := ha
    refine Calls.mono (AnyE.slices_Clone Try.cloneQ i0 (.pointer none) 1 8 hi0 hz0 hz1 hz2 rfl (by decide) Try.sizeOf66 g 0 L.length cap (L.map ptrW) w (by simp) hm (by omega) (fun j u hj => ?_) (fun u hu => ?_)) ?_
    · have hj' : j < L.length := by have := (List.getElem?_eq_some_iff.1 hj).1; simpa using this
      rw [Nat.zero_add, World.ownsRow.cellAt h j (by omega)]; exact hj
    · obtain ⟨x, _, rfl⟩ := List.mem_map.1 hu
      rfl
    · rintro e w' ⟨v', rfl, ho, -, hb⟩
      obtain ⟨ao, cap, rfl, -, -⟩ := ownsRow_form ho
      exact ⟨ao, cap, rfl, ho, hb⟩
set_option maxRecDepth 20000 in
set_option maxHeartbeats 800000 in
theorem sortNone_any (p : Option Addr) (cap : Nat) (fv : Value) (w : World) : Calls Try.prog 32 #[.slice p 0 cap, fv] w fun e w' => e = .returned (.tuple #[]) ∧ w' = w := by
  have hp := fun lim W => AnyF.pdqsortCmpFunc_none (P := Try.prog) (ρ := Try.pdqQ_ren) { Try.pdqQ with } p cap lim fv W
  have hl := Any.bits_Len (SlLaysF0.n15.bits (P := Try.prog) (ρ := Try.pdqQ_ren) { Try.pdqQ with }) 0 w (by omega) (by omega)
  have HPQ : ∀ lim W, Calls Try.prog 47 _ W _ := hp
  have HL : Calls Try.prog 48 #[.int .u64 0] w _ := hl
  clear hp hl
  generalize Lib.bitLen (Int.toNat 0) = bl at HL
  go_enter Try.func32, Try.ntmps32
  go_wp2_with fail
  refine HL.mono ?_
  rintro e _ ⟨rfl, rfl⟩
  go_wp2_with fail
  refine (HPQ _ _).mono ?_
  rintro e _ ⟨rfl, rfl⟩
  go_wp2
  go_end0
  exact ⟨rfl, rfl⟩

/-! ### List -/
def ListPost (S : List Wt) (w : World) (e : Ending) (w' : World) : Prop := ∃ ao cap M, e = .returned (.slice ao M.length cap) ∧ M.Perm S ∧ M.Pairwise (fun a b => a.ky < b.ky) ∧ OwnE w.heap.size w' (.slice ao M.length cap) M ∧ Below w.heap.size w w'
theorem sorted_ky {S M : List Wt} {pu : Nat} (srt : S.Pairwise (fun a b => a.turn < b.turn)) (tu : ∀ x ∈ S, x.turn < pu) (hpu : pu ≤ 4611686018427387904) (hp : M.Perm S) (h : Asc M) : M.Pairwise (fun a b => a.ky < b.ky) := by
  unfold Asc at h
  have h2 : M.Pairwise (fun a b => a.turn ≠ b.turn) := (hp.pairwise_iff (fun {a b} h => Ne.symm h)).2 (srt.imp (fun {a b} e => Nat.ne_of_lt e))
  rw [List.pairwise_iff_getElem] at *
  intro i j hi hj hij
  have a1 := h i j hi hj hij
  have a2 := h2 i j hi hj hij
  have t1 := tu _ (hp.mem_iff.1 (List.getElem_mem hi))
  have t2 := tu _ (hp.mem_iff.1 (List.getElem_mem hj))
  rw [ordI_lt (by omega) (by omega)] at a1
  have : M[i].ky ≠ M[j].ky := fun e => a2 (by unfold Wt.ky at e; omega)
  omega
theorem take_at {M : List Wt} {k : Nat} (h : k < M.length) : M.take (k + 1) = M.take k ++ [at' M k] := by
  rw [List.take_add_one, at_some h]; rfl

set_option maxRecDepth 20000 in
set_option maxHeartbeats 3200000 in
theorem list_any {X : Nat → Prop} {w : World} {qb : Nat} {S : List Wt} {pu N : Nat} (h : QAt X w qb S pu N) (hpu : pu ≤ 4611686018427387904) : Calls Try.prog 14 #[.pointer (some ⟨qb, 0, none⟩)] w (ListPost S w) := by
  obtain ⟨mv, L, l0, -, hp, -⟩ := h.ex
  obtain ⟨lv, hb, ho, -⟩ := l0.box
  have hlen := l0.len
  have c0 : w.cell? ⟨qb, 0, none⟩ = some lv := cell_row hb 0 rfl
  obtain ⟨ao0, cap0, rfl, -, -⟩ := ownsRow_form ho
  have C := Lib.hid (clone_any rfl (by omega) ho)
  have HS := Lib.hid (fun (M : List Wt) (pm : M.Perm L) hh => sorted_ky h.srt h.tu hpu (pm.trans hp) hh)
  have H0 := Lib.hid (And.intro l0 (And.intro hp hlen))
  clear h hb ho l0 hp
  generalize hn : L.length = n at c0 C
  go_enter Try.func14, Try.ntmps14
  go_wp2_with fail
  refine C.out.mono ?_
  rintro e w1 ⟨ao, cap, rfl, o1, b1⟩
  clear C c0
  by_cases h0 : n = 0
  · subst h0
    go_wp2_with fail
    refine (sortNone_any _ _ _ _).mono ?_
    rintro e _ ⟨rfl, rfl⟩
    go_wp2
    refine wp_loop_rounds 1 ?_
    rw [rounds_succ]
    go_wp2
    go_ret
    have hL : L = [] := List.eq_nil_of_length_eq_zero hn
    obtain ⟨-, hp, -⟩ := H0.out
    rw [hL] at hp
    exact ⟨none, 0, [], rfl, hp, List.Pairwise.nil, OwnE.nil _ _, b1⟩
  · obtain ⟨g, cap', hv, hg, hgl⟩ := World.ownsRow.form o1 (by omega)
    cases hv
    obtain ⟨l0, hp, -⟩ := H0.out
    have l1 := l0.below b1
    have hwt : ∀ x ∈ L, WtIn w1 x ∧ x.pr < 18446744073709551616 ∧ x.blk ≠ g := fun x hx => by
      obtain ⟨i, hi, rfl⟩ := mem_at hx
      refine ⟨l1.wtIn hi, (l0.ok i hi).1, ?_⟩
      have := lt_of_heap (l0.wt i hi).2
      omega
    rw [← hn] at o1
    have SC := Lib.hid (sortQ_any (by omega) (by omega) o1 hwt)
    rw [hn] at SC
    have L1 := Lib.hid l1
    have HB1 := Lib.hid b1
    have HG := Lib.hid (And.intro hg hgl)
    clear o1 hwt l0 l1 hp b1 hg hgl
    go_wp2_with fail
    refine SC.out.mono ?_
    rintro e w2 ⟨rfl, M, pm, hsm, hcell, hgr⟩
    have hMl : M.length = n := by rw [pm.length_eq]; exact hn
    have hb2 : Below w.heap.size w w2 := HB1.out.grown hgr HB1.out.size (fun k e => by cases e; exact HG.out.1)
    have hwt2 : ∀ x ∈ M, w2.cell? ⟨x.blk, 0, none⟩ = some (.int .i64 x.id) ∧ w2.cell? ⟨x.blk, 1, none⟩ = some (.float .f64 x.pr) := fun x hx => by
      obtain ⟨i, hi, rfl⟩ := mem_at (pm.mem_iff.1 hx)
      have hw1 := (L1.out.wt i hi).2
      have hne : (at' L i).blk ≠ g := by
        have := lt_of_heap (H0.out.1.wt i hi).2
        have := HG.out.1
        omega
      have hw2 := (hgr.block _ (lt_of_heap hw1) (fun e => by cases e; exact hne rfl)).trans hw1
      exact ⟨cell_row hw2 0 rfl, cell_row hw2 1 rfl⟩
    have HM := Lib.hid (And.intro pm (And.intro (HS.out M pm hsm) (And.intro hcell (And.intro hwt2 hMl))))
    have HB2 := Lib.hid hb2
    clear pm hsm hcell hwt2 hb2 hgr SC L1 HB1 hMl
    have hn1 : n ≤ 1000 := by have := H0.out.2.2; omega
    clear hlen
    go_wp2
    go_loopw [4, 18] (fun tv iv wr => ∃ k : Nat, k ≤ n ∧ iv = .int .i64 k ∧ OwnE w2.heap.size wr tv (M.take k) ∧ Below w2.heap.size w2 wr) (fun _ iv _ => n - (intOf iv).toNat)
    case atStart => exact ⟨0, Nat.zero_le _, rfl, OwnE.nil _ _, Below.refl _ _⟩
    case round =>
      obtain ⟨k, hk, rfl, ho, hbel⟩ := hrel
      obtain ⟨pm, hsort, hcell, hwt2, hMl⟩ := HM.out
      obtain ⟨ao, cp, rfl, -⟩ := ho.form
      by_cases hlt : k < n
      · have hkM : k < M.length := by omega
        have ck := hcell k hkM
        have ck' := (hbel.cell (p := ⟨g, k, none⟩) (World.block_lt_of_cell? _ _ ck)).trans ck
        obtain ⟨x0, x1⟩ := hwt2 _ (at_mem hkM)
        have x0' := (hbel.cell (p := ⟨(at' M k).blk, 0, none⟩) (World.block_lt_of_cell? _ _ x0)).trans x0
        have x1' := (hbel.cell (p := ⟨(at' M k).blk, 1, none⟩) (World.block_lt_of_cell? _ _ x1)).trans x1
        have htl : (M.take k).length = k := by simp; omega
        obtain ⟨ao', cp', w3, hr, ho3, hb3⟩ := own_push_ent ho (at' M k) (by omega) hbel.size
        rw [htl] at hr ho3
        rw [← take_at hkM] at ho3
        have hbb := hbel.trans hb3
        have e1 : IntKind.i64.wrap ((k : Int) + 1) = ((k + 1 : Nat) : Int) := by rw [IntKind.wrap_i64]; omega
        have hlt' : (k : Int) < (n : Int) := by omega
        have FIN := Lib.hid (And.intro ho3 hbb)
        have HLT := Lib.hid hlt
        rw [htl]
        unfold ptrW at ck'
        clear ho3 hbb hb3 hbel ho ck x0 x1 hcell hwt2 hsort pm htl hkM
        generalize at' M k = x at *
        obtain ⟨xb, xi, xp, xt⟩ := x
        simp only at ck' x0' x1' hr
        generalize hk1 : k + 1 = k1 at *
        have HR := Lib.hid hr
        clear hr
        go_wp2_with (with_reducible refine wpList_append_own rfl (.tmp 22) (.tmp 27) 39 39 rfl (.slice ao k cp) (.slice (some ⟨wr.heap.size, 0, none⟩) 1 1) (.slice ao' k1 cp') rfl rfl HR.out ?_)
        go_roundw
        case rel => exact ⟨k1, by have := HLT.out; omega, rfl, FIN.out.1, FIN.out.2⟩
        case measure => have := HLT.out; simp [intOf]; omega
      · obtain rfl : k = n := by omega
        have hle : M.take k = M := List.take_of_length_le (by omega)
        rw [hle] at ho
        rw [hle]
        have hF : ListPost S w (.returned (.slice ao M.length cp)) wr := ⟨ao, cp, M, rfl, pm.trans H0.out.2.1, hsort, ownsRow_base ho (fun j hj => Nat.le_trans HB2.out.size (World.ownsRow.lt ho j hj).1), HB2.out.trans (hbel.mono HB2.out.size)⟩
        rw [hMl] at hF ⊢
        have FIN := Lib.hid hF
        clear hF ho hbel pm hsort hcell hwt2 hle
        go_wp2
        go_ret
        exact FIN.out
end Go.Proofs.Ytegloiojhimoeaa
