/- The contracts of the document's noughts, clear, New, Erase. No statement of the seat is proved here. -/
import Derived.Test.YtfdabkcbefhdaaaRWrite
import Derived.Test.YtfdabkcbefhdaaaFKnown
import Derived.Deep.CutRange
import Derived.Deep.Cut
namespace Go.Proofs.Ytfdabkcbefhdaaa
set_option maxRecDepth 20000
open Go.RowKit

set_option maxHeartbeats 800000 in
theorem noughts_any (w : World) : Calls Try.prog 36 #[] w fun e w' => e = .returned (.string ⟨zeros.toArray⟩) ∧ Below w.heap.size w w' := by
  obtain ⟨i0, hi0, hz0, hz1, hz2⟩ := info_parts info5
  go_enter Try.func36, Try.ntmps36
  go_wp2_with (at_make; refine wpList_make_full _ rfl (.const (.int .i64 256)) (.const (.int .i64 256)) 31 rfl w.heap.size 5 i0 (.int .u8 0) 1 Try.underlying31 hi0 hz0 hz1 .i64 .i64 _ _ 256 rfl rfl ?hL ?hC ?b2 ?b3 (Nat.le_refl _) ?_)
  case hL => omega
  case hC => omega
  case b2 => first | omega | (rw [hz2]; omega)
  case b3 => simp only [maxLen]; omega
  intro w1 hown hgr
  have o1 : OwnB w.heap.size w1 (.slice (some ⟨w.heap.size, 0, none⟩) 256 256) zeros := by
    have e : cellsB zeros = (madeCells (Value.int .u8 0).cells (256 * 1)).toList := by kernel_rfl
    unfold OwnB
    rw [e, zeros_length]
    exact hown
  have hb1 : Below w.heap.size w w1 := (Below.refl _ _).grown hgr (Nat.le_refl _) (fun k e => by cases e)
  have rs := run_string o1
  have RS := Lib.hid rs
  clear hown hgr o1 rs
  go_wp2_with (simp only [RS.out])
  go_ret
  exact ⟨rfl, hb1⟩
/-- four of the block's five cells are stored, one by one -/
theorem set4 {B : Nat} {w V : World} {rb : Nat} {b0 b1 b2 b3 b4 : Value} (h : V.heap[rb]? = some (.cells #[b0, b1, b2, b3, b4] 47 (0, 0))) (hB : B ≤ rb) (hf : Fr RK B w V) {tv : Value} {n : Nat} {xs : List Value} (ho : V.ownsRow B 4 1 tv n xs) (u1 u2 u3 u4 : Value) :
    ((((V.setCell ⟨rb, 1, none⟩ u1).setCell ⟨rb, 2, none⟩ u2).setCell ⟨rb, 3, none⟩ u3).setCell ⟨rb, 4, none⟩ u4).heap[rb]? = some (.cells #[b0, u1, u2, u3, u4] 47 (0, 0)) ∧
    Fr RK B w ((((V.setCell ⟨rb, 1, none⟩ u1).setCell ⟨rb, 2, none⟩ u2).setCell ⟨rb, 3, none⟩ u3).setCell ⟨rb, 4, none⟩ u4) ∧ ((((V.setCell ⟨rb, 1, none⟩ u1).setCell ⟨rb, 2, none⟩ u2).setCell ⟨rb, 3, none⟩ u3).setCell ⟨rb, 4, none⟩ u4).ownsRow B 4 1 tv n xs := by
  have h1 := heap_setCell_same V rb 1 _ _ u1 h
  have h2 := heap_setCell_same _ rb 2 _ _ u2 h1
  have h3 := heap_setCell_same _ rb 3 _ _ u3 h2
  have h4 := heap_setCell_same _ rb 4 _ _ u4 h3
  refine ⟨h4, (((hf.setCell h hB rfl u1).setCell h1 hB rfl u2).setCell h2 hB rfl u3).setCell h3 hB rfl u4, ownsRow_of_row ho fun k cs hk => ?_⟩
  have hne : k ≠ rb := by
    rintro rfl
    rw [h] at hk
    injection hk with e
    injection e with _ e _
    exact absurd e (by decide)
  rw [Below.heap_setCell _ _ _ _ hne, Below.heap_setCell _ _ _ _ hne, Below.heap_setCell _ _ _ _ hne, Below.heap_setCell _ _ _ _ hne]
  exact hk
theorem one_s {w : World} {g : Nat} {s : ByteArray} (hg : w.heap[g]? = some (.cells #[.string s] 9 (0, 0))) : SlAt elS w.heap.size w (.slice (some ⟨g, 0, none⟩) 1 1) [s] := by
  refine ⟨_, 1, rfl, Nat.le_refl _, by show 1 * 16 ≤ _; omega, fun _ => ⟨g, 0, rfl, lt_of_heap hg, fun j u hj => ?_⟩⟩
  rw [Nat.zero_add]
  match j, hj with
  | 0, hj => simp [cells] at hj; subst hj; rw [cell_of_row _ _ _ _ _ _ hg]; rfl
/-- what clear's loop keeps -/
structure Clr (B : Nat) (w : World) (rb : Nat) (tv : Value) (n : Nat) (L : List ByteArray) (lv : Value) (wr : World) : Prop where
  hd : wr.heap[rb]? = some (.cells #[lv, tv, .slice none 0 0, .bool false, .int .i64 (-1)] 47 (0, 0))
  hf : Fr RK B w wr
  ho : wr.ownsRow B 4 1 tv n (madeCells (Value.bool false).cells (n * 1)).toList
  hl : OwnR elS B wr lv L
theorem Clr.push {B : Nat} {w : World} {rb : Nat} {tv : Value} {n : Nat} {L : List ByteArray} {lv : Value} {wr : World} (h : Clr B w rb tv n L lv wr) (hB : B ≤ rb) (hw : B ≤ wr.heap.size) (hn : L.length ≤ 4096) (s : ByteArray) :
    ∃ a m c w7 u, (Builtin.append_ #[43, 43] 43 #[lv, .slice (some ⟨wr.heap.size, 0, none⟩) 1 1]).run Try.prog (wr.alloc (.cells #[.string s] 9)) = .ok (.slice a m c) w7 ∧
      w7.cell? ⟨rb, 0, none⟩ = some u ∧ w7.frozen? ⟨rb, 0, none⟩ = false ∧ Clr B w rb tv n (L ++ [s]) (.slice a m c) (w7.setCell ⟨rb, 0, none⟩ (.slice a m c)) := by
  have g1 := heap_alloc_new wr (.cells #[.string s] 9)
  have b2 : Below wr.heap.size wr (wr.alloc (.cells #[.string s] 9)) := (Below.refl _ _).alloc (Nat.le_refl _) _
  obtain ⟨v', w7, hr, o7, b7, s7, gr⟩ := own_app okS (h.hl.below b2) (one_s g1) (by show (_ + 1) * 16 ≤ _; omega) (Nat.le_trans hw b2.size) 43
  obtain ⟨a, m, c, rfl⟩ := o7.slv
  have own2 : ∀ (k : Nat) o, wr.heap[k]? = some o → (k < B ∨ ∀ cs, o ≠ .cells cs 9 (0, 0)) → w7.heap[k]? = some o := fun k o hk ho => by
    have hk2 := (b2.block k (lt_of_heap hk)).trans hk
    refine (gr.1 k (lt_of_heap hk2) fun e => ?_).trans hk2
    rcases (h.hl.below b2).2 with ⟨hv, -⟩ | ⟨g, cap, cur, hv, hg, hh, -⟩
    · rw [hv] at e; cases e
    · rw [hv] at e
      have e : k = g := by simpa [Value.ownBlock] using e
      rcases ho with ho | ho
      · omega
      · rw [e, hh] at hk2
        injection hk2 with e1
        exact ho _ e1.symm
  have hd7 := own2 _ _ h.hd (.inr fun cs e => by injection e with _ e _; exact absurd e (by decide))
  have hs := heap_setCell_same w7 rb 0 _ _ (.slice a m c) hd7
  have hk8 : ∀ (k : Nat) cs t, t ≠ 47 → w7.heap[k]? = some (.cells cs t (0, 0)) → (w7.setCell ⟨rb, 0, none⟩ (.slice a m c)).heap[k]? = some (.cells cs t (0, 0)) := fun k cs t ht hk => by
    rw [Below.heap_setCell _ _ _ _ (by rintro rfl; rw [hd7] at hk; injection hk with e; injection e with _ e _; exact ht e.symm)]; exact hk
  have f7 : Fr RK B wr w7 := ⟨b7.os.trans b2.os, b7.tape.trans b2.tape, b7.output.trans b2.output, Nat.le_trans b2.size s7, fun k o hk hko => own2 k o hk (hko.imp id fun e cs e2 => by rw [e2] at e; cases e)⟩
  refine ⟨a, m, c, w7, _, hr, by rw [cell_of_row _ _ _ _ _ _ hd7]; rfl, by simp [World.frozen?, hd7], hs, h.hf.trans (f7.setCell hd7 hB rfl _), ?_, ?_⟩
  · exact ownsRow_of_row (ownsRow_of_row h.ho (fun k cs hk => own2 k _ hk (.inr fun cs e => by injection e with _ e _; exact absurd e (by decide)))) (fun k cs => hk8 k cs _ (by decide))
  · exact ownsRow_of_row o7 (fun k cs => hk8 k cs _ (by decide))
theorem Clr.done {B : Nat} {w : World} {rb : Nat} {tv : Value} {n : Nat} {lv : Value} {wr : World} (h : Clr B w rb tv n (List.replicate n ⟨zeros.toArray⟩) lv wr) (hB : B ≤ rb) (hn : n ≤ 4096) : RDevAt B wr rb (Dev.fresh n) := by
  have e : (madeCells (Value.bool false).cells (n * 1)).toList = (List.replicate n false).map Value.bool := by
    rw [Nat.mul_one]
    have := toList_madeCells_one (z := Value.bool false) (n := n)
    rw [List.map_replicate]
    exact this
  have ho := h.ho
  rw [e] at ho
  refine ⟨fresh_ok n hn, hB, lv, tv, .slice none 0 0, List.replicate n ⟨zeros.toArray⟩, List.replicate n false, h.hd, ⟨List.length_replicate, List.length_replicate, fun i hi => ?_, fun i hi _ => ?_⟩, h.hl, by rw [List.length_replicate]; exact ho, OwnR.nil _ _ _⟩
  · exact List.getElem?_replicate_of_lt hi
  · exact List.getElem?_replicate_of_lt hi
set_option maxHeartbeats 3200000 in
theorem rclear_any {B : Nat} {w : World} {rb : Nat} {a0 a1 a2 a3 a4 : Value} (h : w.heap[rb]? = some (.cells #[a0, a1, a2, a3, a4] 47 (0, 0))) (hB : B ≤ rb) (hBw : B ≤ w.heap.size) {n : Nat} (h1 : 1 ≤ n) (h2 : n ≤ 4096) :
    Calls Try.prog 24 #[.pointer (some ⟨rb, 0, none⟩), .int .i64 n] w fun e w' => e = .returned (.tuple #[]) ∧ RDevAt B w' rb (Dev.fresh n) ∧ Fr RK B w w' := by
  obtain ⟨ib, hib, hb0, hb1, hb2⟩ := info_parts (show (Try.prog.info? 4).map (fun i => (i.zero, i.size, i.bytes)) = some (some (.bool false), 1, 1) by kernel_rfl)
  go_enter Try.func24, Try.ntmps24
  have c0 : w.cell? ⟨rb, 0, none⟩ = some a0 := by rw [cell_of_row _ _ _ _ _ _ h]; rfl
  have c1 : w.cell? ⟨rb, 1, none⟩ = some a1 := by rw [cell_of_row _ _ _ _ _ _ h]; rfl
  have c2 : w.cell? ⟨rb, 2, none⟩ = some a2 := by rw [cell_of_row _ _ _ _ _ _ h]; rfl
  have c3 : w.cell? ⟨rb, 3, none⟩ = some a3 := by rw [cell_of_row _ _ _ _ _ _ h]; rfl
  have c4 : w.cell? ⟨rb, 4, none⟩ = some a4 := by rw [cell_of_row _ _ _ _ _ _ h]; rfl
  have fz : ∀ i, w.frozen? ⟨rb, i, none⟩ = false := fun i => by simp [World.frozen?, h]
  have z0 := fz 0
  have z1 := fz 1
  have z2 := fz 2
  have z3 := fz 3
  have z4 := fz 4
  clear fz
  have MK := fun (V : World) (hV : B ≤ V.heap.size) => run_make_full (P := Try.prog) V B 44 4 ib (.bool false) 1 Try.underlying44 hib hb0 hb1 .i64 .i64 n (by rw [hb2]; omega) (by simp only [maxLen]; omega) hV
  have cellsAt := fun (V V' : World) (hV : V.heap[rb]? = w.heap[rb]?) (g : V.grownBy V' none) => (g.block rb (lt_of_heap (hV.trans h)) (by simp)).trans (hV.trans h)
  obtain ⟨A1, hr1, oA, gA⟩ := MK w.drew hBw
  obtain ⟨A2, hr2, oB, gB⟩ := MK (w.setCell ⟨rb, 0, none⟩ (.slice none 0 0)).drew (by simpa [World.setCell] using hBw)
  have hA := (gA.block rb (lt_of_heap h) (by simp)).trans h
  have hs0 := heap_setCell_same w rb 0 _ _ (.slice none 0 0) h
  have hB2 := (gB.block rb (lt_of_heap hs0) (by simp)).trans hs0
  have p0 : A1.cell? ⟨rb, 0, none⟩ = some a0 := by rw [cell_of_row _ _ _ _ _ _ hA]; rfl
  have p1 : A1.cell? ⟨rb, 1, none⟩ = some a1 := by rw [cell_of_row _ _ _ _ _ _ hA]; rfl
  have p2 : A1.cell? ⟨rb, 2, none⟩ = some a2 := by rw [cell_of_row _ _ _ _ _ _ hA]; rfl
  have p3 : A1.cell? ⟨rb, 3, none⟩ = some a3 := by rw [cell_of_row _ _ _ _ _ _ hA]; rfl
  have p4 : A1.cell? ⟨rb, 4, none⟩ = some a4 := by rw [cell_of_row _ _ _ _ _ _ hA]; rfl
  have r1 : A2.cell? ⟨rb, 1, none⟩ = some a1 := by rw [cell_of_row _ _ _ _ _ _ hB2]; rfl
  have r2 : A2.cell? ⟨rb, 2, none⟩ = some a2 := by rw [cell_of_row _ _ _ _ _ _ hB2]; rfl
  have r3 : A2.cell? ⟨rb, 3, none⟩ = some a3 := by rw [cell_of_row _ _ _ _ _ _ hB2]; rfl
  have r4 : A2.cell? ⟨rb, 4, none⟩ = some a4 := by rw [cell_of_row _ _ _ _ _ _ hB2]; rfl
  have fA : ∀ i, A1.frozen? ⟨rb, i, none⟩ = false := fun i => by simp [World.frozen?, hA]
  have fB : ∀ i, A2.frozen? ⟨rb, i, none⟩ = false := fun i => by simp [World.frozen?, hB2]
  have y0 := fA 0
  have y1 := fA 1
  have y2 := fA 2
  have y3 := fA 3
  have y4 := fA 4
  have x1 := fB 1
  have x2 := fB 2
  have x3 := fB 3
  have x4 := fB 4
  have fA1 : Fr RK B w A1 := ((Fr.refl RK B w).drew).grown gA (fun k e => by cases e)
  have fB1 : Fr RK B w A2 := (((Fr.refl RK B w).setCell h hB rfl (.slice none 0 0)).drew).grown gB (fun k e => by cases e)
  have hA0 := heap_setCell_same A1 rb 0 _ _ (.slice none 0 0) hA
  have oA0 : (A1.setCell ⟨rb, 0, none⟩ (.slice none 0 0)).ownsRow B 4 1 (.slice (some ⟨w.heap.size, 0, none⟩) n n) n (madeCells (Value.bool false).cells (n * 1)).toList := ownsRow_of_row oA fun k cs hk => by
    rw [Below.heap_setCell _ _ _ _ (by rintro rfl; rw [hA] at hk; injection hk with e; injection e with _ e _; exact absurd e (by decide))]; exact hk
  have hbs : (w.setCell ⟨rb, 0, none⟩ (.slice none 0 0)).heap.size = w.heap.size := by simp [World.setCell]
  have oB' : A2.ownsRow B 4 1 (.slice (some ⟨w.heap.size, 0, none⟩) n n) n (madeCells (Value.bool false).cells (n * 1)).toList := by
    have e : (w.setCell ⟨rb, 0, none⟩ (.slice none 0 0)).drew.heap.size = w.heap.size := hbs
    rw [e] at oB
    exact oB
  have EA := Lib.hid (set4 hA0 hB (fA1.setCell hA hB rfl (.slice none 0 0)) oA0 (.slice (some ⟨w.heap.size, 0, none⟩) n n) (.slice none 0 0) (.bool false) (.int .i64 (-1)))
  have EB := Lib.hid (set4 hB2 hB fB1 oB' (.slice (some ⟨w.heap.size, 0, none⟩) n n) (.slice none 0 0) (.bool false) (.int .i64 (-1)))
  clear fA fB cellsAt MK oA gA oB gB hA hB2 hs0 fA1 fB1 hA0 oA0 oB'
  go_upto_region 0 with fail
  go_cut [] from 6 to 23 (fun wx => wx.heap[rb]? = some (.cells #[.slice none 0 0, .slice (some ⟨w.heap.size, 0, none⟩) n n, .slice none 0 0, .bool false, .int .i64 (-1)] 47 (0, 0)) ∧ Fr RK B w wx ∧ wx.ownsRow B 4 1 (.slice (some ⟨w.heap.size, 0, none⟩) n n) n (madeCells (Value.bool false).cells (n * 1)).toList)
  case first =>
    go_region
    · go_wp2
      go_meet
      exact EA.out
    · go_wp2
      go_meet
      exact EB.out
  case rest =>
    obtain ⟨hd, hf, ho⟩ := hcut
    clear EA EB hr1 hr2 hbs c0 c1 c2 c3 c4 z0 z1 z2 z3 z4 p0 p1 p2 p3 p4 r1 r2 r3 r4 y0 y1 y2 y3 y4 x1 x2 x3 x4 h
    go_wp2_with fail
    refine (noughts_any wc).mono ?_
    rintro e w1 ⟨rfl, b1⟩
    have cl : Clr B w rb (.slice (some ⟨w.heap.size, 0, none⟩) n n) n [] (.slice none 0 0) w1 := ⟨(b1.block _ (lt_of_heap hd)).trans hd, hf.trans (Fr.of_below b1), ownsRow_below ho b1, OwnR.nil _ _ _⟩
    clear hd hf ho b1
    obtain ⟨Z, hZ⟩ : ∃ Z : ByteArray, ⟨zeros.toArray⟩ = Z := ⟨_, rfl⟩
    have HZ := Lib.hid hZ
    rw [hZ]
    clear hZ
    go_wp2
    go_loopw [5] (fun iv wr => ∃ k : Nat, k ≤ n ∧ iv = .int .i64 k ∧ ∃ a m c, Clr B w rb (.slice (some ⟨w.heap.size, 0, none⟩) n n) n (List.replicate k Z) (.slice a m c) wr) (fun iv _ => n - (intOf iv).toNat)
    case atStart => exact ⟨0, Nat.zero_le _, rfl, _, _, _, cl⟩
    case round =>
      obtain ⟨k, hk, rfl, a, m, c, cl⟩ := hrel
      have hd := cl.hd
      have c0 : wr.cell? ⟨rb, 0, none⟩ = some (.slice a m c) := by rw [cell_of_row _ _ _ _ _ _ hd]; rfl
      by_cases hlt : k < n
      · obtain ⟨a', m', c', w7, u, hr, k7, f7, cl'⟩ := cl.push hB (Nat.le_trans hBw cl.hf.size) (by rw [List.length_replicate]; omega) Z
        have CL := Lib.hid cl'
        have HR := Lib.hid hr
        clear hd cl cl' hr
        go_wp2_with (with_reducible refine wpList_append_own rfl (.tmp 33) (.tmp 35) 43 43 rfl (.slice a m c) (.slice (some ⟨wr.heap.size, 0, none⟩) 1 1) (.slice a' m' c') rfl rfl HR.out ?_)
        go_roundw
        case rel => exact ⟨k + 1, by omega, by go_num, _, _, _, by rw [List.replicate_succ']; exact CL.out⟩
        case measure => simp [intOf]; omega
      · have hkn : k = n := by omega
        subst hkn
        have FIN := Lib.hid (And.intro ((HZ.out ▸ cl : Clr B w rb _ k (List.replicate k ⟨zeros.toArray⟩) _ wr).done hB h2) cl.hf)
        clear hd cl
        go_wp2
        go_returns
        exact ⟨rfl, FIN.out⟩
end Go.Proofs.Ytfdabkcbefhdaaa
