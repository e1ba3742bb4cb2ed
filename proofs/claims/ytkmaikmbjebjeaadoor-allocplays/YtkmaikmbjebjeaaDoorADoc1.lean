/- The document's allocator in memory; its List and Free. No statement of the seat is proved here. -/
import Derived.Test.YtkmaikmbjebjeaaDoorAList
import Derived.Test.YtkmaikmbjebjeaaDoorAOps
namespace Go.Proofs.YtkmaikmbjebjeaaDoor
set_option maxRecDepth 20000
open Go.RowKit

/-- the kinds of blocks that the document's allocator is made of -/
def KR : Obj → Bool
  | .cells _ t _ => t == 55 || t == 3
  | _ => false
/-- The document's allocator: a state for each of n blocks, k kept back. -/
structure RS (B : Nat) (w : World) (rb n : Nat) (st : Nat → Int) (k : Nat) : Prop where
  ge : B ≤ rb
  n2 : n ≤ 4096
  box : ∃ sv, w.heap[rb]? = some (.cells #[sv, .int .i64 (k : Nat)] 55 (0, 0)) ∧ w.ownsRow B 3 1 sv n ((List.range n).map fun i => iV (st i))
theorem RS.fr {K : Obj → Bool} {B B' : Nat} {w w' : World} {rb n : Nat} {st : Nat → Int} {k : Nat} (h : RS B w rb n st k) (hf : Fr K B' w w') (hK : ∀ o, KR o = true → K o = false) : RS B w' rb n st k := by
  obtain ⟨ge, n2, sv, h1, h2⟩ := h
  exact ⟨ge, n2, sv, hf.keep _ _ h1 (Or.inr (hK _ rfl)), hf.ownsRow h2 (fun cs => hK _ rfl)⟩
theorem RS.below {B : Nat} {w w' : World} {rb n : Nat} {st : Nat → Int} {k : Nat} (h : RS B w rb n st k) (hb : Below w.heap.size w w') : RS B w' rb n st k :=
  h.fr (Fr.of_below (K := fun _ => false) (B := 0) hb) (fun _ _ => rfl)
theorem RS.drew {B : Nat} {w : World} {rb n : Nat} {st : Nat → Int} {k : Nat} (h : RS B w rb n st k) : RS B w.drew rb n st k := ⟨h.ge, h.n2, h.box⟩
/-- the code's calls turn its own block alone -/
theorem RS.only {B : Nat} {w w' : World} {rb n : Nat} {st : Nat → Int} {k ab : Nat} {A : Al} (h : RS B w rb n st k) (ha : AlAt w ab A) (ho : Only ab w w') : RS B w' rb n st k := by
  obtain ⟨ge, n2, sv, h1, h2⟩ := h
  obtain ⟨cs, hc, -⟩ := ha
  have hne : ∀ {j : Nat} {cs2 : Array Value} {t : TypeId}, t ≠ 51 → w.heap[j]? = some (.cells cs2 t (0, 0)) → j ≠ ab := fun ht hj e => by
    rw [e, hc] at hj
    injection hj with e
    injection e with _ e _
    exact ht e.symm
  refine ⟨ge, n2, sv, (ho.keep _ (lt_of_heap h1) (hne (by decide) h1)).trans h1, ownsRow_keep h2 fun g hg => ?_⟩
  rcases h2.2 with ⟨hv, _⟩ | ⟨g', cap, cur, hv, _, hgc, _⟩
  · rw [hv] at hg; cases hg
  · rw [hv] at hg
    have e : some g' = some g := hg
    injection e with e
    subst e
    exact ho.keep _ (lt_of_heap hgc) (hne (by decide) hgc)
theorem AlAt.fr {B : Nat} {w w' : World} {ab : Nat} {A : Al} (h : AlAt w ab A) (hf : Fr KR B w w') : AlAt w' ab A := by
  obtain ⟨cs, hc, r⟩ := h; exact ⟨cs, hf.keep _ _ hc (Or.inr rfl), r⟩
theorem RS.cells {B : Nat} {w : World} {rb n : Nat} {st : Nat → Int} {k : Nat} (h : RS B w rb n st k) : ∃ ao cap, w.cell? ⟨rb, 0, none⟩ = some (.slice ao n cap) ∧ w.cell? ⟨rb, 1, none⟩ = some (.int .i64 (k : Nat)) ∧ (∀ i, w.frozen? ⟨rb, i, none⟩ = false) ∧
    ∀ i, i < n → ∃ g, ao = some ⟨g, 0, none⟩ ∧ w.cell? ⟨g, i, none⟩ = some (.int .i64 (st i)) ∧ w.frozen? ⟨g, i, none⟩ = false := by
  obtain ⟨ge, n2, sv, h1, h2⟩ := h
  obtain ⟨ao, cap, rfl, -, -⟩ := ownsRow_form h2
  refine ⟨ao, cap, by rw [cell_of_row _ _ _ _ _ _ h1]; rfl, by rw [cell_of_row _ _ _ _ _ _ h1]; rfl, fun i => frozen_of_row w rb i _ _ h1, fun i hi => ?_⟩
  obtain ⟨g, rfl, -, c⟩ := ownsRow_cell h2 (j := i) (u := iV (st i)) (by simp [hi])
  exact ⟨g, rfl, c, World.ownsRow.frozenAt h2 i⟩
def upS (st : Nat → Int) (i : Nat) (x : Int) : Nat → Int := fun j => if j = i then x else st j
/-- a block's state is stored -/
theorem RS.set {B : Nat} {w : World} {rb n : Nat} {st : Nat → Int} {k : Nat} (h : RS B w rb n st k) {i : Nat} (hi : i < n) (x : Int) {g m c : Nat} (hg : w.cell? ⟨rb, 0, none⟩ = some (.slice (some ⟨g, 0, none⟩) m c)) : RS B (w.setCell ⟨g, i, none⟩ (.int .i64 x)) rb n (upS st i x) k ∧ Fr KR B w (w.setCell ⟨g, i, none⟩ (.int .i64 x)) := by
  obtain ⟨ge, n2, sv, h1, h2⟩ := h
  have e0 : sv = .slice (some ⟨g, 0, none⟩) m c := by
    rw [cell_of_row _ _ _ _ _ _ h1] at hg
    simpa using hg
  subst e0
  obtain ⟨ao, cap, e, -, -⟩ := ownsRow_form h2
  obtain ⟨rfl, rfl, rfl⟩ : ao = some ⟨g, 0, none⟩ ∧ m = n ∧ c = cap := by cases e; exact ⟨rfl, rfl, rfl⟩
  rcases h2.2 with ⟨hv, _⟩ | ⟨g', cap', cur, hv, hbg, hgc, _⟩
  · cases hv
  · cases hv
    have hne : rb ≠ g := by
      rintro rfl
      rw [h1] at hgc
      injection hgc with e
      injection e with _ e _
      exact absurd e (by decide)
    have hs := (World.ownsRow.stored h2 i (.int .i64 x)).1
    refine ⟨⟨ge, n2, _, (Below.heap_setCell _ _ _ _ hne).trans h1, ?_⟩, (Fr.refl _ _ _).setCell (p := ⟨g, i, none⟩) hgc hbg rfl _⟩
    have e : ((List.range m).map fun j => iV (upS st i x j)) = ((List.range m).map fun j => iV (st j)).set i (.int .i64 x) := by
      apply List.ext_getElem?
      intro j
      by_cases hj : j = i
      · subst hj
        rw [List.getElem?_set_self (by simpa using hi)]
        simp [hi, upS, iV]
      · rw [List.getElem?_set_ne (Ne.symm hj)]
        simp only [List.getElem?_map]
        cases hq : (List.range m)[j]? with
        | none => rfl
        | some y =>
          have : y = j := by
            have h3 := List.getElem?_eq_some_iff.1 hq
            obtain ⟨h4, h5⟩ := h3
            simpa using h5.symm
          subst this
          simp [upS, hj]
    rw [e]
    exact hs
/-- how many are kept back is stored -/
theorem RS.keep {B : Nat} {w : World} {rb n : Nat} {st : Nat → Int} {k : Nat} (h : RS B w rb n st k) (k' : Nat) : RS B (w.setCell ⟨rb, 1, none⟩ (.int .i64 (k' : Nat))) rb n st k' ∧ Fr KR B w (w.setCell ⟨rb, 1, none⟩ (.int .i64 (k' : Nat))) := by
  obtain ⟨ge, n2, sv, h1, h2⟩ := h
  have hs := heap_setCell_same w rb 1 _ _ (.int .i64 (k' : Nat)) h1
  refine ⟨⟨ge, n2, sv, hs, ?_⟩, (Fr.refl _ _ _).setCell (p := ⟨rb, 1, none⟩) h1 ge rfl _⟩
  refine ownsRow_keep h2 fun g hg => Below.heap_setCell _ _ _ _ ?_
  rintro rfl
  rcases h2.2 with ⟨hv, _⟩ | ⟨g', cap, cur, hv, _, hgc, _⟩
  · rw [hv] at hg; cases hg
  · rw [hv] at hg
    have e : some g' = some g := hg
    injection e with e
    subst e
    rw [h1] at hgc
    injection hgc with e
    injection e with _ e _
    exact absurd e (by decide)
/-! ### List and Free -/
set_option maxRecDepth 20000 in
set_option maxHeartbeats 1600000 in
theorem rlist_any {B : Nat} {w : World} {rb n : Nat} {st : Nat → Int} {k : Nat} (h : RS B w rb n st k) (s : Int) : Calls Tryd.prog 33 #[.pointer (some ⟨rb, 0, none⟩), .int .i64 s] w (ListPost w (listN (fun i => st i == s) n)) := by
  have n2 := h.n2
  have HH := Lib.hid h
  clear h
  obtain ⟨ao, cap, c0, c1, fz, cs⟩ := HH.out.cells
  have bn : ∀ wr : World, Below w.heap.size w wr → RS B wr rb n st k := fun wr hb => HH.out.below hb
  go_enter Tryd.func33, Tryd.ntmps33
  clear c0 c1 fz cs
  go_wp2
  go_loopw [5, 6] (fun lv iv wr => ∃ i : Nat, i ≤ n ∧ iv = .int .i64 i ∧ OwnZ w.heap.size wr lv (listN (fun i => st i == s) i) ∧ Below w.heap.size w wr) (fun _ iv _ => n - (intOf iv).toNat)
  case atStart => exact ⟨0, Nat.zero_le _, rfl, OwnZ.nil _ _, Below.refl _ _⟩
  case round =>
    obtain ⟨i, hi, rfl, ho, hb⟩ := hrel
    have hlen : (listN (fun i => st i == s) i).length ≤ 100000 := by
      rw [listN_length]; have := cnt_le (fun i => st i == s) i; omega
    obtain ⟨lo, lm, lc, hlv, -⟩ := ho.form'
    subst hlv
    obtain ⟨ao', cap', c0, c1, fz, cs⟩ := (HH.out.below hb).cells
    clear c1
    by_cases hlt : i < n
    · obtain ⟨g, rfl, ci, -⟩ := cs i hlt
      clear cs
      have hsucc := listN_succ (fun i => st i == s) i
      generalize listN (fun i => st i == s) i = zs at ho hsucc hlen
      generalize hx : st i = x at ci hsucc
      have HX := Lib.hid hx
      clear hx
      cases he : (x == s)
      · have hs0 : listN (fun i => st i == s) (i + 1) = zs := by rw [hsucc]; simp [HX.out, he]
        have ho2 : OwnZ w.heap.size wr (.slice lo lm lc) (listN (fun i => st i == s) (i + 1)) := by rw [hs0]; exact ho
        clear hsucc hs0 ho hlen
        go_wp2
        go_roundw
        case rel => exact ⟨i + 1, by omega, by go_num, ho2, hb⟩
        case measure => simp [intOf]; omega
      · have hs0 : listN (fun i => st i == s) (i + 1) = zs ++ [(i : Int)] := by rw [hsucc]; simp [HX.out, he]
        obtain ⟨v2, w2, hr2, o2, bl2⟩ := own_pushZ ho (i : Int) hb.size hlen
        obtain ⟨lo2, lm2, lc2, hv2, -⟩ := o2.form'
        subst hv2
        rw [← hs0] at o2
        have hbz := build_z (i : Int) wr
        have hb2 := hb.trans bl2
        have HR2 := Lib.hid hr2
        clear hsucc hs0 ho hlen hr2 bl2
        go_wp2_with (with_reducible refine wpList_append_own rfl (.tmp 25) (.tmp 27) 22 22 rfl (.slice lo lm lc) (.slice (some ⟨wr.heap.size, 0, none⟩) 1 1) (.slice lo2 lm2 lc2) rfl rfl HR2.out ?_)
        go_roundw
        case rel => exact ⟨i + 1, by omega, by go_num, o2, hb2⟩
        case measure => simp [intOf]; omega
    · obtain rfl : i = n := by omega
      have FIN : Hid (ListPost w (listN (fun j => st j == s) i) (.returned (.slice lo lm lc)) wr) := Lib.hid ⟨_, rfl, ho, hb⟩
      clear cs ho hb hlen
      go_wp2
      go_ret
      exact FIN.out
end Go.Proofs.YtkmaikmbjebjeaaDoor
