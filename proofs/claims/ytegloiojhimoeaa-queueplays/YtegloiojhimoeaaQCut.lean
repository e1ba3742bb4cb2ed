/- The contract of the document's cut. No statement of the seat is proved here. -/
import Derived.Test.YtegloiojhimoeaaQRef
import Derived.Deep.RegionLaw
namespace Go.Proofs.Ytegloiojhimoeaa
open Go.RowKit

theorem infoR : ∃ i, Try.prog.info? 60 = some i ∧ i.zero = some (.agg #[.int .i64 0, .float .f64 0]) ∧ i.size = 2 ∧ i.bytes = 16 := by
  have h : (Try.prog.info? 60).map (fun i => (i.zero, i.size, i.bytes)) = some (some (.agg #[.int .i64 0, .float .f64 0]), 2, 16) := by kernel_rfl
  cases hq : Try.prog.info? 60 with
  | none => rw [hq] at h; simp at h
  | some i => rw [hq] at h; simp at h; exact ⟨i, rfl, h.1, h.2.1, h.2.2⟩
theorem cellsE_one (M : List Wt) : ∀ u ∈ cellsE M, u.oneCell' = true := by
  intro u hu
  unfold cellsE at hu
  obtain ⟨x, _, h⟩ := List.mem_flatMap.1 hu
  simp only [entC, List.mem_cons, List.not_mem_nil, or_false] at h
  rcases h with rfl | rfl <;> rfl
theorem cellsE_len (M : List Wt) : (cellsE M).length = M.length * 2 := by
  unfold cellsE
  induction M with
  | nil => rfl
  | cons x M ih => simp only [List.flatMap_cons, List.length_append, ih, List.length_cons]; simp [entC]; omega
theorem cellsE_app (A B : List Wt) : cellsE (A ++ B) = cellsE A ++ cellsE B := by simp [cellsE]
/-- The cells of a row from place k on. -/
theorem cells_from {w : World} {g n cap : Nat} {S : List Wt} (h : w.ownsRow 0 60 2 (.slice (some ⟨g, 0, none⟩) n cap) n (cellsE S)) (hn : n = S.length) (A B C : List Wt) (hS : S = A ++ B ++ C) : ∀ j u, (cellsE B)[j]? = some u → w.cell? ⟨g, A.length * 2 + j, none⟩ = some u := fun j u hj => by
  subst hn
  have hl := (List.getElem?_eq_some_iff.1 hj).1
  rw [cellsE_len] at hl
  rw [World.ownsRow.cellAt h (A.length * 2 + j) (by rw [hS]; simp; omega), hS, cellsE_app, cellsE_app, List.append_assoc, List.getElem?_append_right (by rw [cellsE_len]; omega), cellsE_len, Nat.add_sub_cancel_left, List.getElem?_append_left (by rw [cellsE_len]; exact hl)]
  exact hj
theorem own_app {base : Nat} {w : World} {v : Value} {M B : List Wt} {a : Addr} {m c : Nat} (h : w.ownsRow base 60 2 v M.length (cellsE M)) (hm : m = B.length) (hc : ∀ j u, (cellsE B)[j]? = some u → w.cell? (a.add j) = some u) (hl : M.length + m ≤ 100000) (hb : base ≤ w.heap.size) :
    ∃ ao cap w', (Builtin.append_ #[27, 27] 27 #[v, .slice (some a) m c]).run Try.prog w = .ok (.slice ao (M.length + m) cap) w' ∧ w'.ownsRow base 60 2 (.slice ao (M.length + m) cap) (M.length + m) (cellsE (M ++ B)) ∧ w.grownBy w' v.ownBlock ∧ Below base w w' := by
  obtain ⟨i, hi, hi0, hi1, hi2⟩ := infoR
  obtain ⟨v', w', hr, ho, hg, -, -⟩ := run_append_own_at (P := Try.prog) w base 27 27 60 i (.agg #[.int .i64 0, .float .f64 0]) 2 16 Try.underlying27 hi hi0 hi1 hi2 rfl (by decide) v M.length (cellsE M) h a m c (cellsE B) (by rw [cellsE_len, hm]) hc (cellsE_one B) (by unfold maxLen; omega) (by omega) hb
  obtain ⟨ao, cap, rfl, -, -⟩ := ownsRow_form ho
  rw [← cellsE_app] at ho
  exact ⟨ao, cap, w', hr, ho, hg, (Below.refl _ _).grown hg hb (fun k hk => (World.ownsRow.lt h k hk).1)⟩
set_option maxRecDepth 20000 in
set_option maxHeartbeats 1600000 in
theorem cut_any {X : Nat → Prop} {w : World} {rb : Nat} {S A C : List Wt} {x : Wt} (h : RAt X w rb S) (hS : S = A ++ [x] ++ C) (hl : S.length ≤ 10000) : Calls Try.prog 44 #[.pointer (some ⟨rb, 0, none⟩), .int .i64 A.length] w fun e w' => e = .returned (.tuple #[]) ∧ RAt X w' rb (A ++ C) ∧ Kp X w w' := by
  obtain ⟨ao, cap, c0, hcap, ho, hc⟩ := h.form
  have hlen : S.length = A.length + 1 + C.length := by rw [hS]; simp; omega
  obtain ⟨g, rfl, -, -⟩ := hc A.length (by omega)
  have hgl : g < w.heap.size := (World.ownsRow.lt ho g rfl).2
  -- the first append, in a world with the new empty row
  have o1 : (w.drew.alloc (.cells #[] 60)).ownsRow w.heap.size 60 2 (.slice (some ⟨w.heap.size, 0, none⟩) 0 0) ([] : List Wt).length (cellsE []) := World.ownsRow_made w.drew #[] 0 (Nat.le_refl _) (by simp [maxLen]) rfl
  have ho1 : (w.drew.alloc (.cells #[] 60)).ownsRow 0 60 2 (.slice (some ⟨g, 0, none⟩) S.length cap) S.length (cellsE S) := World.ownsRow.alloc (w := w.drew) ho _
  obtain ⟨a1, k1, w2, r1, o2, g2, b2⟩ := own_app (a := ⟨g, 0, none⟩) (c := cap) o1 (B := A) rfl (fun j u hj => by
    have := cells_from ho1 rfl [] A ([x] ++ C) (by rw [hS]; simp) j u hj
    rw [Addr.add_mid]; simpa using this) (by simp; omega) (by simp)
  simp only [List.length_nil, Nat.zero_add, List.nil_append] at r1 o2
  have ho2 : w2.ownsRow 0 60 2 (.slice (some ⟨g, 0, none⟩) S.length cap) S.length (cellsE S) := ownsRow_keep ho1 (fun k hk => by
    simp only [Value.ownBlock, Option.some.injEq] at hk
    subst hk
    exact g2.block g (by simp; omega) (fun e => by simp [Value.ownBlock] at e; omega))
  obtain ⟨a3, k3, w3, r2, o3, g3, b3⟩ := own_app (a := if cap = A.length + 1 then ⟨g, 0, none⟩ else ⟨g, (A.length + 1) * 2, none⟩) (c := cap - (A.length + 1)) o2 (B := C) rfl (fun j u hj => by
    by_cases e : cap = A.length + 1
    · have hC : C = [] := List.eq_nil_of_length_eq_zero (by omega)
      rw [hC] at hj
      simp [cellsE] at hj
    · rw [if_neg e]
      have := cells_from ho2 rfl (A ++ [x]) C [] (by rw [hS]; simp) j u hj
      rw [Addr.add_mid]; simpa using this) (by omega) (by have h2 : w.heap.size + 1 ≤ w2.heap.size := (by simpa using b2.size); omega)
  obtain ⟨lv, hbox, -, hlx⟩ := h.box
  have elv : lv = .slice (some ⟨g, 0, none⟩) S.length cap := by
    have := (cell_row hbox 0 rfl).symm.trans c0
    simpa using this
  subst elv
  have hrl : rb < w.heap.size := lt_of_heap hbox
  have h2s : w.heap.size + 1 ≤ w2.heap.size := by simpa using b2.size
  have hrg : rb ≠ g := by
    obtain ⟨cur, hcur⟩ : ∃ cur, w.heap[g]? = some (.cells cur 60 (0, 0)) := by
      rcases ho.2 with ⟨h', _⟩ | ⟨g', cap', cur, h', _, hg, _⟩
      · simp at h'
      · simp only [Value.slice.injEq, Option.some.injEq, Addr.mk.injEq, and_true, true_and] at h'
        obtain ⟨rfl, rfl⟩ := h'
        exact ⟨cur, hg⟩
    exact ne_of_obj hbox hcur (by decide)
  have ba : Below w.heap.size w (w.drew.alloc (.cells #[] 60)) := ((Below.refl w.heap.size w).drew).alloc (Nat.le_refl _) _
  have bb2 : Below w.heap.size w w2 := ba.trans b2
  have bb3 : Below w.heap.size w w3 := bb2.trans b3
  have hbox3 := (bb3.block rb hrl).trans hbox
  have c0a : (w.alloc (.cells #[] 60)).cell? ⟨rb, 0, none⟩ = some (.slice (some ⟨g, 0, none⟩) S.length cap) := (ba.cell (p := ⟨rb, 0, none⟩) hrl).trans c0
  have c02 : w2.cell? ⟨rb, 0, none⟩ = some (.slice (some ⟨g, 0, none⟩) S.length cap) := (bb2.cell (p := ⟨rb, 0, none⟩) hrl).trans c0
  have c03 : w3.cell? ⟨rb, 0, none⟩ = some (.slice (some ⟨g, 0, none⟩) S.length cap) := cell_row hbox3 0 rfl
  have f03 := free_row hbox3 0
  -- the end
  have hnew : ∀ k, (Value.slice a3 (A.length + C.length) k3).ownBlock = some k → w.heap.size ≤ k := fun k hk => (World.ownsRow.lt o3 k hk).1
  have hq4 : (w3.setCell ⟨rb, 0, none⟩ (.slice a3 (A.length + C.length) k3)).heap[rb]? = some (.cells #[.slice a3 (A.length + C.length) k3] 29 (0, 0)) := heap_setCell_same w3 rb 0 _ _ _ hbox3
  have o4 := ownsRow_setCell_other o3 (a := ⟨rb, 0, none⟩) (fun e => by have := hnew _ e; simp at this; omega) (.slice a3 (A.length + C.length) k3)
  have kp4 : Kp X w (w3.setCell ⟨rb, 0, none⟩ (.slice a3 (A.length + C.length) k3)) := (Kp.of_below bb3).setCell h.ro _
  have R4 : RAt X (w3.setCell ⟨rb, 0, none⟩ (.slice a3 (A.length + C.length) k3)) rb (A ++ C) :=
    ⟨fun k e => Nat.lt_of_lt_of_le (h.lt k e) kp4.size, h.ro, _, hq4, by rw [List.length_append]; exact ownsRow_base o4 (fun _ _ => Nat.zero_le _), fun k hk e => by have h1 := hnew k hk; have h2 := h.lt k e; omega⟩
  have FIN := Lib.hid (And.intro R4 kp4)
  have HR1 : Hid ((Builtin.append_ #[27, 27] 27 #[.slice (some ⟨w.heap.size, 0, none⟩) 0 0, .slice (some ⟨g, 0, none⟩) A.length cap]).run Try.prog (w.alloc (.cells #[] 60)).drew = .ok (.slice a1 A.length k1) w2) := r1
  have hCl : S.length - (A.length + 1) = C.length := by omega
  have HR2 : Hid ((Builtin.append_ #[27, 27] 27 #[.slice a1 A.length k1, .slice (if cap = A.length + 1 then some ⟨g, 0, none⟩ else some ⟨g, (A.length + 1) * 2, none⟩) (S.length - (A.length + 1)) (cap - (A.length + 1))]).run Try.prog w2 = .ok (.slice a3 (A.length + C.length) k3) w3) := by
    rw [hCl, show (if cap = A.length + 1 then some (⟨g, 0, none⟩ : Addr) else some ⟨g, (A.length + 1) * 2, none⟩) = some (if cap = A.length + 1 then ⟨g, 0, none⟩ else ⟨g, (A.length + 1) * 2, none⟩) by split <;> rfl]; exact r2
  have e1 : IntKind.i64.wrap ((A.length : Int) + 1) = ((A.length + 1 : Nat) : Int) := by rw [IntKind.wrap_i64]; omega
  have i1 : A.length ≤ S.length := by omega
  have i2 : A.length + 1 ≤ S.length := by omega
  have i3 : A.length ≤ cap := by omega
  have i4 : A.length + 1 ≤ cap := by omega
  clear r1 r2 o1 ho1 o2 ho2 g2 g3 b2 b3 o3 hc ho h hlen hCl R4 kp4 o4 hq4 hnew hbox3 bb3 bb2 ba hbox hlx hS
  generalize S.length = n at *
  generalize A.length = i at *
  generalize hi1 : i + 1 = i1' at *
  go_enter Try.func44, Try.ntmps44
  go_wp2_with fail
  go_region_law (first | (refine step_value (v := .slice a1 i k1) (w1 := w2) rfl (exec_append (s := .tmp 5) (x := .tmp 11) (t := 27) (v0 := .slice (some ⟨w.heap.size, 0, none⟩) 0 0) (v1 := .slice (some ⟨g, 0, none⟩) i cap) rfl rfl rfl HR1.out) ?_) | (refine step_value (v := .slice a3 (i + C.length) k3) (w1 := w3) rfl (exec_append (s := .tmp 12) (x := .tmp 19) (t := 27) (v0 := .slice a1 i k1) (v1 := .slice (if cap = i1' then some ⟨g, 0, none⟩ else some ⟨g, i1' * 2, none⟩) (n - i1') (cap - i1')) rfl rfl rfl HR2.out) ?_))
  all_goals go_wp2
  all_goals go_end0
  all_goals exact ⟨rfl, FIN.out⟩
end Go.Proofs.Ytegloiojhimoeaa
