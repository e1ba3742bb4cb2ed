/- The contracts of Settle, Copy, New. No statement of the seat is proved here. -/
import Derived.Test.YtkmaikmbjebjeaaDoorAMeth2
namespace Go.Proofs.YtkmaikmbjebjeaaDoor
set_option maxRecDepth 20000
open Go.RowKit

theorem setCells_put {b : Nat} {t : TypeId} : ∀ (vs : List Value) (o : Nat) (w : World) (cs : Array Value), w.heap[b]? = some (.cells cs t (0, 0)) → o + vs.length ≤ cs.size →
    ∃ cs', (w.setCells b o vs).heap[b]? = some (.cells cs' t (0, 0)) ∧ cs'.size = cs.size ∧ (∀ j, j < o ∨ o + vs.length ≤ j → cs'[j]? = cs[j]?) ∧ ∀ j, j < vs.length → cs'[o + j]? = vs[j]?
  | [], _, _, cs, h, _ => ⟨cs, h, rfl, fun _ _ => rfl, fun j hj => by simp at hj⟩
  | v :: r, o, w, cs, h, hl => by
    have hs := heap_setCell_same w b o cs t v h
    simp only [List.length_cons] at hl
    obtain ⟨cs', h1, h2, h3, h4⟩ := setCells_put r (o + 1) (w.setCell ⟨b, o, none⟩ v) _ hs (by simp; omega)
    refine ⟨cs', h1, by simpa using h2, fun j hj => ?_, fun j hj => ?_⟩
    · simp only [List.length_cons] at hj
      rw [h3 j (by omega)]
      rw [Array.getElem?_setIfInBounds_ne (by omega)]
    · cases j with
      | zero =>
        rw [Nat.add_zero, h3 o (by omega)]
        simp [Array.getElem?_setIfInBounds_self_of_lt (show o < cs.size by omega)]
      | succ j =>
        have := h4 j (by simpa using hj)
        rw [show o + (j + 1) = o + 1 + j by omega, this]; rfl
theorem setCells_away {b : Nat} : ∀ (vs : List Value) (o : Nat) (w : World), (w.setCells b o vs).os = w.os ∧ (w.setCells b o vs).tape = w.tape ∧ (w.setCells b o vs).output = w.output ∧ (w.setCells b o vs).heap.size = w.heap.size ∧ ∀ k, k ≠ b → (w.setCells b o vs).heap[k]? = w.heap[k]?
  | [], _, _ => ⟨rfl, rfl, rfl, rfl, fun _ _ => rfl⟩
  | v :: r, o, w => by
    obtain ⟨h1, h2, h3, h4, h5⟩ := setCells_away (b := b) r (o + 1) (w.setCell ⟨b, o, none⟩ v)
    refine ⟨h1.trans rfl, h2.trans rfl, h3.trans rfl, h4.trans (by simp [World.setCell]), fun k hk => (h5 k hk).trans ?_⟩
    rw [Below.heap_setCell _ _ _ _ hk]
theorem wpList_build0 {P : Program} {ops : Array Oper} {rest : List Oper} {o : Oper} {a : Act} {w : World} {Q : Exit → Act → World → Prop} (hgd : o.guard = none) (ty : TypeId) (ho : o.op = .build ty #[]) (v : Value)
    (hrun : (Instr.build ty #[]).run P w = .ok v w) (h : wpList P ops Q rest (a.put o.dst v) w) : wpList P ops Q (o :: rest) a w :=
  wpList_build_eq hgd ty #[] ho v (by simpa using hrun) h
def Z64 : List Value := List.replicate 64 (.int .u64 0)
theorem build49 (w : World) : (Instr.build 49 #[]).run Tryd.prog w = .ok (.agg Z64.toArray) w := by kernel_rfl
theorem wordOf_void (i : Nat) : wordOf (fun _ => false) i = 0 := bitsN_zero (fun _ _ => rfl)
theorem AlAt.void {w : World} {ab : Nat} {A : Al} (h : AlAt w ab A) : AlAt (w.setCells ab 65 Z64) ab A.settle ∧ Only ab w (w.setCells ab 65 Z64) := by
  obtain ⟨cs, hc, hs, h0, h1, h2, h3⟩ := h
  have hz : Z64.length = 64 := by simp [Z64]
  obtain ⟨cs', g1, g2, g3, g4⟩ := setCells_put Z64 65 w cs hc (by rw [hz, hs]; decide)
  obtain ⟨f1, f2, f3, f4, f5⟩ := setCells_away (b := ab) Z64 65 w
  rw [hz] at g3 g4
  refine ⟨⟨cs', g1, by omega, by rw [g3 0 (by omega)]; exact h0, fun i hi => by rw [g3 _ (by omega)]; exact h1 i hi, fun i hi => ?_, by rw [g3 129 (by omega)]; exact h3⟩, ⟨f1, f2, f3, by omega, fun k _ hk => f5 k hk⟩⟩
  rw [g4 i hi]
  show Z64[i]? = some (.int .u64 (wordOf (fun _ => false) i : Nat))
  rw [wordOf_void]
  unfold Z64
  rw [List.getElem?_replicate, if_pos hi]; rfl
theorem szSet : (Tryd.prog.info? 49).map (·.size) = some 64 := by kernel_rfl
set_option maxRecDepth 20000 in
set_option maxHeartbeats 1600000 in
theorem settle_any {w : World} {ab : Nat} {A : Al} (h : AlAt w ab A) : Calls Tryd.prog 18 #[.pointer (some ⟨ab, 0, none⟩)] w fun e w' => e = .returned (.int .i64 (cnt A.l 4096 : Nat)) ∧ AlAt w' ab A.settle ∧ Only ab w w' := by
  have hco := count_any h.sets.2.1
  have FIN := Lib.hid h.void
  have hz : Z64.toArray.size = 64 := by simp [Z64]
  have hth : w.there ab 65 64 := by
    obtain ⟨cs, hc, hs, -⟩ := h
    intro j hj
    refine ⟨?_, free_row hc _⟩
    rw [cell_of_row w ab _ cs _ _ hc]
    rw [Array.getElem?_eq_getElem (by omega)]; simp
  have H1 : Hid (Z64.toArray.all (·.oneCell') = true) := Lib.hid (by decide +kernel)
  have hi : (Tryd.prog.info? 49).map (·.size) = some Z64.toArray.size := by rw [hz]; exact szSet
  have hlist : Z64.toArray.toList = Z64 := by simp
  rw [← hz] at hth
  have hb := build49
  generalize hZ : Z64.toArray = ZA at *
  have HB := Lib.hid hb
  clear hb
  have HZ := Lib.hid hZ
  have HT := Lib.hid hth
  have HI := Lib.hid hi
  have HL := Lib.hid hlist
  clear h hz hZ hth hi hlist
  generalize cnt A.l 4096 = c at hco ⊢
  go_enter Tryd.func18, Tryd.ntmps18
  go_wp2_with fail
  refine Calls.mono hco ?_
  rintro e _ ⟨rfl, rfl⟩
  clear hco
  go_wp2_with (first | (with_reducible refine wpList_build0 rfl 49 rfl (.agg ZA) (HB.out _) ?_) | (with_reducible refine wpList_store_mid rfl 49 (.tmp 13) (.tmp 11) rfl ab 65 ZA rfl rfl HT.out HI.out H1.out ?_))
  rw [HL.out]
  go_wp2
  go_ret
  exact ⟨rfl, FIN.out⟩
end Go.Proofs.YtkmaikmbjebjeaaDoor
