/- The contract of slices.SortFunc over the queue's waiters. No statement of the seat is proved here. -/
import Derived.Test.YtegloiojhimoeaaQKnown
import Derived.Test.YtegloiojhimoeaaQShelf
namespace Go.Proofs.Ytegloiojhimoeaa
open Go.RowKit

theorem ordI_iff (a b : Wt) : ordI a b < 0 ↔ key a.pr < key b.pr ∨ (key a.pr = key b.pr ∧ a.turn < b.turn) := by
  unfold ordI cmpB
  rcases cmpI_cases (key a.pr) (key b.pr) with ⟨h, e⟩ | ⟨h, e⟩ | ⟨h, e⟩ <;> rw [e]
  · rw [if_pos (by decide)]; omega
  · rw [if_pos (by decide)]; omega
  · rw [if_neg (by decide), cmpI_lt, h]; omega
def Asc (M : List Wt) : Prop := M.Pairwise (fun a b => ¬ ordI b a < 0)
def SortPost (L0 : List Wt) (blk : Nat) (w w' : World) : Prop :=
  ∃ L1 : List Wt, L1.Perm L0 ∧ Asc L1 ∧ (∀ i, i < L1.length → w'.cell? ⟨blk, i, none⟩ = some (ptrW (at' L1 i))) ∧ w.grownBy w' (some blk)
section
variable {L0 : List Wt}
def encQ (x : {x : Wt // x ∈ L0}) : Value := ptrW x.1
def cfQ (x y : {x : Wt // x ∈ L0}) : Int := ordI x.1 y.1
theorem swoQ : Sort.SWO (ltOf (cfQ (L0 := L0))) where
  irrefl x := by simp only [ltOf, cfQ, decide_eq_false_iff_not, ordI_iff]; omega
  trans x y z h1 h2 := by simp only [ltOf, cfQ, decide_eq_true_eq, ordI_iff] at *; omega
  ntrans x y z h1 h2 := by simp only [ltOf, cfQ, decide_eq_false_iff_not, ordI_iff] at *; omega
theorem grow_world [Inhabited {x : Wt // x ∈ L0}] {w : World} {blk n : Nat} {os : Array Obj} (d : Array {x : Wt // x ∈ L0}) : w.grownBy (Sort.grow (Sort.putRow encQ (Sort.ahead w n) blk 0 d) os) (some blk) := by
  refine ⟨rfl, rfl, rfl, by simp, fun k hk hne => ?_⟩
  rw [Sort.heap_grow_old _ _ (by simpa using hk)]
  have : blk ≠ k := fun e => hne (by rw [e])
  simp [Sort.putRow, Sort.mapBlock, Sort.ahead, Array.getElem?_modify, this]
set_option maxRecDepth 20000 in
set_option maxHeartbeats 1600000 in
theorem sortQ_any {w : World} {base blk cap : Nat} (h0 : 0 < L0.length) (hn : L0.length ≤ 1000000) (ho : w.ownsRow base 66 1 (.slice (some ⟨blk, 0, none⟩) L0.length cap) L0.length (L0.map ptrW)) (hw : ∀ x ∈ L0, WtIn w x ∧ x.pr < 18446744073709551616 ∧ x.blk ≠ blk) :
    Calls Try.prog 32 #[.slice (some ⟨blk, 0, none⟩) L0.length cap, .func (.func 33) #[] #[]] w fun e w' => e = .returned (.tuple #[]) ∧ SortPost L0 blk w w' := by
  letI : Inhabited {x : Wt // x ∈ L0} := ⟨⟨at' L0 0, at_mem h0⟩⟩
  have hblk : blk < w.heap.size := (World.ownsRow.lt ho blk rfl).2
  have hds : (L0.attach.toArray).size = L0.length := by simp
  have hdj : ∀ j, j < L0.length → ((L0.attach.toArray)[j]!).1 = at' L0 j := fun j hj => by
    rw [getElem!_pos (L0.attach.toArray) j (by simpa using hj)]
    simp [at_eq hj]
  have hH : Sort.Holds encQ w blk 0 L0.attach.toArray := fun j hj => by
    rw [hds] at hj
    refine ⟨?_, World.ownsRow.frozenAt ho (0 + j)⟩
    rw [World.ownsRow.cellAt ho (0 + j) (by omega), Nat.zero_add, ptr_at hj]
    unfold encQ
    rw [hdj j hj]
  have eg : ∀ args w, (callFunc 33 args).run Try.prog w = .ok (.enter 33 args) w := enters_of Try.func33 (by kernel_rfl) rfl
  have hcmp : CmpLays1 Try.prog 33 #[] encQ (cfQ (L0 := L0)) blk 0 L0.attach.toArray.size w := by
    intro m os dk _ x y
    have hcell : ∀ z : {x : Wt // x ∈ L0}, WtIn (sortWorld encQ w blk 0 m dk os) z.1 := fun z => by
      obtain ⟨⟨c1, c2⟩, _, hne⟩ := hw z.1 z.2
      have f : ∀ i v, w.cell? ⟨z.1.blk, i, none⟩ = some v → (sortWorld encQ w blk 0 m dk os).cell? ⟨z.1.blk, i, none⟩ = some v := fun i v hc => by
        have hl := World.block_lt_of_cell? _ _ hc
        unfold sortWorld
        rw [Sort.cell?_grow _ _ _ (by simpa using hl), Sort.cell?_putRow_other _ _ _ _ _ _ (Or.inl hne)]
        exact hc
      exact ⟨f _ _ c1, f _ _ c2⟩
    exact (order_any x.1 y.1 (hcell x) (hcell y) (hw x.1 x.2).2.1 (hw y.1 y.2).2.1)
  have hsz : L0.attach.toArray.size < 4611686018427387904 := by rw [hds]; omega
  have hlim : Lib.bitLen L0.attach.toArray.size < 4611686018427387904 := Nat.lt_of_le_of_lt (Lib.bitLen_le L0.attach.toArray.size 62 (by omega) (by omega)) (by omega)
  have hp := Any.pdqsortCmpFunc_all Try.pdqQ encQ (cfQ (L0 := L0)) 33 #[] swoQ blk 0 cap L0.attach.toArray w eg hcmp ⟨fun _ => rfl, hH, hblk⟩ (L0.attach.toArray.size + 1) 0 L0.attach.toArray.size (Lib.bitLen L0.attach.toArray.size) L0.attach.toArray w (by omega) rfl (SW.start hH) (Nat.zero_le _) (Nat.le_refl _) hsz hlim (Or.inl rfl)
  have hl := Any.bits_Len (SlLaysF0.n15.bits (P := Try.prog) (ρ := Try.pdqQ_ren) { Try.pdqQ with }) (L0.attach.toArray.size : Int) w (by omega) (by omega)
  rw [Int.toNat_natCast] at hl
  have hsort := Sort.pdq_sorts (ltOf (cfQ (L0 := L0))) swoQ L0.attach.toArray 0 L0.attach.toArray.size (Lib.bitLen L0.attach.toArray.size) true true (Nat.zero_le _) (Nat.le_refl _) (Or.inl rfl)
  generalize Sort.pdq (ltOf (cfQ (L0 := L0))) L0.attach.toArray 0 L0.attach.toArray.size (Lib.bitLen L0.attach.toArray.size) true true = d' at hp hsort
  have P : ∀ w', SW encQ w blk 0 d' w' → SortPost L0 blk w w' := by
    rintro w' ⟨n, os, rfl⟩
    obtain ⟨⟨p1, -, p3⟩, s1⟩ := hsort
    have hd'l : d'.toList.length = L0.length := by simp [p1]
    have pm : d'.toList.Perm L0.attach := by
      have e1 : d'.extract 0 L0.attach.toArray.size = d' := by rw [← p1]; simp
      rw [e1, Array.extract_size] at p3
      simpa using p3
    refine ⟨d'.toList.map (·.1), ?_, ?_, fun i hi => ?_, grow_world d'⟩
    · have := pm.map (fun x : {x : Wt // x ∈ L0} => x.1)
      rwa [List.attach_map_subtype_val] at this
    · unfold Asc
      rw [List.pairwise_map, List.pairwise_iff_getElem]
      intro i j hi hj hij
      have hj' : j < d'.size := by simpa using hj
      have := s1 i j (Nat.zero_le _) hij (by rw [← p1]; exact hj')
      rw [getElem!_pos d' j hj', getElem!_pos d' i (by omega)] at this
      simp only [Array.getElem_toList]
      exact of_decide_eq_false this
    · have hi' : i < d'.size := by simpa using hi
      unfold sortWorld
      rw [Sort.cell?_grow _ _ _ (by simpa using hblk)]
      have := Sort.cell?_putRow encQ (Sort.ahead w n) blk 0 L0.attach.toArray d' hH p1 i hi'
      rw [Nat.zero_add] at this
      rw [this, getElem!_pos d' i hi', at_eq hi]
      simp [encQ]
  have HP := Lib.hid P
  have wr : IntKind.u64.wrap (L0.length : Int) = L0.length := by simp [IntKind.wrap, IntKind.bits, IntKind.signed]; omega
  rw [hds] at hp hl
  clear P hsort hcmp hH hdj eg ho hw hds hsz hlim
  have HPQ : Hid (Calls Try.prog 47 _ w _) := hp
  have HL : Hid (Calls Try.prog 48 #[.int .u64 (L0.length : Int)] w _) := hl
  clear hp hl
  generalize Lib.bitLen L0.length = bl at HPQ HL
  generalize L0.length = n at HPQ HL wr ⊢
  go_enter Try.func32, Try.ntmps32
  go_wp2_with fail
  refine HL.out.mono ?_
  rintro e _ ⟨rfl, rfl⟩
  go_wp2_with fail
  refine HPQ.out.mono ?_
  rintro e w2 ⟨rfl, hs⟩
  have FIN := Lib.hid (HP.out w2 hs)
  clear hs HP HPQ HL
  go_wp2
  go_end0
  exact ⟨rfl, FIN.out⟩
end
end Go.Proofs.Ytegloiojhimoeaa
