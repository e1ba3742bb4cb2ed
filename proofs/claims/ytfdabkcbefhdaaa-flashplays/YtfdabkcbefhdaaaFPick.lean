/- The contracts of flash's Arm, Erase, New, pick, and of the document's Pick. No statement of the seat is proved here. -/
import Derived.Test.YtfdabkcbefhdaaaFSmall
namespace Go.Proofs.Ytfdabkcbefhdaaa
set_option maxRecDepth 20000
open Go.RowKit

/-- A slice of ints that reads as zs in w, and goes on doing so while blocks of K's kinds from B on are turned. -/
def Ints (K : Obj → Bool) (B : Nat) (w : World) (v : Value) (zs : List Int) : Prop :=
  ∃ ao cap, v = .slice ao zs.length cap ∧ zs.length ≤ 9223372036854775807 ∧ ∀ i, i < zs.length → ∃ b off o, ao = some ⟨b, off, none⟩ ∧ w.heap[b]? = some o ∧ (b < B ∨ K o = false) ∧ w.cell? ⟨b, off + i, none⟩ = some (.int .i64 (zs.getD i 0))
theorem Ints.nil (K : Obj → Bool) (B : Nat) (w : World) : Ints K B w (.slice none 0 0) [] := ⟨none, 0, rfl, by simp, fun i h => by simp at h⟩
theorem Ints.fr {K : Obj → Bool} {B : Nat} {w w' : World} {v : Value} {zs : List Int} (h : Ints K B w v zs) (hf : Fr K B w w') : Ints K B w' v zs := by
  obtain ⟨ao, cap, hv, hl, hc⟩ := h
  refine ⟨ao, cap, hv, hl, fun i hi => ?_⟩
  obtain ⟨b, off, o, h1, h2, h3, h4⟩ := hc i hi
  have h5 := hf.keep _ _ h2 h3
  exact ⟨b, off, o, h1, h5, h3, by rw [World.cell?_of_block (h5.trans h2.symm)]; exact h4⟩

def pickOf (zs : List Int) (i : Nat) : Int := if i < zs.length then (zs.getD i 0) % 3 else 0
theorem tmod3 (z : Int) : -2 ≤ z.tmod 3 ∧ z.tmod 3 ≤ 2 := by rw [Int.tmod_eq_emod]; split <;> simp <;> omega
theorem tmod3_eq (z : Int) : (z.tmod 3 + 3) % 3 = z % 3 := by rw [Int.tmod_eq_emod]; split <;> simp <;> omega
theorem pick_range (zs : List Int) (i : Nat) : 0 ≤ pickOf zs i ∧ pickOf zs i ≤ 2 := by unfold pickOf; split <;> omega

set_option maxHeartbeats 400000 in
theorem pick_any {K : Obj → Bool} {B : Nat} {w : World} {v : Value} {zs : List Int} (h : Ints K B w v zs) (i : Nat) (_hi : i ≤ 9223372036854775807) :
    Calls Try.prog 27 #[v, .int .i64 i] w fun e w' => e = .returned (.int .i64 (pickOf zs i)) ∧ w = w' := by
  obtain ⟨ao, cap, rfl, hle, hc⟩ := h
  by_cases hlt : i < zs.length
  · obtain ⟨b, off, o, rfl, -, -, hcell⟩ := hc i hlt
    clear hc
    have HP : Hid (pickOf zs i = (zs.getD i 0) % 3) := by unfold pickOf; rw [if_pos hlt]; exact rfl
    generalize hz : zs.getD i 0 = z at hcell HP
    clear hz
    have hb := tmod3 z
    have HE := Lib.hid (tmod3_eq z)
    go_enter Try.func27, Try.ntmps27
    go_wp2
    go_ret
    refine ⟨?_, rfl⟩
    rw [HP.out]
    first | rfl | (rw [HE.out]; rfl) | (rw [← HE.out]; rfl)
  · have hp : pickOf zs i = 0 := by unfold pickOf; rw [if_neg hlt]
    have HP := Lib.hid hp
    clear hp hc
    go_enter Try.func27, Try.ntmps27
    go_wp2
    go_ret
    exact ⟨by rw [HP.out]; rfl, rfl⟩
set_option maxHeartbeats 400000 in
theorem Pick_any {K : Obj → Bool} {B : Nat} {w : World} {v : Value} {zs : List Int} (h : Ints K B w v zs) (i : Nat) (_hi : i ≤ 9223372036854775807) :
    Calls Try.prog 21 #[v, .int .i64 i] w fun e w' => e = .returned (.int .i64 (pickOf zs i)) ∧ w = w' := by
  obtain ⟨ao, cap, rfl, hle, hc⟩ := h
  by_cases hlt : i < zs.length
  · obtain ⟨b, off, o, rfl, -, -, hcell⟩ := hc i hlt
    clear hc
    have HP : Hid (pickOf zs i = (zs.getD i 0) % 3) := by unfold pickOf; rw [if_pos hlt]; exact rfl
    generalize hz : zs.getD i 0 = z at hcell HP
    clear hz
    have hb := tmod3 z
    have HE := Lib.hid (tmod3_eq z)
    go_enter Try.func21, Try.ntmps21
    go_wp2
    go_ret
    refine ⟨?_, rfl⟩
    rw [HP.out]
    first | rfl | (rw [HE.out]; rfl) | (rw [← HE.out]; rfl)
  · have hp : pickOf zs i = 0 := by unfold pickOf; rw [if_neg hlt]
    have HP := Lib.hid hp
    clear hp hc
    go_enter Try.func21, Try.ntmps21
    go_wp2
    go_ret
    exact ⟨by rw [HP.out]; rfl, rfl⟩

/-! ### Arm, Erase, New -/
set_option maxHeartbeats 400000 in
theorem arm_any {B : Nat} {w : World} {db : Nat} {d : Dev} {N : Nat} (h : DevAt B w db d N) (n : Int) (hn : n ≤ 9223372036854775807) :
    Calls Try.prog 22 #[.pointer (some ⟨db, 0, none⟩), .int .i64 n] w fun e w' => e = .returned (.tuple #[]) ∧ DevAt B w' db (d.arm n) N ∧ Fr FK B w w' := by
  obtain ⟨mv, sv, -, -, -, -, c4, c5, fz, -, -⟩ := h.cells
  have f4 := fz 4
  have f5 := fz 5
  clear fz
  obtain ⟨s1, r1⟩ := h.store (d' := { d with armed := decide (0 ≤ n) }) 4 (.bool (decide (0 ≤ n))) ⟨h.ok.1, h.ok.2, h.ok.3, h.ok.4, h.ok.5⟩ (fun _ _ => by simp) rfl rfl
  obtain ⟨s2, r2⟩ := s1.store (d' := d.arm n) 5 (.int .i64 (max n 0)) ⟨h.ok.1, by simp [Dev.arm]; omega, h.ok.3, h.ok.4, h.ok.5⟩ (fun _ _ => by simp [Dev.arm]) rfl rfl
  have ST := Lib.hid (And.intro s2 (r1.trans r2))
  clear s1 s2 r1 r2 h
  by_cases hn0 : 0 ≤ n
  · have e1 : decide (0 ≤ n) = true := by simpa using hn0
    have e2 : max n 0 = n := by omega
    rw [e1, e2] at ST
    clear e1 e2
    go_enter Try.func22, Try.ntmps22
    go_wp2
    go_returns
    exact ⟨rfl, ST.out⟩
  · have e1 : decide (0 ≤ n) = false := by simpa using hn0
    have e2 : max n 0 = 0 := by omega
    rw [e1, e2] at ST
    clear e1 e2
    go_enter Try.func22, Try.ntmps22
    go_wp2
    go_returns
    exact ⟨rfl, ST.out⟩

theorem fresh_ok (n : Nat) (h : n ≤ 4096) : (Dev.fresh n).Ok := ⟨h, by simp [Dev.fresh], by simp [Dev.fresh], by simp [Dev.fresh], fun _ => zeros_length⟩
theorem devAt_new (B : Nat) (w : World) (n : Nat) (hn : n ≤ 4096) (hB : B ≤ w.heap.size) : DevAt B (w.alloc (.cells #[.int .i64 n, .map none, .slice none 0 0, .bool false, .bool false, .int .i64 0] 61)) w.heap.size (Dev.fresh n) 0 :=
  ⟨fresh_ok n hn, hB, .map none, .slice none 0 0, heap_alloc_new w _, Or.inl ⟨rfl, fun _ => rfl⟩, World.ownsRow_nil _ _ _ _⟩
set_option maxHeartbeats 400000 in
theorem new_any (B : Nat) (w : World) (n : Nat) (h1 : 1 ≤ n) (h2 : n ≤ 4096) (hB : B ≤ w.heap.size) :
    Calls Try.prog 11 #[.int .i64 n] w fun e w' => e = .returned (.tuple #[.pointer (some ⟨w.heap.size, 0, none⟩), .int .i64 0]) ∧ DevAt B w' w.heap.size (Dev.fresh n) 0 ∧ Below w.heap.size w w' ∧ w.heap.size < w'.heap.size := by
  have HD := Lib.hid (devAt_new B w n h2 hB)
  go_enter Try.func11, Try.ntmps11
  go_wp2
  go_ret2
  exact ⟨rfl, HD.out, (Below.refl _ _).alloc (Nat.le_refl _) _, by simp⟩
set_option maxHeartbeats 400000 in
theorem new_no (w : World) (n : Int) (h : n < 1 ∨ 4096 < n) :
    Calls Try.prog 11 #[.int .i64 n] w fun e w' => e = .returned (.tuple #[.pointer none, .int .i64 1]) ∧ w = w' := by
  rcases h with h | h
  · go_enter Try.func11, Try.ntmps11
    go_wp2
    go_ret2
    exact ⟨rfl, rfl⟩
  · have h' : ¬ n < 1 := by omega
    go_enter Try.func11, Try.ntmps11
    go_wp2
    go_ret2
    exact ⟨rfl, rfl⟩

/-- Six stores that write a whole device anew. -/
theorem six_heap {w : World} {db : Nat} {a0 a1 a2 a3 a4 a5 : Value} {t : TypeId} (h : w.heap[db]? = some (.cells #[a0, a1, a2, a3, a4, a5] t (0, 0))) (v0 v1 v2 v3 v4 v5 : Value) :
    ((((((w.setCell ⟨db, 0, none⟩ v0).setCell ⟨db, 1, none⟩ v1).setCell ⟨db, 2, none⟩ v2).setCell ⟨db, 3, none⟩ v3).setCell ⟨db, 4, none⟩ v4).setCell ⟨db, 5, none⟩ v5).heap[db]? = some (.cells #[v0, v1, v2, v3, v4, v5] t (0, 0)) := by
  have h0 := heap_setCell_same w db 0 _ t v0 h
  have h1 := heap_setCell_same _ db 1 _ t v1 h0
  have h2 := heap_setCell_same _ db 2 _ t v2 h1
  have h3 := heap_setCell_same _ db 3 _ t v3 h2
  have h4 := heap_setCell_same _ db 4 _ t v4 h3
  have h5 := heap_setCell_same _ db 5 _ t v5 h4
  simpa using h5
theorem six_other {w : World} {db k : Nat} (v0 v1 v2 v3 v4 v5 : Value) (hk : k ≠ db) :
    ((((((w.setCell ⟨db, 0, none⟩ v0).setCell ⟨db, 1, none⟩ v1).setCell ⟨db, 2, none⟩ v2).setCell ⟨db, 3, none⟩ v3).setCell ⟨db, 4, none⟩ v4).setCell ⟨db, 5, none⟩ v5).heap[k]? = w.heap[k]? := by
  rw [Below.heap_setCell _ _ _ _ hk, Below.heap_setCell _ _ _ _ hk, Below.heap_setCell _ _ _ _ hk, Below.heap_setCell _ _ _ _ hk, Below.heap_setCell _ _ _ _ hk, Below.heap_setCell _ _ _ _ hk]
theorem fr_of_other {K : Obj → Bool} {B : Nat} {w w' : World} {db : Nat} {o : Obj} (h : w.heap[db]? = some o) (hB : B ≤ db) (hK : K o = true) (hos : w'.os = w.os) (ht : w'.tape = w.tape) (hout : w'.output = w.output) (hs : w'.heap.size = w.heap.size)
    (hoth : ∀ k, k ≠ db → w'.heap[k]? = w.heap[k]?) : Fr K B w w' :=
  ⟨hos, ht, hout, Nat.le_of_eq hs.symm, fun k o' hk hko => by
    have hne : k ≠ db := by
      rintro rfl
      rw [h] at hk; cases hk
      rcases hko with hko | hko
      · omega
      · rw [hK] at hko; cases hko
    rw [hoth k hne]; exact hk⟩
theorem os_setCell (w : World) (p : Addr) (v : Value) : (w.setCell p v).os = w.os := rfl
theorem tape_setCell (w : World) (p : Addr) (v : Value) : (w.setCell p v).tape = w.tape := rfl
theorem output_setCell (w : World) (p : Addr) (v : Value) : (w.setCell p v).output = w.output := rfl
theorem six_fr {K : Obj → Bool} {B : Nat} {w : World} {db : Nat} {o : Obj} (h : w.heap[db]? = some o) (hB : B ≤ db) (hK : K o = true) (v0 v1 v2 v3 v4 v5 : Value) :
    Fr K B w ((((((w.setCell ⟨db, 0, none⟩ v0).setCell ⟨db, 1, none⟩ v1).setCell ⟨db, 2, none⟩ v2).setCell ⟨db, 3, none⟩ v3).setCell ⟨db, 4, none⟩ v4).setCell ⟨db, 5, none⟩ v5) := by
  refine fr_of_other h hB hK ?_ ?_ ?_ ?_ (fun k hk => six_other _ _ _ _ _ _ hk)
  · simp only [os_setCell]
  · simp only [tape_setCell]
  · simp only [output_setCell]
  · simp only [World.size_setCell]
/-- .. with the map that it had, and nothing that waits. -/
theorem DevAt.again {B : Nat} {w : World} {db : Nat} {d d' : Dev} {N N' : Nat} (h : DevAt B w db d N) {mv mv' : Value} (hm : LastIs B w mv d'.last N')
    (hmv : mv' = mv) (hd : d'.Ok) (hw : d'.waits = []) :
    DevAt B ((((((w.setCell ⟨db, 0, none⟩ (.int .i64 d'.size)).setCell ⟨db, 1, none⟩ mv').setCell ⟨db, 2, none⟩ (.slice none 0 0)).setCell ⟨db, 3, none⟩ (.bool d'.off)).setCell ⟨db, 4, none⟩ (.bool d'.armed)).setCell ⟨db, 5, none⟩ (.int .i64 d'.left)) db d' N' := by
  subst hmv
  obtain ⟨ok, ge, mv0, sv, h1, h2, h3⟩ := h
  refine ⟨hd, ge, mv', .slice none 0 0, six_heap h1 _ _ _ _ _ _, hm.of_map (fun k es c hk => ?_), ?_⟩
  · rw [six_other _ _ _ _ _ _ (by rintro rfl; rw [h1] at hk; cases hk)]; exact hk
  · rw [hw]; exact World.ownsRow_nil _ _ _ _

def Dev.erase (d : Dev) : Dev := Dev.fresh d.size
set_option maxHeartbeats 400000 in
theorem erase_any {B : Nat} {w : World} {db : Nat} {d : Dev} {N : Nat} (h : DevAt B w db d N) :
    Calls Try.prog 23 #[.pointer (some ⟨db, 0, none⟩)] w fun e w' => e = .returned (.tuple #[]) ∧ DevAt B w' db d.erase 0 ∧ Fr FK B w w' := by
  obtain ⟨mv, sv, c0, c1, c2, c3, c4, c5, fz, -, -⟩ := h.cells
  have f0 := fz 0
  have f1 := fz 1
  have f2 := fz 2
  have f3 := fz 3
  have f4 := fz 4
  have f5 := fz 5
  clear fz
  go_enter Try.func23, Try.ntmps23
  go_wp2
  go_returns
  refine ⟨rfl, h.again (d' := d.erase) (mv := .map none) (Or.inl ⟨rfl, fun _ => rfl⟩) rfl (fresh_ok _ h.ok.size) rfl, ?_⟩
  obtain ⟨ok, ge, mv0, sv, h1, h2, h3⟩ := h
  exact six_fr h1 ge rfl _ _ _ _ _ _
end Go.Proofs.Ytfdabkcbefhdaaa
