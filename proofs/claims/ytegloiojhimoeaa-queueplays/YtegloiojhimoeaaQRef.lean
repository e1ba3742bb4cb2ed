/- The document's queue as it lies in memory ('RAt'); the contracts of its Place and First. No statement of the seat is proved here. -/
import Derived.Test.YtegloiojhimoeaaQHas
namespace Go.Proofs.Ytegloiojhimoeaa
open Go.RowKit

/-- The document's queue at block rb: S waits, in the order of pushing. -/
structure RAt (X : Nat → Prop) (w : World) (rb : Nat) (S : List Wt) : Prop where
  lt : ∀ k, X k → k < w.heap.size
  ro : ¬ X rb
  box : ∃ lv, w.heap[rb]? = some (.cells #[lv] 29 (0, 0)) ∧ w.ownsRow 0 60 2 lv S.length (cellsE S) ∧ ∀ k, lv.ownBlock = some k → ¬ X k
theorem RAt.keep {X X' : Nat → Prop} {w w' : World} {rb : Nat} {S : List Wt} (h : RAt X w rb S) (hk : ∀ (k : Nat) o, ¬ X k → w.heap[k]? = some o → w'.heap[k]? = some o) (hX : ∀ k, k < w.heap.size → X' k → X k) (hl : ∀ k, X' k → k < w'.heap.size) : RAt X' w' rb S := by
  obtain ⟨lt, ro, lv, h1, h2, h3⟩ := h
  refine ⟨hl, fun e => ro (hX _ (lt_of_heap h1) e), lv, hk _ _ ro h1, ownsRow_keep h2 (fun k hk' => ?_), fun k hk' e => h3 k hk' (hX _ (World.ownsRow.lt h2 k hk').2 e)⟩
  have hl := (World.ownsRow.lt h2 k hk').2
  have e : w.heap[k]? = some w.heap[k] := Array.getElem?_eq_getElem hl
  rw [hk k _ (h3 k hk') e, e]
theorem RAt.below {X : Nat → Prop} {w w' : World} {rb : Nat} {S : List Wt} (h : RAt X w rb S) (hb : Below w.heap.size w w') : RAt X w' rb S :=
  h.keep (fun k _ _ ho => (hb.block k (lt_of_heap ho)).trans ho) (fun _ _ e => e) (fun k e => Nat.lt_of_lt_of_le (h.lt k e) hb.size)
theorem RAt.wider {X : Nat → Prop} {w w' : World} {rb : Nat} {S : List Wt} (h : RAt X w rb S) (hb : Below w.heap.size w w') : RAt (fun k => X k ∨ (w.heap.size ≤ k ∧ k < w'.heap.size)) w' rb S :=
  h.keep (fun k _ _ ho => (hb.block k (lt_of_heap ho)).trans ho) (fun k hk e => by rcases e with e | e; exact e; omega) (fun k e => by rcases e with e | e; exact Nat.lt_of_lt_of_le (h.lt k e) hb.size; exact e.2)
theorem RAt.other {X Y : Nat → Prop} {w w' : World} {rb : Nat} {S : List Wt} (h : RAt X w rb S) (kp : Kp Y w w') (hc : ∀ k, k < w.heap.size → Y k ∨ X k) : RAt (fun k => X k ∨ (w.heap.size ≤ k ∧ k < w'.heap.size)) w' rb S :=
  h.keep (fun k o hx ho => kp.keep k o ((hc k (lt_of_heap ho)).resolve_right hx) ho) (fun k hk e => by rcases e with e | e; exact e; omega) (fun k e => by rcases e with e | e; exact Nat.lt_of_lt_of_le (h.lt k e) kp.size; exact e.2)
theorem RAt.form {X : Nat → Prop} {w : World} {rb : Nat} {S : List Wt} (h : RAt X w rb S) : ∃ ao cap, w.cell? ⟨rb, 0, none⟩ = some (.slice ao S.length cap) ∧ S.length ≤ cap ∧ w.ownsRow 0 60 2 (.slice ao S.length cap) S.length (cellsE S) ∧ ∀ k, k < S.length → ∃ g, ao = some ⟨g, 0, none⟩ ∧ w.cell? ⟨g, k * 2, none⟩ = some (.int .i64 (at' S k).id) ∧ w.cell? ⟨g, k * 2 + 1, none⟩ = some (.float .f64 (at' S k).pr) := by
  obtain ⟨lv, h1, h2, _⟩ := h.box
  obtain ⟨ao, cap, rfl, h3, _⟩ := ownsRow_form h2
  refine ⟨ao, cap, cell_row h1 0 rfl, h3, h2, fun k hk => ?_⟩
  have e0 : (cellsE S)[2 * k + 0]? = some (.int .i64 (at' S k).id) := by rw [entCells_at S k 0 (by omega), at_some hk]; rfl
  have e1 : (cellsE S)[2 * k + 1]? = some (.float .f64 (at' S k).pr) := by rw [entCells_at S k 1 (by omega), at_some hk]; rfl
  obtain ⟨b, g1, _, g3⟩ := ownsRow_cell h2 e0
  obtain ⟨b', g1', _, g3'⟩ := ownsRow_cell h2 e1
  rw [g1] at g1'
  cases g1'
  rw [Nat.mul_comm k 2]
  exact ⟨b, g1, g3, g3'⟩

set_option maxRecDepth 20000 in
set_option maxHeartbeats 1600000 in
theorem place_some {X : Nat → Prop} {w : World} {rb : Nat} {S : List Wt} (h : RAt X w rb S) {id : Int} {i : Nat} (hi : i < S.length) (hid : (at' S i).id = id) (hu : ∀ j, j < i → (at' S j).id ≠ id) (hl : S.length ≤ 100000) : Calls Try.prog 43 #[.pointer (some ⟨rb, 0, none⟩), .int .i64 id] w fun e w' => e = .returned (.int .i64 i) ∧ w = w' := by
  obtain ⟨ao, cap, c0, -, -, hc⟩ := h.form
  obtain ⟨g, rfl, -, -⟩ := hc i hi
  have HC := Lib.hid (And.intro hc (And.intro hid hu))
  clear hc h hid hu
  go_enter Try.func43, Try.ntmps43
  go_wp2
  go_loopw [5] (fun iv wr => ∃ k : Nat, k ≤ i ∧ iv = .int .i64 k ∧ wr = w) (fun iv _ => i - (intOf iv).toNat)
  case atStart => exact ⟨0, Nat.zero_le _, rfl, rfl⟩
  case round =>
    obtain ⟨k, hk, rfl, rfl⟩ := hrel
    obtain ⟨g', eg, ck, -⟩ := HC.out.1 k (by omega)
    cases eg
    have hks : k < S.length := by omega
    have hks' : (k : Int) < (S.length : Int) := by omega
    by_cases hki : k = i
    · subst hki
      rw [HC.out.2.1] at ck
      generalize S.length = n at *
      go_wp2
      go_ret
      exact ⟨rfl, rfl⟩
    · have hne := HC.out.2.2 k (by omega)
      generalize (at' S k).id = xi at ck hne
      have hne' : (xi == id) = false := by simpa using hne
      have e1 : IntKind.i64.wrap ((k : Int) + 1) = ((k + 1 : Nat) : Int) := by rw [IntKind.wrap_i64]; omega
      generalize hk1 : k + 1 = k1 at e1
      generalize S.length = n at *
      go_wp2
      go_roundw
      case rel => exact ⟨k1, by omega, rfl, trivial⟩
      case measure => simp [intOf]; omega
set_option maxRecDepth 20000 in
set_option maxHeartbeats 1600000 in
theorem place_none {X : Nat → Prop} {w : World} {rb : Nat} {S : List Wt} (h : RAt X w rb S) {id : Int} (hu : fnd S id = none) (hl : S.length ≤ 100000) : Calls Try.prog 43 #[.pointer (some ⟨rb, 0, none⟩), .int .i64 id] w fun e w' => e = .returned (.int .i64 (-1)) ∧ w = w' := by
  obtain ⟨ao, cap, c0, -, -, hc⟩ := h.form
  have HC := Lib.hid (And.intro hc (fun j (hj : j < S.length) => fnd_none hu _ (at_mem hj)))
  clear hc h hu
  go_enter Try.func43, Try.ntmps43
  go_wp2
  go_loopw [5] (fun iv wr => ∃ k : Nat, k ≤ S.length ∧ iv = .int .i64 k ∧ wr = w) (fun iv _ => S.length - (intOf iv).toNat)
  case atStart => exact ⟨0, Nat.zero_le _, rfl, rfl⟩
  case round =>
    obtain ⟨k, hk, rfl, rfl⟩ := hrel
    by_cases hks : k < S.length
    · obtain ⟨g, rfl, ck, -⟩ := HC.out.1 k hks
      have hks' : (k : Int) < (S.length : Int) := by omega
      have hne := HC.out.2 k hks
      generalize (at' S k).id = xi at ck hne
      have hne' : (xi == id) = false := by simpa using hne
      have e1 : IntKind.i64.wrap ((k : Int) + 1) = ((k + 1 : Nat) : Int) := by rw [IntKind.wrap_i64]; omega
      generalize hk1 : k + 1 = k1 at e1
      go_wp2
      go_roundw
      case rel => exact ⟨k1, by omega, rfl, trivial⟩
      case measure => simp [intOf]; omega
    · have hks' : ¬ ((k : Int) < (S.length : Int)) := by omega
      go_wp2
      go_ret
      exact ⟨rfl, rfl⟩

/-- b is the first of the least among the first k -/
def Best (S : List Wt) (k b : Nat) : Prop := b < k ∧ (∀ j, j < k → key (at' S b).pr ≤ key (at' S j).pr) ∧ ∀ j, j < b → key (at' S b).pr < key (at' S j).pr
theorem best_zero (S : List Wt) : Best S 1 0 := by
  refine ⟨by omega, fun j hj => ?_, fun j hj => by omega⟩
  obtain rfl : j = 0 := by omega
  exact Int.le_refl _
theorem best_new {S : List Wt} {k b : Nat} (h : Best S k b) (hlt : key (at' S k).pr < key (at' S b).pr) : Best S (k + 1) k := by
  refine ⟨by omega, fun j hj => ?_, fun j hj => ?_⟩
  · by_cases e : j = k
    · subst e; exact Int.le_refl _
    · have := h.2.1 j (by omega); omega
  · have := h.2.1 j hj; omega
theorem best_old {S : List Wt} {k b : Nat} (h : Best S k b) (hlt : ¬ key (at' S k).pr < key (at' S b).pr) : Best S (k + 1) b := by
  refine ⟨by have := h.1; omega, fun j hj => ?_, h.2.2⟩
  by_cases e : j = k
  · subst e; omega
  · exact h.2.1 j (by omega)
theorem best_min {S : List Wt} {b : Nat} (h : Best S S.length b) (srt : S.Pairwise (fun a b => a.turn < b.turn)) {pu : Nat} (tu : ∀ x ∈ S, x.turn < pu) (hpu : pu ≤ 4611686018427387904) : IsMin (at' S b) S := by
  refine ⟨at_mem h.1, fun x hx => ?_⟩
  obtain ⟨j, hj, rfl⟩ := mem_at hx
  have a1 := h.2.1 j hj
  have t1 := tu _ (at_mem h.1)
  have t2 := tu _ (at_mem hj)
  unfold Wt.ky
  by_cases e : j < b
  · have := h.2.2 j e; omega
  · by_cases e2 : j = b
    · subst e2; exact Int.le_refl _
    · have := List.pairwise_iff_getElem.1 srt b j h.1 hj (by omega)
      rw [← at_eq h.1, ← at_eq hj] at this
      omega
def FirstPost (S : List Wt) (w : World) (e : Ending) (w' : World) : Prop := ∃ b : Nat, e = .returned (.int .i64 b) ∧ Best S S.length b ∧ Below w.heap.size w w'
set_option maxRecDepth 20000 in
set_option maxHeartbeats 3200000 in
theorem first_any {X : Nat → Prop} {w : World} {rb : Nat} {S : List Wt} (h : RAt X w rb S) (hl : S.length ≤ 100000) (h0 : 0 < S.length) (hpr : ∀ x ∈ S, x.pr < 18446744073709551616) : Calls Try.prog 45 #[.pointer (some ⟨rb, 0, none⟩)] w (FirstPost S w) := by
  have R := Lib.hid h
  have HP := Lib.hid hpr
  clear h hpr
  go_enter Try.func45, Try.ntmps45
  go_wp2
  go_loopw [3, 4] (fun bv iv wr => ∃ k : Nat, k ≤ S.length ∧ iv = .int .i64 k ∧ ((k = 0 ∧ bv = .int .i64 (-1)) ∨ ∃ b : Nat, bv = .int .i64 b ∧ Best S k b) ∧ Below w.heap.size w wr) (fun _ iv _ => S.length - (intOf iv).toNat)
  case atStart => exact ⟨0, Nat.zero_le _, rfl, Or.inl ⟨rfl, rfl⟩, Below.refl _ _⟩
  case round =>
    obtain ⟨k, hk, rfl, hb, hbel⟩ := hrel
    have r := R.out.below hbel
    obtain ⟨ao, cap, c0, -, -, hc⟩ := r.form
    by_cases hks : k < S.length
    · obtain ⟨g, rfl, -, ck⟩ := hc k hks
      have hks' : (k : Int) < (S.length : Int) := by omega
      have e1 : IntKind.i64.wrap ((k : Int) + 1) = ((k + 1 : Nat) : Int) := by rw [IntKind.wrap_i64]; omega
      have hpk := HP.out _ (at_mem hks)
      rcases hb with ⟨rfl, rfl⟩ | ⟨b, rfl, hbest⟩
      · have e1' : IntKind.i64.wrap (0 + 1) = (1 : Int) := by decide
        clear r hc hpk
        go_wp2_with fail
        have hS : Below w.heap.size w wr.drew := hbel.drew
        refine wp_region_held_drew (S := fun w' => Below w.heap.size w w') mixed hS (fun _ => ?_)
        show wpAnyH _ _ _ _ _ 22 (Array.replicate 22 false) _ _
        refine wpAnyH_take_d 0 (some 14) (.int .i64 (-1)) rfl (by kernel_rfl) (by kernel_rfl) (by kernel_rfl) (by kernel_rfl) rfl (fun _ _ _ h => h) (fun _ _ => by kernel_rfl) (by exact hS) ?_
        simp only [Act.put, List.setIfInBounds_toArray, List.set_cons_succ, List.set_cons_zero]
        refine wpAnyH_take_d 1 (some 15) (.bool true) rfl (by kernel_rfl) (by kernel_rfl) (by kernel_rfl) (by kernel_rfl) rfl (fun _ _ _ h => h) (fun _ _ => by kernel_rfl) (by exact hS) ?_
        simp only [Act.put, List.setIfInBounds_toArray, List.set_cons_succ, List.set_cons_zero]
        refine wpAnyH_take_d 2 (some 16) (.bool true) rfl (by kernel_rfl) (by kernel_rfl) (by kernel_rfl) (by kernel_rfl) rfl (fun _ _ _ h => h) (fun _ _ => by kernel_rfl) (by exact hS) ?_
        simp only [Act.put, List.setIfInBounds_toArray, List.set_cons_succ, List.set_cons_zero]
        refine wpAnyH_skip_d 3 (some 17) rfl (by kernel_rfl) (by kernel_rfl) (by kernel_rfl) (by kernel_rfl) rfl (fun _ _ _ h => h) (by exact hS) ?_
        simp only [Act.put, List.setIfInBounds_toArray, List.set_cons_succ, List.set_cons_zero]
        refine wpAnyH_skip_d 4 (some 18) rfl (by kernel_rfl) (by kernel_rfl) (by kernel_rfl) (by kernel_rfl) rfl (fun _ _ _ h => h) (by exact hS) ?_
        simp only [Act.put, List.setIfInBounds_toArray, List.set_cons_succ, List.set_cons_zero]
        refine wpAnyH_skip_d 5 (some 19) rfl (by kernel_rfl) (by kernel_rfl) (by kernel_rfl) (by kernel_rfl) rfl (fun _ _ _ h => h) (by exact hS) ?_
        simp only [Act.put, List.setIfInBounds_toArray, List.set_cons_succ, List.set_cons_zero]
        refine wpAnyH_skip_d 6 (some 20) rfl (by kernel_rfl) (by kernel_rfl) (by kernel_rfl) (by kernel_rfl) rfl (fun _ _ _ h => h) (by exact hS) ?_
        simp only [Act.put, List.setIfInBounds_toArray, List.set_cons_succ, List.set_cons_zero]
        refine wpAnyH_skip_d 7 (some 21) rfl (by kernel_rfl) (by kernel_rfl) (by kernel_rfl) (by kernel_rfl) rfl (fun _ _ _ h => h) (by exact hS) ?_
        simp only [Act.put, List.setIfInBounds_toArray, List.set_cons_succ, List.set_cons_zero]
        refine wpAnyH_skip_d 8 (some 22) rfl (by kernel_rfl) (by kernel_rfl) (by kernel_rfl) (by kernel_rfl) rfl (fun _ _ _ h => h) (by exact hS) ?_
        simp only [Act.put, List.setIfInBounds_toArray, List.set_cons_succ, List.set_cons_zero]
        refine wpAnyH_skip_d 9 (some 23) rfl (by kernel_rfl) (by kernel_rfl) (by kernel_rfl) (by kernel_rfl) rfl (fun _ _ _ h => h) (by exact hS) ?_
        simp only [Act.put, List.setIfInBounds_toArray, List.set_cons_succ, List.set_cons_zero]
        refine wpAnyH_skip_d 10 (some 24) rfl (by kernel_rfl) (by kernel_rfl) (by kernel_rfl) (by kernel_rfl) rfl (fun _ _ _ h => h) (by exact hS) ?_
        simp only [Act.put, List.setIfInBounds_toArray, List.set_cons_succ, List.set_cons_zero]
        refine wpAnyH_skip_d 11 (some 25) rfl (by kernel_rfl) (by kernel_rfl) (by kernel_rfl) (by kernel_rfl) rfl (fun _ _ _ h => h) (by exact hS) ?_
        simp only [Act.put, List.setIfInBounds_toArray, List.set_cons_succ, List.set_cons_zero]
        refine wpAnyH_skip_d 12 (some 26) rfl (by kernel_rfl) (by kernel_rfl) (by kernel_rfl) (by kernel_rfl) rfl (fun _ _ _ h => h) (by exact hS) ?_
        simp only [Act.put, List.setIfInBounds_toArray, List.set_cons_succ, List.set_cons_zero]
        refine wpAnyH_skip_d 13 (some 27) rfl (by kernel_rfl) (by kernel_rfl) (by kernel_rfl) (by kernel_rfl) rfl (fun _ _ _ h => h) (by exact hS) ?_
        simp only [Act.put, List.setIfInBounds_toArray, List.set_cons_succ, List.set_cons_zero]
        refine wpAnyH_skip_d 14 (some 28) rfl (by kernel_rfl) (by kernel_rfl) (by kernel_rfl) (by kernel_rfl) rfl (fun _ _ _ h => h) (by exact hS) ?_
        simp only [Act.put, List.setIfInBounds_toArray, List.set_cons_succ, List.set_cons_zero]
        refine wpAnyH_skip_d 15 (some 29) rfl (by kernel_rfl) (by kernel_rfl) (by kernel_rfl) (by kernel_rfl) rfl (fun _ _ _ h => h) (by exact hS) ?_
        simp only [Act.put, List.setIfInBounds_toArray, List.set_cons_succ, List.set_cons_zero]
        refine wpAnyH_skip_d 16 (some 30) rfl (by kernel_rfl) (by kernel_rfl) (by kernel_rfl) (by kernel_rfl) rfl (fun _ _ _ h => h) (by exact hS) ?_
        simp only [Act.put, List.setIfInBounds_toArray, List.set_cons_succ, List.set_cons_zero]
        refine wpAnyH_skip_d 17 (some 31) rfl (by kernel_rfl) (by kernel_rfl) (by kernel_rfl) (by kernel_rfl) rfl (fun _ _ _ h => h) (by exact hS) ?_
        simp only [Act.put, List.setIfInBounds_toArray, List.set_cons_succ, List.set_cons_zero]
        refine wpAnyH_skip_d 18 (some 32) rfl (by kernel_rfl) (by kernel_rfl) (by kernel_rfl) (by kernel_rfl) rfl (fun _ _ _ h => h) (by exact hS) ?_
        simp only [Act.put, List.setIfInBounds_toArray, List.set_cons_succ, List.set_cons_zero]
        refine wpAnyH_skip_d 19 (some 33) rfl (by kernel_rfl) (by kernel_rfl) (by kernel_rfl) (by kernel_rfl) rfl (fun _ _ _ h => h) (by exact hS) ?_
        simp only [Act.put, List.setIfInBounds_toArray, List.set_cons_succ, List.set_cons_zero]
        refine wpAnyH_skip_d 20 (some 34) rfl (by kernel_rfl) (by kernel_rfl) (by kernel_rfl) (by kernel_rfl) rfl (fun _ _ _ h => h) (by exact hS) ?_
        simp only [Act.put, List.setIfInBounds_toArray, List.set_cons_succ, List.set_cons_zero]
        refine wpAnyH_one 21 (some 35) (.bool true) rfl (by kernel_rfl) (by kernel_rfl) rfl (by kernel_rfl) (by exact hS) ?_
        simp only [Act.put, List.setIfInBounds_toArray, List.set_cons_succ, List.set_cons_zero]
        refine wpAnyH_done (by kernel_rfl) ?_ _
        clear hS
        go_wp2
        go_roundw
        case rel => exact ⟨1, by omega, rfl, Or.inr ⟨0, rfl, best_zero S⟩, hbel.drew⟩
        case measure => simp [intOf]; omega
      · obtain ⟨g', eg, -, cb⟩ := hc b (by have := hbest.1; omega)
        cases eg
        have hpb := HP.out _ (at_mem (L := S) (i := b) (by have := hbest.1; omega))
        have hbs : b < S.length := by have := hbest.1; omega
        have HB := Lib.hid hbest
        generalize hkp : (at' S k).pr = kp at ck hpk
        generalize hbp : (at' S b).pr = bp at cb hpb
        have HKP := Lib.hid (And.intro hkp hbp)
        clear r hc hbest hkp hbp
        generalize hk1 : k + 1 = k1 at e1
        have hb0 : decide ((b : Int) < 0) = false := by simp
        go_wp2_with fail
        have hS : wr.drew.cell? ⟨rb, 0, none⟩ = some (.slice (some ⟨g, 0, none⟩) S.length cap) ∧ wr.drew.cell? ⟨g, k * 2 + 1, none⟩ = some (.float .f64 kp) ∧ wr.drew.cell? ⟨g, b * 2 + 1, none⟩ = some (.float .f64 bp) := ⟨c0, ck, cb⟩
        refine wp_region_held_drew (S := fun w' => w'.cell? ⟨rb, 0, none⟩ = some (.slice (some ⟨g, 0, none⟩) S.length cap) ∧ w'.cell? ⟨g, k * 2 + 1, none⟩ = some (.float .f64 kp) ∧ w'.cell? ⟨g, b * 2 + 1, none⟩ = some (.float .f64 bp)) mixed hS (fun _ => ?_)
        show wpAnyH _ _ _ _ _ 22 (Array.replicate 22 false) _ _
        refine wpAnyH_take_d 0 (some 14) (.int .i64 b) rfl (by kernel_rfl) (by kernel_rfl) (by kernel_rfl) (by kernel_rfl) rfl (fun _ _ _ h => h) (fun _ _ => by kernel_rfl) (by exact hS) ?_
        simp only [Act.put, List.setIfInBounds_toArray, List.set_cons_succ, List.set_cons_zero]
        refine wpAnyH_take_d 1 (some 15) (.bool (decide ((b : Int) < 0))) rfl (by kernel_rfl) (by kernel_rfl) (by kernel_rfl) (by kernel_rfl) rfl (fun _ _ _ h => h) (fun _ _ => by kernel_rfl) (by exact hS) ?_
        simp only [Act.put, List.setIfInBounds_toArray, List.set_cons_succ, List.set_cons_zero]
        rw [hb0]
        refine wpAnyH_take_d 2 (some 16) (.bool false) rfl (by kernel_rfl) (by kernel_rfl) (by kernel_rfl) (by kernel_rfl) rfl (fun _ _ _ h => h) (fun _ _ => by kernel_rfl) (by exact hS) ?_
        simp only [Act.put, List.setIfInBounds_toArray, List.set_cons_succ, List.set_cons_zero]
        refine wpAnyH_take_d 3 (some 17) (.pointer (some ⟨rb, 0, none⟩)) rfl (by kernel_rfl) (by kernel_rfl) (by kernel_rfl) (by kernel_rfl) rfl (fun _ _ _ h => h) (fun _ _ => by kernel_rfl) (by exact hS) ?_
        simp only [Act.put, List.setIfInBounds_toArray, List.set_cons_succ, List.set_cons_zero]
        refine wpAnyH_take_d 4 (some 18) (.pointer (some ⟨rb, 0, none⟩)) rfl (by kernel_rfl) (by kernel_rfl) (by kernel_rfl) (by kernel_rfl) rfl (fun _ _ _ h => h) (fun _ _ => by kernel_rfl) (by exact hS) ?_
        simp only [Act.put, List.setIfInBounds_toArray, List.set_cons_succ, List.set_cons_zero]
        refine wpAnyH_take_d 5 (some 19) (.pointer (some ⟨rb, 0, none⟩)) rfl (by kernel_rfl) (by kernel_rfl) (by kernel_rfl) (by kernel_rfl) rfl (fun _ _ _ h => h) (fun _ _ => by kernel_rfl) (by exact hS) ?_
        simp only [Act.put, List.setIfInBounds_toArray, List.set_cons_succ, List.set_cons_zero]
        refine wpAnyH_take_d 6 (some 20) (.slice (some ⟨g, 0, none⟩) S.length cap) rfl (by kernel_rfl) (by kernel_rfl) (by kernel_rfl) (by kernel_rfl) rfl (fun _ _ _ h => h) (fun w' h => exec_load_cell rfl rfl h.1 Try.underlying27 rfl) (by exact hS) ?_
        simp only [Act.put, List.setIfInBounds_toArray, List.set_cons_succ, List.set_cons_zero]
        refine wpAnyH_take_d 7 (some 21) (.int .i64 k) rfl (by kernel_rfl) (by kernel_rfl) (by kernel_rfl) (by kernel_rfl) rfl (fun _ _ _ h => h) (fun _ _ => by kernel_rfl) (by exact hS) ?_
        simp only [Act.put, List.setIfInBounds_toArray, List.set_cons_succ, List.set_cons_zero]
        refine wpAnyH_take_d 8 (some 22) (.pointer (some ⟨g, 0 + k * 2, none⟩)) rfl (by kernel_rfl) (by kernel_rfl) (by kernel_rfl) (by kernel_rfl) rfl (fun _ _ _ h => h) (fun w' h => exec_indexAddrS rfl rfl rfl hks Try.underlying27 (by kernel_rfl)) (by exact hS) ?_
        simp only [Act.put, List.setIfInBounds_toArray, List.set_cons_succ, List.set_cons_zero]
        rw [Nat.zero_add]
        refine wpAnyH_take_d 9 (some 23) (.pointer (some ⟨g, k * 2 + 1, none⟩)) rfl (by kernel_rfl) (by kernel_rfl) (by kernel_rfl) (by kernel_rfl) rfl (fun _ _ _ h => h) (fun _ _ => by kernel_rfl) (by exact hS) ?_
        simp only [Act.put, List.setIfInBounds_toArray, List.set_cons_succ, List.set_cons_zero]
        refine wpAnyH_take_d 10 (some 24) (.float .f64 kp) rfl (by kernel_rfl) (by kernel_rfl) (by kernel_rfl) (by kernel_rfl) rfl (fun _ _ _ h => h) (fun w' h => exec_load_cell rfl rfl h.2.1 Try.underlying31 rfl) (by exact hS) ?_
        simp only [Act.put, List.setIfInBounds_toArray, List.set_cons_succ, List.set_cons_zero]
        refine wpAnyH_take_d 11 (some 25) (.pointer (some ⟨rb, 0, none⟩)) rfl (by kernel_rfl) (by kernel_rfl) (by kernel_rfl) (by kernel_rfl) rfl (fun _ _ _ h => h) (fun _ _ => by kernel_rfl) (by exact hS) ?_
        simp only [Act.put, List.setIfInBounds_toArray, List.set_cons_succ, List.set_cons_zero]
        refine wpAnyH_take_d 12 (some 26) (.pointer (some ⟨rb, 0, none⟩)) rfl (by kernel_rfl) (by kernel_rfl) (by kernel_rfl) (by kernel_rfl) rfl (fun _ _ _ h => h) (fun _ _ => by kernel_rfl) (by exact hS) ?_
        simp only [Act.put, List.setIfInBounds_toArray, List.set_cons_succ, List.set_cons_zero]
        refine wpAnyH_take_d 13 (some 27) (.pointer (some ⟨rb, 0, none⟩)) rfl (by kernel_rfl) (by kernel_rfl) (by kernel_rfl) (by kernel_rfl) rfl (fun _ _ _ h => h) (fun _ _ => by kernel_rfl) (by exact hS) ?_
        simp only [Act.put, List.setIfInBounds_toArray, List.set_cons_succ, List.set_cons_zero]
        refine wpAnyH_take_d 14 (some 28) (.slice (some ⟨g, 0, none⟩) S.length cap) rfl (by kernel_rfl) (by kernel_rfl) (by kernel_rfl) (by kernel_rfl) rfl (fun _ _ _ h => h) (fun w' h => exec_load_cell rfl rfl h.1 Try.underlying27 rfl) (by exact hS) ?_
        simp only [Act.put, List.setIfInBounds_toArray, List.set_cons_succ, List.set_cons_zero]
        refine wpAnyH_take_d 15 (some 29) (.int .i64 b) rfl (by kernel_rfl) (by kernel_rfl) (by kernel_rfl) (by kernel_rfl) rfl (fun _ _ _ h => h) (fun _ _ => by kernel_rfl) (by exact hS) ?_
        simp only [Act.put, List.setIfInBounds_toArray, List.set_cons_succ, List.set_cons_zero]
        refine wpAnyH_take_d 16 (some 30) (.pointer (some ⟨g, 0 + b * 2, none⟩)) rfl (by kernel_rfl) (by kernel_rfl) (by kernel_rfl) (by kernel_rfl) rfl (fun _ _ _ h => h) (fun w' h => exec_indexAddrS rfl rfl rfl hbs Try.underlying27 (by kernel_rfl)) (by exact hS) ?_
        simp only [Act.put, List.setIfInBounds_toArray, List.set_cons_succ, List.set_cons_zero]
        rw [Nat.zero_add]
        refine wpAnyH_take_d 17 (some 31) (.pointer (some ⟨g, b * 2 + 1, none⟩)) rfl (by kernel_rfl) (by kernel_rfl) (by kernel_rfl) (by kernel_rfl) rfl (fun _ _ _ h => h) (fun _ _ => by kernel_rfl) (by exact hS) ?_
        simp only [Act.put, List.setIfInBounds_toArray, List.set_cons_succ, List.set_cons_zero]
        refine wpAnyH_take_d 18 (some 32) (.float .f64 bp) rfl (by kernel_rfl) (by kernel_rfl) (by kernel_rfl) (by kernel_rfl) rfl (fun _ _ _ h => h) (fun w' h => exec_load_cell rfl rfl h.2.2 Try.underlying31 rfl) (by exact hS) ?_
        simp only [Act.put, List.setIfInBounds_toArray, List.set_cons_succ, List.set_cons_zero]
        refine wpAnyH_call 19 (some 33) 54 #[.float .f64 kp, .float .f64 bp] rfl (by kernel_rfl) (by kernel_rfl) rfl (by kernel_rfl) (rCmp_any kp bp _ hpk hpb) ?_
        rintro e _ ⟨rfl, rfl⟩
        refine ⟨_, rfl, hS, ?_⟩
        simp only [Act.put, List.setIfInBounds_toArray, List.set_cons_succ, List.set_cons_zero]
        by_cases hlt : key kp < key bp
        · have hc1 : decide (cmpB kp bp < 0) = true := decide_eq_true (by unfold cmpB; exact cmpI_lt.2 hlt)
          generalize cmpB kp bp = cc at hc1
          have HLT := Lib.hid hlt
          clear hlt
          refine wpAnyH_one 20 (some 34) (.bool (decide (cc < 0))) rfl (by kernel_rfl) (by kernel_rfl) rfl (by kernel_rfl) (by exact hS) ?_
          simp only [Act.put, List.setIfInBounds_toArray, List.set_cons_succ, List.set_cons_zero]
          rw [hc1]
          refine wpAnyH_one 21 (some 35) (.bool true) rfl (by kernel_rfl) (by kernel_rfl) rfl (by kernel_rfl) (by exact hS) ?_
          simp only [Act.put, List.setIfInBounds_toArray, List.set_cons_succ, List.set_cons_zero]
          refine wpAnyH_done (by kernel_rfl) ?_ _
          clear hS ck cb c0
          go_wp2
          go_roundw
          case rel =>
            subst hk1
            exact ⟨k + 1, hks, rfl, Or.inr ⟨k, rfl, best_new HB.out (by rw [HKP.out.1, HKP.out.2]; exact HLT.out)⟩, hbel.drew⟩
          case measure => simp [intOf]; omega
        · have hc1 : decide (cmpB kp bp < 0) = false := decide_eq_false (by unfold cmpB; exact fun h => hlt (cmpI_lt.1 h))
          generalize cmpB kp bp = cc at hc1
          have HLT := Lib.hid hlt
          clear hlt
          refine wpAnyH_one 20 (some 34) (.bool (decide (cc < 0))) rfl (by kernel_rfl) (by kernel_rfl) rfl (by kernel_rfl) (by exact hS) ?_
          simp only [Act.put, List.setIfInBounds_toArray, List.set_cons_succ, List.set_cons_zero]
          rw [hc1]
          refine wpAnyH_one 21 (some 35) (.bool false) rfl (by kernel_rfl) (by kernel_rfl) rfl (by kernel_rfl) (by exact hS) ?_
          simp only [Act.put, List.setIfInBounds_toArray, List.set_cons_succ, List.set_cons_zero]
          refine wpAnyH_done (by kernel_rfl) ?_ _
          clear hS ck cb c0
          go_wp2
          go_roundw
          case rel =>
            subst hk1
            exact ⟨k + 1, hks, rfl, Or.inr ⟨b, rfl, best_old HB.out (by rw [HKP.out.1, HKP.out.2]; exact HLT.out)⟩, hbel.drew⟩
          case measure => simp [intOf]; omega
    · have hks' : ¬ ((k : Int) < (S.length : Int)) := by omega
      have hkl : k = S.length := by omega
      rcases hb with ⟨rfl, rfl⟩ | ⟨b, rfl, hbest⟩
      · omega
      · have FIN : Hid (FirstPost S w (.returned (.int .i64 b)) wr) := ⟨b, rfl, by rw [← hkl]; exact hbest, hbel⟩
        clear hbest hbel r hc hkl
        go_wp2
        go_ret
        exact FIN.out
set_option maxRecDepth 20000 in
set_option maxHeartbeats 1600000 in
theorem first_none {X : Nat → Prop} {w : World} {rb : Nat} (h : RAt X w rb []) : Calls Try.prog 45 #[.pointer (some ⟨rb, 0, none⟩)] w fun e w' => e = .returned (.int .i64 (-1)) ∧ w = w' := by
  obtain ⟨ao, cap, c0, -, -, -⟩ := h.form
  have c0' : w.cell? ⟨rb, 0, none⟩ = some (.slice ao 0 cap) := c0
  clear h c0
  go_enter Try.func45, Try.ntmps45
  go_wp2
  refine wp_loop_rounds 1 ?_
  rw [rounds_succ]
  go_wp2
  go_ret
  exact ⟨rfl, rfl⟩
end Go.Proofs.Ytegloiojhimoeaa
