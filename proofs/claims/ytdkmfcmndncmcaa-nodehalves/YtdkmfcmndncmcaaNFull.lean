/- Rows that a law makes with room for one more. No statement of the seat is proved here. -/
import Derived.Test.YtdkmfcmndncmcaaNEncode
namespace Go.Proofs.Ytdkmfcmndncmcaa
set_option maxRecDepth 20000
open Go.RowKit
section
variable {α : Type} {E : El α}
/-- the zero cells of one element -/
def zc (E : El α) : List Value := E.z.cells.toList
theorem zc_length (hE : ElOk E) : (zc E).length = E.k := by unfold zc; rw [Array.length_toList, hE.zs]
def OwnZ (E : El α) (base : Nat) (w : World) (v : Value) (n : Nat) : Prop := ∃ g cur, v = .slice (some ⟨g, 0, none⟩) 0 (n + 1) ∧ base ≤ g ∧ w.heap[g]? = some (.cells cur E.t (0, 0)) ∧ cur = madeCells E.z.cells ((n + 1) * E.k)
/-- l, and room for one more that is zero -/
def OwnF (E : El α) (base : Nat) (w : World) (v : Value) (l : List α) : Prop := ∃ g cur, v = .slice (some ⟨g, 0, none⟩) l.length (l.length + 1) ∧ base ≤ g ∧ w.heap[g]? = some (.cells cur E.t (0, 0)) ∧ cur.toList = cells E l ++ zc E
theorem OwnZ.below {base : Nat} {w w' : World} {v : Value} {n : Nat} (h : OwnZ E base w v n) (hb : Below w.heap.size w w') : OwnZ E base w' v n := by
  obtain ⟨g, cur, h1, h2, h3, h4⟩ := h
  exact ⟨g, cur, h1, h2, (hb.block g (lt_of_heap h3)).trans h3, h4⟩
theorem OwnF.below {base : Nat} {w w' : World} {v : Value} {l : List α} (h : OwnF E base w v l) (hb : Below w.heap.size w w') : OwnF E base w' v l := by
  obtain ⟨g, cur, h1, h2, h3, h4⟩ := h
  exact ⟨g, cur, h1, h2, (hb.block g (lt_of_heap h3)).trans h3, h4⟩
theorem OwnF.base {b b' : Nat} {w : World} {v : Value} {l : List α} (h : OwnF E b w v l) (hb : b' ≤ b) : OwnF E b' w v l := by
  obtain ⟨g, cur, h1, h2, h3, h4⟩ := h
  exact ⟨g, cur, h1, Nat.le_trans hb h2, h3, h4⟩
theorem OwnF.own (hE : ElOk E) {base : Nat} {w : World} {v : Value} {l : List α} (h : OwnF E base w v l) (hm : l.length + 1 ≤ maxLen) : OwnR E base w v l := by
  obtain ⟨g, cur, h1, h2, h3, h4⟩ := h
  refine ⟨cells_length hE l, .inr ⟨g, l.length + 1, cur, h1, h2, h3, Nat.le_succ _, hm, ?_, ?_⟩⟩
  · rw [← Array.length_toList, h4, List.length_append, cells_length hE, zc_length hE, Nat.succ_mul]
  · rw [h4, ← cells_length hE l, List.take_left]
theorem OwnF.slv {base : Nat} {w : World} {v : Value} {l : List α} (h : OwnF E base w v l) : SlV v := by
  obtain ⟨g, cur, rfl, _⟩ := h; exact .mk _ _ _
theorem OwnZ.other {β : Type} {F : El β} {base : Nat} {w w' : World} {v u : Value} {n : Nat} (h : OwnZ E base w v n) (hk : ∀ k : Nat, k < w.heap.size → some k ≠ u.ownBlock → w'.heap[k]? = w.heap[k]?) (hu : ∀ g, u.ownBlock = some g → ∃ cur, w.heap[g]? = some (.cells cur F.t (0, 0))) (ht : E.t ≠ F.t) : OwnZ E base w' v n := by
  obtain ⟨g, cur, h1, h2, h3, h4⟩ := h
  refine ⟨g, cur, h1, h2, (hk g (lt_of_heap h3) fun e => ?_).trans h3, h4⟩
  obtain ⟨c2, h5⟩ := hu g e.symm
  rw [h3] at h5; injection h5 with h5; injection h5 with _ h5; exact ht h5
theorem OwnF.other {β : Type} {F : El β} {base : Nat} {w w' : World} {v u : Value} {l : List α} (h : OwnF E base w v l) (hk : ∀ k : Nat, k < w.heap.size → some k ≠ u.ownBlock → w'.heap[k]? = w.heap[k]?) (hu : ∀ g, u.ownBlock = some g → ∃ cur, w.heap[g]? = some (.cells cur F.t (0, 0))) (ht : E.t ≠ F.t) : OwnF E base w' v l := by
  obtain ⟨g, cur, h1, h2, h3, h4⟩ := h
  refine ⟨g, cur, h1, h2, (hk g (lt_of_heap h3) fun e => ?_).trans h3, h4⟩
  obtain ⟨c2, h5⟩ := hu g e.symm
  rw [h3] at h5; injection h5 with h5; injection h5 with _ h5; exact ht h5
theorem OwnZ.kind {base : Nat} {w : World} {v : Value} {n : Nat} (h : OwnZ E base w v n) : ∀ g, v.ownBlock = some g → ∃ cur, w.heap[g]? = some (.cells cur E.t (0, 0)) := by
  obtain ⟨g, cur, rfl, h2, h3, h4⟩ := h
  intro k hk
  have : g = k := by injection hk
  subst this
  exact ⟨cur, h3⟩
theorem mk_zero (hE : ElOk E) (w : World) (n : Nat) (hn : (n + 1) * E.bytes ≤ 281474976710656) : ∃ w1, (Instr.makeSlice E.st (.int .i64 0) (.int .i64 ((n + 1 : Nat) : Int))).run Try.prog w = .ok (.slice (some ⟨w.heap.size, 0, none⟩) 0 (n + 1)) w1 ∧ OwnZ E w.heap.size w1 (.slice (some ⟨w.heap.size, 0, none⟩) 0 (n + 1)) n ∧ Below w.heap.size w w1 := by
  obtain ⟨i, hi, hi0, hi1, hi2⟩ := hE.info
  have h8 := Nat.mul_le_mul_left (n + 1) hE.by8
  have hm : n + 1 ≤ 9223372036854775807 := by omega
  have hr := run_make (P := Try.prog) w E.st E.t i E.z hE.under hi hi0 .i64 .i64 0 ((n + 1 : Nat) : Int) (Int.le_refl _) (Int.natCast_nonneg _) (by rw [hi2, ← Int.natCast_mul, Nat.mul_comm]; omega) (by omega)
  rw [show ((n + 1 : Nat) : Int).toNat = n + 1 from Int.toNat_natCast _, hi1] at hr
  exact ⟨_, hr, ⟨w.heap.size, _, rfl, Nat.le_refl _, heap_alloc_new w _, rfl⟩, below_new w _⟩
theorem made_drop (hE : ElOk E) (n : Nat) : (madeCells E.z.cells ((n + 1) * E.k)).toList.drop (n * E.k) = zc E := by
  have hp := hE.pos
  have hsz := hE.zs
  apply List.ext_getElem
  · rw [List.length_drop, Array.length_toList, size_madeCells, zc_length hE, Nat.succ_mul]; omega
  · intro i h1 h2
    rw [zc_length hE] at h2
    unfold zc
    have e : (n * E.k + i) % E.z.cells.size = i := by rw [hsz, Nat.mul_comm, Nat.mul_add_mod, Nat.mod_eq_of_lt h2]
    simp only [madeCells, List.getElem_drop, Array.getElem_toList, Array.getElem_map, Array.getElem_range]
    rw [e]
    exact getElem!_pos E.z.cells i (by rw [hsz]; exact h2)
theorem app_full (hE : ElOk E) {base : Nat} {w : World} {v : Value} {n : Nat} (h : OwnZ E base w v n) {B : Nat} {x : Value} {l : List α} (hx : SlAt E B w x l) (hn : l.length = n) (ty : TypeId) :
    ∃ v' w', (Builtin.append_ #[E.st, E.st] ty #[v, x]).run Try.prog w = .ok v' w' ∧ OwnF E base w' v' l ∧ Below base w w' ∧ w'.heap.size = w.heap.size ∧ ∀ k : Nat, k < w.heap.size → some k ≠ v.ownBlock → w'.heap[k]? = w.heap[k]? := by
  subst hn
  obtain ⟨g, cur, rfl, h2, h3, h4⟩ := h
  obtain ⟨i, hi, hi0, hi1, hi2⟩ := hE.info
  obtain ⟨bo, c, rfl, hxc0, hxl, hxc⟩ := hx
  have hcs : cur.size = (l.length + 1) * E.k := by rw [h4, size_madeCells]
  by_cases h0 : 0 < l.length
  · obtain ⟨b', off', rfl, hB, hat⟩ := hxc h0
    have ha := run_append_room (P := Try.prog) w E.st ty E.t i hE.under hi g 0 (l.length + 1) cur h3 ⟨b', off', none⟩ l.length c (cells E l) (by rw [hi1]; exact cells_length hE l) (fun j u hu => by rw [Addr.add_mid]; exact hat j u hu) (cells_one hE l) (by omega) (by rw [Nat.zero_mul, Nat.zero_add, cells_length hE, hcs]; exact Nat.mul_le_mul_right _ (Nat.le_succ _))
    rw [Nat.zero_add] at ha
    refine ⟨_, _, ha, ⟨g, _, rfl, h2, setRow_heap w g cur _ _ _ h3, ?_⟩, ⟨rfl, rfl, rfl, by simp, fun k hk => setRow_other w g k _ (by omega)⟩, by simp, fun k _ hk => setRow_other w g k _ (fun e => hk (by rw [e]; rfl))⟩
    simp only [Nat.zero_mul, List.take_zero, List.nil_append, Nat.zero_add]
    rw [cells_length hE, h4, made_drop hE]
  · have hl : l = [] := List.eq_nil_of_length_eq_zero (by omega)
    subst hl
    refine ⟨_, w, run_append_none w E.st ty E.t hE.under i hi _ bo 0 _ c (Nat.zero_le _), ⟨g, cur, rfl, h2, h3, ?_⟩, Below.refl _ _, rfl, fun _ _ _ => rfl⟩
    have := made_drop hE 0
    rw [Nat.zero_mul, List.drop_zero] at this
    simp only [List.length_nil] at h4
    rw [h4, this]; rfl
end
end Go.Proofs.Ytdkmfcmndncmcaa
