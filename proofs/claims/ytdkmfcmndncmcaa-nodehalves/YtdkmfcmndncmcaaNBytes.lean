/- Bytes of one's own, for nodes (as PBase, PEnc). No statement of the seat is proved here. -/
import Derived.Test.YtdkmfcmndncmcaaNRet
import Derived.Lib.AppendStr
namespace Go.Proofs.Ytdkmfcmndncmcaa
set_option maxRecDepth 20000
open Go.RowKit

def ByC (w : World) (v : Value) (bs : List UInt8) : Prop :=
  ∃ ao cap, v = .slice ao bs.length cap ∧ bs.length ≤ maxLen ∧ (0 < bs.length → ∃ b off, ao = some ⟨b, off, none⟩ ∧ ∀ i, i < bs.length → w.cell? ⟨b, off + i, none⟩ = some (byteV (bs.getD i 0)))
theorem BytesAt.c {w : World} {v : Value} {bs : List UInt8} (h : BytesAt w v bs) : ByC w v bs := by
  obtain ⟨ao, cap, hv, hl, hc⟩ := h
  refine ⟨ao, cap, hv, hl, fun h0 => ?_⟩
  obtain ⟨b, off, cs, fz, h1, h2, h3⟩ := hc h0
  exact ⟨b, off, h1, fun i hi => by rw [cell_of_row w b (off + i) cs _ fz h2, h3 i hi]⟩
theorem ByC.below {w w' : World} {v : Value} {bs : List UInt8} (h : ByC w v bs) (hb : Below w.heap.size w w') : ByC w' v bs := by
  obtain ⟨ao, cap, hv, hl, hc⟩ := h
  refine ⟨ao, cap, hv, hl, fun h0 => ?_⟩
  obtain ⟨b, off, h1, h2⟩ := hc h0
  exact ⟨b, off, h1, fun i hi => (hb.cell (World.block_lt_of_cell? w _ (h2 i hi))).trans (h2 i hi)⟩
set_option maxRecDepth 20000 in
theorem run_string_c {w : World} {v : Value} {bs : List UInt8} (h : ByC w v bs) : (convert 67 9 v).run Try.prog w = .ok (.string (strOf bs)) w := by
  obtain ⟨ao, cap, rfl, hl, hc⟩ := h
  by_cases h0 : 0 < bs.length
  · obtain ⟨g, off, rfl, hat⟩ := hc h0
    have := run_convert_bytes_arg (P := Try.prog) w 67 5 Try.underlying67 Try.underlying5 g off bs.length cap (bs.map fun x => (x.toNat : Int)) (by simp) (fun i hi => by
      rw [hat i hi]
      simp [byteV, List.getD_eq_getElem?_getD, List.getElem?_eq_getElem hi]) 9 Try.underlying9
    rw [this]
    congr 2
    simp [strOfNums, strOf, Function.comp_def]
  · have hb : bs = [] := List.eq_nil_of_length_eq_zero (by omega)
    subst hb
    cases ao with
    | none => exact run_convert_bytes_nil (P := Try.prog) w 67 5 Try.underlying67 Try.underlying5 _ _ 9 Try.underlying9
    | some a =>
      obtain ⟨g, off, sp⟩ := a
      simp [convert, Conv.bytesToString, loadCells, run_underlying Try.underlying67, run_underlying Try.underlying9, run_underlying Try.underlying5, Result.andThen, strOf]
      rfl
theorem ByC.form {w : World} {v : Value} {bs : List UInt8} (h : ByC w v bs) : ∃ ao cap, v = .slice ao bs.length cap ∧ bs.length ≤ 9223372036854775807 := by
  obtain ⟨ao, cap, hv, hl, _⟩ := h
  exact ⟨ao, cap, hv, by unfold maxLen at hl; omega⟩
theorem OwnB.form {base : Nat} {w : World} {v : Value} {bs : List UInt8} (h : OwnB base w v bs) : ∃ ao cap, v = .slice ao bs.length cap ∧ bs.length ≤ cap ∧ bs.length ≤ maxLen := by
  rcases h.2 with ⟨h1, h2⟩ | ⟨g, cap, cur, hv, hb, hg, hn, hm, hs, htake⟩
  · exact ⟨none, 0, by rw [h1, h2], by omega, by rw [h2]; exact Nat.zero_le _⟩
  · exact ⟨_, cap, hv, hn, Nat.le_trans hn hm⟩
theorem OwnB.form' {base : Nat} {w : World} {v : Value} {bs : List UInt8} (h : OwnB base w v bs) : ∃ ao m cap, v = .slice ao m cap ∧ Hid (m = bs.length) := by
  obtain ⟨ao, cap, hv, _, _⟩ := h.form
  exact ⟨ao, _, cap, hv, Lib.hid rfl⟩
theorem OwnB.alloc {base : Nat} {w : World} {v : Value} {bs : List UInt8} (h : OwnB base w v bs) (o : Obj) : OwnB base (w.alloc o) v bs := World.ownsRow.alloc h o
theorem OwnB.at {base : Nat} {w : World} {v : Value} {bs : List UInt8} (h : OwnB base w v bs) : ByC w v bs := (h.bytes (by obtain ⟨_, _, _, _, h2⟩ := h.form; exact h2)).c
theorem OwnB.nil (base : Nat) (w : World) : OwnB base w (.slice none 0 0) [] := World.ownsRow_nil w base 5 1
theorem below_grown {base : Nat} {w w' : World} {v : Value} {bs : List UInt8} (h : OwnB base w v bs) (hb : base ≤ w.heap.size) (hg : w.grownBy w' v.ownBlock) : Below base w w' :=
  (Below.refl _ _).grown hg hb (fun k hk => (World.ownsRow.lt h k hk).1)
theorem cellsB_one (bs : List UInt8) : ∀ u ∈ cellsB bs, u.oneCell' = true := by
  intro u hu
  simp only [cellsB, List.mem_map] at hu
  obtain ⟨x, _, rfl⟩ := hu
  rfl
theorem info5' : ∃ i, Try.prog.info? 5 = some i ∧ i.zero = some (.int .u8 0) ∧ i.size = 1 ∧ i.bytes = 1 := by
  have h := info5
  cases hq : Try.prog.info? 5 with
  | none => rw [hq] at h; simp at h
  | some i => rw [hq] at h; simp at h; exact ⟨i, rfl, h.1, h.2.1, h.2.2⟩
theorem GrV.refl (v : Value) (w : World) : GrV v w w v := ⟨fun _ _ _ => rfl, Nat.le_refl _, .inl rfl⟩
theorem GrV.trans {v v1 v2 : Value} {a b c : World} (h : GrV v a b v1) (g : GrV v1 b c v2) : GrV v a c v2 := by
  refine ⟨fun k hk hne => ?_, Nat.le_trans h.2.1 g.2.1, ?_⟩
  · rw [g.1 k (Nat.lt_of_lt_of_le hk h.2.1) ?_, h.1 k hk hne]
    rcases h.2.2 with e | ⟨j, hj, e⟩
    · rw [e]; exact hne
    · rw [e]; intro e'; cases e'; omega
  · rcases g.2.2 with e | ⟨j, hj, e⟩
    · rw [e]; exact h.2.2
    · exact .inr ⟨j, Nat.le_trans h.2.1 hj, e⟩
theorem GrV.alloc {v v1 : Value} {a b : World} (h : GrV v a b v1) (o : Obj) : GrV v a (b.alloc o) v1 :=
  ⟨fun k hk hne => (Below.heap_alloc b o k (Nat.lt_of_lt_of_le hk h.2.1)).trans (h.1 k hk hne), by have := h.2.1; simp; omega, h.2.2⟩
theorem GrV.cell {v v1 : Value} {a b : World} (h : GrV v a b v1) {p : Addr} (hp : p.block < a.heap.size) (hne : some p.block ≠ v.ownBlock) : b.cell? p = a.cell? p := World.cell?_of_block (h.1 p.block hp hne)
theorem OwnB.ne_new {base : Nat} {w : World} {v : Value} {bs : List UInt8} (h : OwnB base w v bs) {k : Nat} (hk : w.heap.size ≤ k) : some k ≠ v.ownBlock := fun e => by
  have := (World.ownsRow.lt h k e.symm).2; omega
/-- the blocks that were there stay, but for v's own -/
def KeepV (v : Value) (w w' : World) : Prop := ∀ k : Nat, k < w.heap.size → some k ≠ v.ownBlock → w'.heap[k]? = w.heap[k]?
theorem KeepV.cell {v : Value} {w w' : World} (h : KeepV v w w') {p : Addr} (hp : p.block < w.heap.size) (hne : some p.block ≠ v.ownBlock) : w'.cell? p = w.cell? p := World.cell?_of_block (h p.block hp hne)
theorem KeepV.of {v v1 : Value} {a b c : World} (h : GrV v a b v1) (k : KeepV v1 b c) : KeepV v a c := fun j hj hne => by
  rw [k j (Nat.lt_of_lt_of_le hj h.2.1) ?_, h.1 j hj hne]
  rcases h.2.2 with e | ⟨q, hq, e⟩
  · rw [e]; exact hne
  · rw [e]; intro e'; cases e'; omega
theorem OwnB.ne_kind {base : Nat} {w : World} {v : Value} {bs : List UInt8} (h : OwnB base w v bs) {k : Nat} {cs : Array Value} {t : TypeId} {fz : Nat × Nat} (hk : w.heap[k]? = some (.cells cs t fz)) (ht : t ≠ 5) : some k ≠ v.ownBlock := fun e => by
  rcases h.2 with ⟨h1, _⟩ | ⟨g, cap, cur, hv, hb, hg, _⟩
  · rw [h1] at e; cases e
  · rw [hv] at e
    have : k = g := by injection e
    subst this
    rw [hk] at hg; cases hg; exact ht rfl
theorem own_append {base : Nat} {w : World} {v : Value} {bs : List UInt8} (h : OwnB base w v bs) {x : Value} {cs : List UInt8} (hx : ByC w x cs) (hlen : bs.length + cs.length ≤ 140737488355328) (hb : base ≤ w.heap.size) (ty : TypeId) :
    ∃ v' w', (Builtin.append_ #[67, 67] ty #[v, x]).run Try.prog w = .ok v' w' ∧ OwnB base w' v' (bs ++ cs) ∧ Below base w w' ∧ w.heap.size ≤ w'.heap.size ∧ GrV v w w' v' := by
  obtain ⟨i, hi, hi0, hi1, hi2⟩ := info5'
  obtain ⟨bo, c, hxv, hxl, hxc⟩ := hx
  subst hxv
  by_cases h0 : 0 < cs.length
  · obtain ⟨b', off', rfl, hat⟩ := hxc h0
    obtain ⟨v', w', hr, ho, hgr, -, hob⟩ := run_append_own_at (P := Try.prog) w base 67 ty 5 i _ 1 1 Try.underlying67 hi hi0 hi1 hi2 rfl (by decide) v bs.length (cellsB bs) h ⟨b', off', none⟩ cs.length c (cellsB cs) (by rw [cellsB_length]; simp) (fun j u hu => by
        have hj : j < cs.length := by have := (List.getElem?_eq_some_iff.1 hu).1; rwa [cellsB_length] at this
        rw [Addr.add_mid, hat j hj]
        simp only [cellsB, List.getElem?_map, List.getElem?_eq_getElem hj, Option.map_some] at hu
        rw [← hu, List.getD_eq_getElem?_getD, List.getElem?_eq_getElem hj]; rfl) (cellsB_one cs) (by unfold maxLen; omega) (by omega) hb
    refine ⟨v', w', hr, ?_, below_grown h hb hgr, hgr.size, hgr.block, hgr.size, hob.imp id fun e => ⟨_, Nat.le_refl _, e⟩⟩
    unfold OwnB
    rw [List.length_append, show cellsB (bs ++ cs) = cellsB bs ++ cellsB cs by simp [cellsB]]
    exact ho
  · have hcs : cs = [] := List.eq_nil_of_length_eq_zero (by omega)
    subst hcs
    obtain ⟨ao, cap, hv, hc1, _⟩ := h.form
    subst hv
    refine ⟨_, w, run_append_none w 67 ty 5 Try.underlying67 i hi ao bo bs.length cap c hc1, by rw [List.append_nil]; exact h, Below.refl _ _, Nat.le_refl _, GrV.refl _ _⟩
theorem bytes_one (w : World) (x : UInt8) : ByC (w.alloc (.cells #[.int .u8 (x.toNat : Int)] 5)) (.slice (some ⟨w.heap.size, 0, none⟩) 1 1) [x] := by
  refine BytesAt.c ⟨_, 1, rfl, by simp [maxLen], fun _ => ⟨w.heap.size, 0, _, _, rfl, heap_alloc_new w _, fun i hi => ?_⟩⟩
  have : i = 0 := by simpa using hi
  subst this
  rfl
theorem bytes_one' (w : World) (x : UInt8) (n : Int) (hn : n = x.toNat) (k : Nat) (hk : w.heap.size = k) : ByC (w.alloc (.cells #[.int .u8 n] 5)) (.slice (some ⟨k, 0, none⟩) 1 1) [x] := by
  subst hn; subst hk; exact bytes_one w x
theorem own_append_str {base : Nat} {w : World} {v : Value} {bs : List UInt8} (h : OwnB base w v bs) (s : ByteArray) (hlen : bs.length + s.size ≤ 140737488355328) (hb : base ≤ w.heap.size) (ty : TypeId) :
    ∃ v' w', (Builtin.append_ #[67, 9] ty #[v, .string s]).run Try.prog w = .ok v' w' ∧ OwnB base w' v' (bs ++ s.data.toList) ∧ Below base w w' ∧ w.heap.size ≤ w'.heap.size ∧ KeepV v w w' := by
  obtain ⟨i, hi, hi0, hi1, hi2⟩ := info5'
  obtain ⟨v', w', hr, ho, hg, -⟩ := Lib.run_append_own_string (P := Try.prog) w base 67 9 ty 5 i Try.underlying67 Try.underlying9 hi hi0 hi1 hi2 v bs.length (cellsB bs) h s (by unfold maxLen; omega) hlen hb
  refine ⟨v', w', hr, ?_, below_grown h hb hg, hg.size, hg.block⟩
  unfold OwnB
  rw [List.length_append, Array.length_toList, show cellsB (bs ++ s.data.toList) = cellsB bs ++ Lib.strCells s by simp [cellsB, Lib.strCells, byteV]]
  exact ho
theorem OwnB.below {base : Nat} {w w' : World} {v : Value} {bs : List UInt8} (h : OwnB base w v bs) (hb : Below w.heap.size w w') : OwnB base w' v bs :=
  ownsRow_of_row h (fun k _ hk => (hb.block k (lt_of_heap hk)).trans hk)
theorem OwnB.base {b b' : Nat} {w : World} {v : Value} {bs : List UInt8} (h : OwnB b w v bs) (hb : b' ≤ b) : OwnB b' w v bs :=
  ownsRow_base h (fun k hk => Nat.le_trans hb (World.ownsRow.lt h k hk).1)
/-- what a call that answers bytes of its own leaves -/
def OwnRet (base : Nat) (w : World) (bs : List UInt8) (e : Ending) (w' : World) : Prop := ∃ v', e = .returned v' ∧ OwnB base w' v' bs ∧ Below base w w'
def OwnRetG (v : Value) (base : Nat) (w : World) (bs : List UInt8) (e : Ending) (w' : World) : Prop := ∃ v', e = .returned v' ∧ OwnB base w' v' bs ∧ Below base w w' ∧ w.heap.size ≤ w'.heap.size ∧ KeepV v w w'
end Go.Proofs.Ytdkmfcmndncmcaa
