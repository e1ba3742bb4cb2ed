/- The contracts of pack's small calls on bytes. No statement of the seat is proved here. -/
import Derived.Test.YtmkomhdlcbimoaaBytes
import Derived.Test.YtmkomhdlcbimoaaPMath
import Derived.Maps.AppendAt
namespace Go.Proofs.Ytmkomhdlcbimoaa
set_option maxRecDepth 20000
open Go.RowKit

/-- A slice that reads as bytes in w, cell by cell. -/
def ByC (w : World) (v : Value) (bs : List UInt8) : Prop :=
  ∃ ao cap, v = .slice ao bs.length cap ∧ bs.length ≤ maxLen ∧ (0 < bs.length → ∃ b off, ao = some ⟨b, off, none⟩ ∧ ∀ i, i < bs.length → w.cell? ⟨b, off + i, none⟩ = some (byteV (bs.getD i 0)))
theorem BytesAt.c {w : World} {v : Value} {bs : List UInt8} (h : BytesAt w v bs) : ByC w v bs := by
  obtain ⟨ao, cap, hv, hl, hc⟩ := h
  refine ⟨ao, cap, hv, hl, fun h0 => ?_⟩
  obtain ⟨b, off, cs, fz, h1, h2, h3⟩ := hc h0
  exact ⟨b, off, h1, fun i hi => by rw [cell_of_row w b (off + i) cs _ fz h2, h3 i hi]⟩
theorem ByC.below {w w' : World} {v : Value} {bs : List UInt8} (h : ByC w v bs) (hb : Below w.heap.size w w') : ByC w' v bs := by
  obtain ⟨ao, cap, hv, hl, hc⟩ := h
  refine ⟨ao, cap, hv, hl, fun h0 => ?_⟩
  obtain ⟨b, off, h1, h2⟩ := hc h0
  exact ⟨b, off, h1, fun i hi => (hb.cell (World.block_lt_of_cell? w _ (h2 i hi))).trans (h2 i hi)⟩
/-- a cell of bytes -/
theorem ByC.get {w : World} {ao : Option Addr} {n cap : Nat} {bs : List UInt8} (h : ByC w (.slice ao n cap) bs) {k : Nat} (hk : k < bs.length) : ∃ b off, ao = some ⟨b, off, none⟩ ∧ w.cell? ⟨b, off + k, none⟩ = some (.int .u8 (byteAt bs k : Nat)) := by
  obtain ⟨ao', cap', hv, _, hc⟩ := h
  cases hv
  obtain ⟨b, off, h1, h3⟩ := hc (by omega)
  exact ⟨b, off, h1, by rw [h3 k hk]; rfl⟩
set_option maxRecDepth 20000 in
theorem run_string_c {w : World} {v : Value} {bs : List UInt8} (h : ByC w v bs) : (convert 36 9 v).run Try.prog w = .ok (.string (strOf bs)) w := by
  obtain ⟨ao, cap, rfl, hl, hc⟩ := h
  by_cases h0 : 0 < bs.length
  · obtain ⟨g, off, rfl, hat⟩ := hc h0
    have := run_convert_bytes_arg (P := Try.prog) w 36 5 Try.underlying36 Try.underlying5 g off bs.length cap (bs.map fun x => (x.toNat : Int)) (by simp) (fun i hi => by
      rw [hat i hi]
      simp [byteV, List.getD_eq_getElem?_getD, List.getElem?_eq_getElem hi]) 9 Try.underlying9
    rw [this]
    congr 2
    simp [strOfNums, strOf, Function.comp_def]
  · have hb : bs = [] := List.eq_nil_of_length_eq_zero (by omega)
    subst hb
    cases ao with
    | none => exact run_convert_bytes_nil (P := Try.prog) w 36 5 Try.underlying36 Try.underlying5 _ _ 9 Try.underlying9
    | some a =>
      obtain ⟨g, off, sp⟩ := a
      simp [convert, Conv.bytesToString, loadCells, run_underlying Try.underlying36, run_underlying Try.underlying9, run_underlying Try.underlying5, Result.andThen, strOf]
      rfl
theorem ByC.form {w : World} {v : Value} {bs : List UInt8} (h : ByC w v bs) : ∃ ao cap, v = .slice ao bs.length cap ∧ bs.length ≤ 9223372036854775807 := by
  obtain ⟨ao, cap, hv, hl, _⟩ := h
  exact ⟨ao, cap, hv, by unfold maxLen at hl; omega⟩

theorem wrap_nat (n : Nat) (h : n < 18446744073709551616) : IntKind.u64.wrap (n : Int) = n := by rw [IntKind.wrap_u64]; omega
set_option maxHeartbeats 400000 in
theorem noughts_any {w : World} {v : Value} {bs : List UInt8} (h : ByC w v bs) : Calls Try.prog 69 #[v] w fun e w' => e = .returned (.bool (bs.all (· == 0))) ∧ w = w' := by
  obtain ⟨ao, cap, rfl, hl⟩ := h.form
  have hh := h
  go_enter Try.func69, Try.ntmps69
  go_wp2
  go_loop [7] (fun i => ∃ k : Nat, k ≤ bs.length ∧ i = .int .i64 k ∧ Hid (∀ j, j < k → bs.getD j 0 = 0)) (fun i => bs.length - (intOf i).toNat)
  case atStart => exact ⟨0, Nat.zero_le _, rfl, Lib.hid (fun j hj => by omega)⟩
  case round =>
    obtain ⟨k, hk, rfl, hz⟩ := hrel
    by_cases hlt : k < bs.length
    · obtain ⟨b, off, rfl, hcell⟩ := hh.get hlt
      by_cases h0 : bs.getD k 0 = 0
      · have h0' : (((byteAt bs k : Nat) : Int) != 0) = false := by rw [(byteAt_zero bs k).2 h0]; rfl
        go_wp2
        go_round
        case rel => exact ⟨k + 1, by omega, by go_num, Lib.hid (fun j hj => by
            by_cases e : j = k
            · subst e; exact h0
            · exact hz.out j (by omega))⟩
        case measure => first | (simp [intOf]; omega) | omega
      · have h0' : (((byteAt bs k : Nat) : Int) != 0) = true := by
          have : byteAt bs k ≠ 0 := fun e => h0 ((byteAt_zero bs k).1 e)
          simp; omega
        have hf : bs.all (· == 0) = false := by
          rw [List.all_eq_false]
          refine ⟨bs.getD k 0, ?_, by simpa using h0⟩
          rw [List.getD_eq_getElem?_getD, List.getElem?_eq_getElem hlt]; exact List.getElem_mem _
        have HF := Lib.hid hf
        clear hf h0
        go_wp2
        go_ret
        exact ⟨by rw [HF.out]; rfl, rfl⟩
    · have hf : bs.all (· == 0) = true := by
        rw [List.all_eq_true]
        intro x hx
        obtain ⟨j, hj, rfl⟩ := List.mem_iff_getElem.1 hx
        have := hz.out j (by omega)
        rw [List.getD_eq_getElem?_getD, List.getElem?_eq_getElem hj] at this
        simpa using this
      have HF := Lib.hid hf
      clear hf
      go_wp2
      go_ret
      exact ⟨by rw [HF.out]; rfl, rfl⟩

set_option maxHeartbeats 400000 in
theorem readLow_any {w : World} {v : Value} {bs : List UInt8} (h : ByC w v bs) (h8 : bs.length ≤ 8) : Calls Try.prog 68 #[v] w fun e w' => e = .returned (.int .u64 (le bs)) ∧ w = w' := by
  obtain ⟨ao, cap, rfl, hl⟩ := h.form
  have hh := h
  go_enter Try.func68, Try.ntmps68
  go_wp2
  go_loop [3, 8] (fun n i => ∃ k : Nat, k ≤ bs.length ∧ i = .int .i64 k ∧ n = .int .u64 (le (bs.take k))) (fun _ i => bs.length - (intOf i).toNat)
  case atStart => exact ⟨0, Nat.zero_le _, rfl, by simp [le]⟩
  case round =>
    obtain ⟨k, hk, rfl, rfl⟩ := hrel
    by_cases hlt : k < bs.length
    · obtain ⟨b, off, rfl, hcell⟩ := hh.get hlt
      have hb := byteAt_le bs k
      have hf := byte_fits (byteAt bs k) k hb (by omega)
      have e1 : IntKind.u64.wrap ((byteAt bs k : Int) * 2 ^ (8 * k)) = ((byteAt bs k * 2 ^ (8 * k) : Nat) : Int) := by
        have e : ((byteAt bs k : Int) * (2 : Int) ^ (8 * k)) = ((byteAt bs k * 2 ^ (8 * k) : Nat) : Int) := by rw [Int.natCast_mul, Int.natCast_pow]; rfl
        rw [e]; exact wrap_nat _ hf
      have hs := sum_fits bs k hlt h8
      have ht := le_take bs k hlt
      have e2 : bits .or .u64 (le (bs.take k) : Int) ((byteAt bs k * 2 ^ (8 * k) : Nat) : Int) = (le (bs.take (k + 1)) : Int) := by
        rw [u64_or_nat _ _ (by omega) hf, or_byte _ _ _ (le_take_lt bs k hk), ← ht]
      have E1 := Lib.hid e1
      have E2 := Lib.hid e2
      clear e1 e2 ht hs hf
      go_wp2
      go_round
      case rel => exact ⟨k + 1, by omega, by go_num, by rw [E1.out, E2.out]⟩
      case measure => first | (simp [intOf]; omega) | omega
    · go_wp2
      go_ret
      exact ⟨by rw [List.take_of_length_le (by omega)]; rfl, rfl⟩

/-! ### append onto bytes of one's own -/
theorem OwnB.form {base : Nat} {w : World} {v : Value} {bs : List UInt8} (h : OwnB base w v bs) : ∃ ao cap, v = .slice ao bs.length cap ∧ bs.length ≤ cap ∧ bs.length ≤ maxLen := by
  rcases h.2 with ⟨h1, h2⟩ | ⟨g, cap, cur, hv, hb, hg, hn, hm, hs, htake⟩
  · exact ⟨none, 0, by rw [h1, h2], by omega, by rw [h2]; exact Nat.zero_le _⟩
  · exact ⟨_, cap, hv, hn, Nat.le_trans hn hm⟩
theorem OwnB.form' {base : Nat} {w : World} {v : Value} {bs : List UInt8} (h : OwnB base w v bs) : ∃ ao m cap, v = .slice ao m cap ∧ Hid (m = bs.length) := by
  obtain ⟨ao, cap, hv, _, _⟩ := h.form
  exact ⟨ao, _, cap, hv, Lib.hid rfl⟩
theorem OwnB.alloc {base : Nat} {w : World} {v : Value} {bs : List UInt8} (h : OwnB base w v bs) (o : Obj) : OwnB base (w.alloc o) v bs := World.ownsRow.alloc h o
theorem OwnB.at {base : Nat} {w : World} {v : Value} {bs : List UInt8} (h : OwnB base w v bs) : ByC w v bs := (h.bytes (by obtain ⟨_, _, _, _, h2⟩ := h.form; exact h2)).c
theorem OwnB.nil (base : Nat) (w : World) : OwnB base w (.slice none 0 0) [] := World.ownsRow_nil w base 5 1
theorem below_grown {base : Nat} {w w' : World} {v : Value} {bs : List UInt8} (h : OwnB base w v bs) (hb : base ≤ w.heap.size) (hg : w.grownBy w' v.ownBlock) : Below base w w' :=
  (Below.refl _ _).grown hg hb (fun k hk => (World.ownsRow.lt h k hk).1)
theorem cellsB_one (bs : List UInt8) : ∀ u ∈ cellsB bs, u.oneCell' = true := by
  intro u hu
  simp only [cellsB, List.mem_map] at hu
  obtain ⟨x, _, rfl⟩ := hu
  rfl
theorem info5' : ∃ i, Try.prog.info? 5 = some i ∧ i.zero = some (.int .u8 0) ∧ i.size = 1 ∧ i.bytes = 1 := by
  have h := info5
  cases hq : Try.prog.info? 5 with
  | none => rw [hq] at h; simp at h
  | some i => rw [hq] at h; simp at h; exact ⟨i, rfl, h.1, h.2.1, h.2.2⟩
theorem run_append_none (w : World) (t ty e : TypeId) (ht : Try.prog.underlying t = some (.slice e)) (i : TypeInfo) (hi : Try.prog.info? e = some i) (ao bo : Option Addr) (n cap c : Nat) (h : n ≤ cap) :
    (Builtin.append_ #[t, t] ty #[.slice ao n cap, .slice bo 0 c]).run Try.prog w = .ok (.slice ao n cap) w := by
  cases ao <;> cases bo <;> simp [Builtin.append_, run_underlying ht, sizeOf, typeInfo, hi, Builtin.lenOf, h, Builtin.firstCells, loadCells, storeCells, Result.andThen] <;> rfl
/-- The blocks that were there are as they were, but for v's own; v' lies there or in a new one. -/
def Gr (v : Value) (w w' : World) (v' : Value) : Prop := (∀ k : Nat, k < w.heap.size → some k ≠ v.ownBlock → w'.heap[k]? = w.heap[k]?) ∧ w.heap.size ≤ w'.heap.size ∧ (v'.ownBlock = v.ownBlock ∨ ∃ k, w.heap.size ≤ k ∧ v'.ownBlock = some k)
theorem Gr.refl (v : Value) (w : World) : Gr v w w v := ⟨fun _ _ _ => rfl, Nat.le_refl _, .inl rfl⟩
theorem Gr.trans {v v1 v2 : Value} {a b c : World} (h : Gr v a b v1) (g : Gr v1 b c v2) : Gr v a c v2 := by
  refine ⟨fun k hk hne => ?_, Nat.le_trans h.2.1 g.2.1, ?_⟩
  · rw [g.1 k (Nat.lt_of_lt_of_le hk h.2.1) ?_, h.1 k hk hne]
    rcases h.2.2 with e | ⟨j, hj, e⟩
    · rw [e]; exact hne
    · rw [e]; intro e'; cases e'; omega
  · rcases g.2.2 with e | ⟨j, hj, e⟩
    · rw [e]; exact h.2.2
    · exact .inr ⟨j, Nat.le_trans h.2.1 hj, e⟩
theorem Gr.alloc {v v1 : Value} {a b : World} (h : Gr v a b v1) (o : Obj) : Gr v a (b.alloc o) v1 :=
  ⟨fun k hk hne => (Below.heap_alloc b o k (Nat.lt_of_lt_of_le hk h.2.1)).trans (h.1 k hk hne), by have := h.2.1; simp; omega, h.2.2⟩
theorem Gr.cell {v v1 : Value} {a b : World} (h : Gr v a b v1) {p : Addr} (hp : p.block < a.heap.size) (hne : some p.block ≠ v.ownBlock) : b.cell? p = a.cell? p := World.cell?_of_block (h.1 p.block hp hne)
theorem OwnB.ne_new {base : Nat} {w : World} {v : Value} {bs : List UInt8} (h : OwnB base w v bs) {k : Nat} (hk : w.heap.size ≤ k) : some k ≠ v.ownBlock := fun e => by
  have := (World.ownsRow.lt h k e.symm).2; omega
theorem own_append {base : Nat} {w : World} {v : Value} {bs : List UInt8} (h : OwnB base w v bs) {x : Value} {cs : List UInt8} (hx : ByC w x cs) (hlen : bs.length + cs.length ≤ 140737488355328) (hb : base ≤ w.heap.size) (ty : TypeId) :
    ∃ v' w', (Builtin.append_ #[36, 36] ty #[v, x]).run Try.prog w = .ok v' w' ∧ OwnB base w' v' (bs ++ cs) ∧ Below base w w' ∧ w.heap.size ≤ w'.heap.size ∧ Gr v w w' v' := by
  obtain ⟨i, hi, hi0, hi1, hi2⟩ := info5'
  obtain ⟨bo, c, hxv, hxl, hxc⟩ := hx
  subst hxv
  by_cases h0 : 0 < cs.length
  · obtain ⟨b', off', rfl, hat⟩ := hxc h0
    obtain ⟨v', w', hr, ho, hgr, -, hob⟩ := run_append_own_at (P := Try.prog) w base 36 ty 5 i _ 1 1 Try.underlying36 hi hi0 hi1 hi2 rfl (by decide) v bs.length (cellsB bs) h ⟨b', off', none⟩ cs.length c (cellsB cs) (by rw [cellsB_length]; simp) (fun j u hu => by
        have hj : j < cs.length := by have := (List.getElem?_eq_some_iff.1 hu).1; rwa [cellsB_length] at this
        rw [Addr.add_mid, hat j hj]
        simp only [cellsB, List.getElem?_map, List.getElem?_eq_getElem hj, Option.map_some] at hu
        rw [← hu, List.getD_eq_getElem?_getD, List.getElem?_eq_getElem hj]; rfl) (cellsB_one cs) (by unfold maxLen; omega) (by omega) hb
    refine ⟨v', w', hr, ?_, below_grown h hb hgr, hgr.size, hgr.block, hgr.size, hob.imp id fun e => ⟨_, Nat.le_refl _, e⟩⟩
    unfold OwnB
    rw [List.length_append, show cellsB (bs ++ cs) = cellsB bs ++ cellsB cs by simp [cellsB]]
    exact ho
  · have hcs : cs = [] := List.eq_nil_of_length_eq_zero (by omega)
    subst hcs
    obtain ⟨ao, cap, hv, hc1, _⟩ := h.form
    subst hv
    refine ⟨_, w, run_append_none w 36 ty 5 Try.underlying36 i hi ao bo bs.length cap c hc1, by rw [List.append_nil]; exact h, Below.refl _ _, Nat.le_refl _, Gr.refl _ _⟩
theorem wpList_append_eq {P : Program} {ops : Array Oper} {rest : List Oper} {o : Oper} {a : Act} {w w1 : World} {Q : Exit → Act → World → Prop} (hgd : o.guard = none) (s x : Operand) (t u : TypeId) (ho : o.op = .call { callee := .builtin .append, args := #[s, x], argTypes := #[t, u] }) (v0 v1 v : Value) (hs : a.eval s = v0) (hx : a.eval x = v1)
    (hrun : (Builtin.append_ #[t, u] o.type #[v0, v1]).run P w = .ok v w1) (h : wpList P ops Q rest (a.put o.dst v) w1) : wpList P ops Q (o :: rest) a w := by
  refine wpList_value hgd ?_ h
  unfold execOp
  simp only [ho, resolve, invoke, builtin, Sem.run_bind, Sem.run_pure, Result.andThen_ok, List.map_toArray, List.map_cons, List.map_nil, hs, hx, hrun]

/-- what a call that answers bytes of its own leaves -/
def OwnRetG (v : Value) (base : Nat) (w : World) (bs : List UInt8) (e : Ending) (w' : World) : Prop := ∃ v', e = .returned v' ∧ OwnB base w' v' bs ∧ Below base w w' ∧ Gr v w w' v'
def OwnRet (base : Nat) (w : World) (bs : List UInt8) (e : Ending) (w' : World) : Prop := ∃ v', e = .returned v' ∧ OwnB base w' v' bs ∧ Below base w w'
theorem bytes_one (w : World) (x : UInt8) : ByC (w.alloc (.cells #[.int .u8 (x.toNat : Int)] 5)) (.slice (some ⟨w.heap.size, 0, none⟩) 1 1) [x] := by
  refine BytesAt.c ⟨_, 1, rfl, by simp [maxLen], fun _ => ⟨w.heap.size, 0, _, _, rfl, heap_alloc_new w _, fun i hi => ?_⟩⟩
  have : i = 0 := by simpa using hi
  subst this
  rfl
theorem bytes_one' (w : World) (x : UInt8) (n : Int) (hn : n = x.toNat) (k : Nat) (hk : w.heap.size = k) : ByC (w.alloc (.cells #[.int .u8 n] 5)) (.slice (some ⟨k, 0, none⟩) 1 1) [x] := by
  subst hn; subst hk; exact bytes_one w x
theorem shr_low (n k : Nat) : IntKind.u8.wrap ((n : Int) / 2 ^ (8 * k)) = ((lowB n k).toNat : Int) := by
  unfold lowB
  rw [IntKind.wrap_u8, UInt8.toNat_ofNat']
  have : ((n : Int) / 2 ^ (8 * k)) = ((n / 2 ^ (8 * k) : Nat) : Int) := by rw [Int.natCast_ediv, Int.natCast_pow]; rfl
  rw [this]; simp
set_option maxHeartbeats 800000 in
theorem appendLow_any {base : Nat} {w : World} {v : Value} {bs : List UInt8} (h : OwnB base w v bs) (n c : Nat) (hc : c ≤ 8) (hb : base ≤ w.heap.size) (hl : bs.length + 8 ≤ 140737488355328) :
    Calls Try.prog 62 #[v, .int .u64 n, .int .i64 c] w (OwnRetG v base w (bs ++ low n c)) := by
  obtain ⟨ao, m0, cap, rfl, hm0⟩ := h.form'
  go_enter Try.func62, Try.ntmps62
  go_wp2
  go_loopw [0, 9] (fun bv iv wr => ∃ k : Nat, k ≤ c ∧ iv = .int .i64 k ∧ OwnB base wr bv (bs ++ low n k) ∧ Below base w wr ∧ Gr (.slice ao m0 cap) w wr bv) (fun _ iv _ => c - (intOf iv).toNat)
  case atStart => exact ⟨0, Nat.zero_le _, rfl, by rw [low_zero, List.append_nil]; exact h, Below.refl _ _, Gr.refl _ _⟩
  case round =>
    obtain ⟨k, hk, rfl, ho, hbel, hgr⟩ := hrel
    obtain ⟨bo, m, bc, hform, hm⟩ := ho.form'
    by_cases hlt : k < c
    · have hs := shr_low n k
      have hx := bytes_one wr (lowB n k)
      obtain ⟨v', w', hr, ho', hb', hsz, hg'⟩ := own_append (ho.alloc (.cells #[.int .u8 ((lowB n k).toNat : Int)] 5)) hx (by rw [List.length_append, low_length]; simp; omega) (by have := hbel.size; simp; omega) 36
      rw [List.append_assoc, ← low_succ] at ho'
      have HB := (hbel.alloc (by have := hbel.size; omega) (.cells #[.int .u8 ((lowB n k).toNat : Int)] 5)).trans hb'
      have HG := (hgr.alloc (.cells #[.int .u8 ((lowB n k).toNat : Int)] 5)).trans hg'
      have HR := Lib.hid hr
      clear hr hx ho hb' hsz hbel hgr hg'
      subst hform
      go_wp2_with (with_reducible refine wpList_append_eq rfl (.tmp 12) (.tmp 18) 36 36 rfl (.slice bo m bc) (.slice (some ⟨wr.heap.size, 0, none⟩) 1 1) v' rfl rfl HR.out ?_)
      go_roundw
      case rel => exact ⟨k + 1, by omega, by go_num, ho', HB, HG⟩
      case measure => simp [intOf]; omega
    · subst hform
      go_wp2
      go_ret
      exact ⟨_, rfl, by rw [show c = k by omega]; exact ho, hbel, hgr⟩
end Go.Proofs.Ytmkomhdlcbimoaa
