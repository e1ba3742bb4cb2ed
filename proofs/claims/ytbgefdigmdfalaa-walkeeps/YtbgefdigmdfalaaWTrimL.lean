/- Rows of ints of a law's own beside a log; a part of a list of lists; a log that is filled with what the law appends. No statement of the seat is proved here. -/
import Derived.Test.YtbgefdigmdfalaaWApp2
import Derived.Test.YtbgefdigmdfalaaWSame
import Derived.Test.YtbgefdigmdfalaaWGrow
import Derived.Test.YtbgefdigmdfalaaWMake
import Derived.Deep.MidRow
import Derived.Maps.AppendAt
namespace Go.Proofs.Ytbgefdigmdfalaa
set_option maxRecDepth 20000
open Go.RowKit

/-! ### rows of one's own (as in Own.lean) -/

/-- The blocks that were there are as they were, but for v's own; v' lies there or in a new one. -/
def GrV (v : Value) (w w' : World) (v' : Value) : Prop := (∀ k : Nat, k < w.heap.size → some k ≠ v.ownBlock → w'.heap[k]? = w.heap[k]?) ∧ w.heap.size ≤ w'.heap.size ∧ (v'.ownBlock = v.ownBlock ∨ ∃ k, w.heap.size ≤ k ∧ v'.ownBlock = some k)
theorem own_push {t e ty : TypeId} {size bytes : Nat} {i : TypeInfo} {z : Value} (ht : Try.prog.underlying t = some (.slice e)) (hi : Try.prog.info? e = some i) (hz : i.zero = some z) (hs : i.size = size) (hby : i.bytes = bytes) (hzs : z.cells.size = size) (hp : 0 < size)
    {base : Nat} {w : World} {v : Value} {n : Nat} {xs : List Value} (h : w.ownsRow base e size v n xs) {b : Nat} {ys : List Value} {fz : Nat × Nat} (hy : w.heap[b]? = some (.cells ys.toArray e fz)) (hl : ys.length = size) (h1 : ∀ u ∈ ys, u.oneCell' = true)
    (hlen : (n + 1) * bytes ≤ 140737488355328) (hm : n + 1 ≤ maxLen) (hb : base ≤ w.heap.size) :
    ∃ v' w', (Builtin.append_ #[t, t] ty #[v, .slice (some ⟨b, 0, none⟩) 1 1]).run Try.prog w = .ok v' w' ∧ w'.ownsRow base e size v' (n + 1) (xs ++ ys) ∧ Below base w w' ∧ w.heap.size ≤ w'.heap.size ∧ GrV v w w' v' := by
  obtain ⟨v', w', hr, ho, hgr, -, hob⟩ := run_append_own_at (P := Try.prog) w base t ty e i z size bytes ht hi hz hs hby hzs hp v n xs h ⟨b, 0, none⟩ 1 1 ys (by rw [hl]; omega) (fun j u hu => by
      rw [Addr.add_mid, Nat.zero_add, cell_of_row w b j _ _ _ hy]; simpa using hu) h1 hm hlen hb
  exact ⟨v', w', hr, ho, (Below.refl _ _).grown hgr hb (fun k hk => (World.ownsRow.lt h k hk).1), hgr.size, hgr.block, hgr.size, hob.imp id fun e => ⟨_, Nat.le_refl _, e⟩⟩
theorem wpList_append_own {P : Program} {ops : Array Oper} {rest : List Oper} {o : Oper} {a : Act} {w w1 : World} {Q : Exit → Act → World → Prop} (hgd : o.guard = none) (s x : Operand) (t u : TypeId) (ho : o.op = .call { callee := .builtin .append, args := #[s, x], argTypes := #[t, u] }) (v0 v1 v : Value) (hs : a.eval s = v0) (hx : a.eval x = v1)
    (hrun : (Builtin.append_ #[t, u] o.type #[v0, v1]).run P w = .ok v w1) (h : wpList P ops Q rest (a.put o.dst v) w1) : wpList P ops Q (o :: rest) a w := by
  refine wpList_value hgd ?_ h
  unfold execOp
  simp only [ho, resolve, invoke, builtin, Sem.run_bind, Sem.run_pure, Result.andThen_ok, List.map_toArray, List.map_cons, List.map_nil, hs, hx, hrun]
theorem ownsRow_form {w : World} {base : Nat} {e : TypeId} {size : Nat} {v : Value} {n : Nat} {xs : List Value} (h : w.ownsRow base e size v n xs) : ∃ ao cap, v = .slice ao n cap ∧ n ≤ cap ∧ n ≤ maxLen := by
  rcases h.2 with ⟨h1, h2⟩ | ⟨g, cap, cur, hv, hb, hg, hn, hm, hs, htake⟩
  · exact ⟨none, 0, by rw [h1, h2], by omega, by rw [h2]; exact Nat.zero_le _⟩
  · exact ⟨_, cap, hv, hn, Nat.le_trans hn hm⟩
theorem ownsRow_keep {w w' : World} {base : Nat} {e : TypeId} {size : Nat} {v : Value} {n : Nat} {xs : List Value} (h : w.ownsRow base e size v n xs) (hk : ∀ k, v.ownBlock = some k → w'.heap[k]? = w.heap[k]?) : w'.ownsRow base e size v n xs := by
  refine ⟨h.1, ?_⟩
  rcases h.2 with h2 | ⟨g, cap, cur, hv, hg, hh, r⟩
  · exact .inl h2
  · exact .inr ⟨g, cap, cur, hv, hg, (hk g (by rw [hv]; rfl)).trans hh, r⟩
theorem ownsRow_below {w w' : World} {base : Nat} {e : TypeId} {size : Nat} {v : Value} {n : Nat} {xs : List Value} (h : w.ownsRow base e size v n xs) (hb : Below w.heap.size w w') : w'.ownsRow base e size v n xs :=
  ownsRow_keep h fun k hk => hb.block k (World.ownsRow.lt h k hk).2
/-- a cell of an own row -/
theorem ownsRow_cell {w : World} {base : Nat} {e : TypeId} {size : Nat} {ao : Option Addr} {m cap n : Nat} {xs : List Value} (h : w.ownsRow base e size (.slice ao m cap) n xs) {j : Nat} {u : Value} (hu : xs[j]? = some u) : ∃ b, ao = some ⟨b, 0, none⟩ ∧ base ≤ b ∧ w.cell? ⟨b, j, none⟩ = some u := by
  have hj : j < xs.length := (List.getElem?_eq_some_iff.1 hu).1
  have h0 : 0 < n := by have := h.1; cases n with | zero => simp at this; subst this; simp at hj | succ n => omega
  obtain ⟨g, cap', hv', hb, hlt⟩ := World.ownsRow.form h h0
  have hc := World.ownsRow.cells h (g := g) (by rw [hv']; rfl)
  have ha : ao = some ⟨g, 0, none⟩ := by injection hv'
  refine ⟨g, ha, hb, ?_⟩
  have := hc j u hu
  rwa [Addr.add_mid, Nat.zero_add] at this

/-! ### rows of ints -/
def OwnS (base : Nat) (w : World) (v : Value) (zs : List Int) : Prop := w.ownsRow base 3 1 v zs.length (zs.map (Value.int .i64))
theorem OwnS.nil (base : Nat) (w : World) : OwnS base w (.slice none 0 0) [] := World.ownsRow_nil w base 3 1
theorem OwnS.below {base : Nat} {w w' : World} {v : Value} {zs : List Int} (h : OwnS base w v zs) (hb : Below w.heap.size w w') : OwnS base w' v zs := ownsRow_below h hb
theorem OwnS.fr {K : Obj → Bool} {base B : Nat} {w w' : World} {v : Value} {zs : List Int} (h : OwnS base w v zs) (hf : Fr K B w w') (hK : ∀ cs, K (.cells cs 3 (0, 0)) = false) : OwnS base w' v zs := hf.ownsRow h hK
theorem OwnS.form' {base : Nat} {w : World} {v : Value} {zs : List Int} (h : OwnS base w v zs) : ∃ ao m cap, v = .slice ao m cap ∧ Hid (m = zs.length) := by
  obtain ⟨ao, cap, hv, _, _⟩ := ownsRow_form h
  exact ⟨ao, _, cap, hv, Lib.hid rfl⟩
theorem OwnS.cell {base : Nat} {w : World} {ao : Option Addr} {m cap : Nat} {zs : List Int} (h : OwnS base w (.slice ao m cap) zs) {j : Nat} (hj : j < zs.length) : ∃ b, ao = some ⟨b, 0, none⟩ ∧ b < w.heap.size ∧ w.cell? ⟨b, j, none⟩ = some (.int .i64 (zs.getD j 0)) := by
  obtain ⟨b, hb, hB, hc⟩ := ownsRow_cell h (j := j) (u := .int .i64 (zs.getD j 0)) (by
    rw [List.getElem?_map, List.getElem?_eq_getElem hj, Option.map_some, List.getD_eq_getElem?_getD, List.getElem?_eq_getElem hj]; rfl)
  exact ⟨b, hb, World.block_lt_of_cell? w _ hc, hc⟩
/-- the kind of a row of ints -/
def KI : Obj → Bool
  | .cells _ t _ => t == 3
  | _ => false
theorem KI_FK (o : Obj) (h : FK o = true) : KI o = false := by
  unfold FK at h; unfold KI
  split at h
  · simp_all
  · simp at h
    rcases h with rfl | rfl <;> rfl
  all_goals simp_all
theorem KI_img (cs : Array Value) (fz : Nat × Nat) : KI (.cells cs 50 fz) = false := rfl
theorem KI_lst (cs : Array Value) (fz : Nat × Nat) : KI (.cells cs 44 fz) = false := rfl
theorem KI_log (cs : Array Value) (fz : Nat × Nat) : KI (.cells cs 80 fz) = false := rfl
theorem KL_int (cs : Array Value) : KL (.cells cs 3 (0, 0)) = false := rfl
theorem infoIntS : (Try.prog.info? 3).map (fun i => (i.zero, i.size, i.bytes)) = some (some (.int .i64 0), 1, 8) := by kernel_rfl
theorem infoIntS' : ∃ i, Try.prog.info? 3 = some i ∧ i.zero = some (.int .i64 0) ∧ i.size = 1 ∧ i.bytes = 8 := by
  have h := infoIntS
  cases hq : Try.prog.info? 3 with
  | none => rw [hq] at h; simp at h
  | some i => rw [hq] at h; simp at h; exact ⟨i, rfl, h.1, h.2.1, h.2.2⟩
theorem build_s (z : Int) (w : World) : (Instr.buildSlice 45 1 #[(0, .int .i64 z)]).run Try.prog w = .ok (.slice (some ⟨w.heap.size, 0, none⟩) 1 1) (w.alloc (.cells #[.int .i64 z] 3)) := by kernel_rfl
theorem one_s (w : World) (z : Int) : OwnS w.heap.size (w.alloc (.cells #[.int .i64 z] 3)) (.slice (some ⟨w.heap.size, 0, none⟩) 1 1) [z] :=
  ⟨rfl, .inr ⟨w.heap.size, 1, #[.int .i64 z], rfl, Nat.le_refl _, heap_alloc_new w _, Nat.le_refl _, by simp [maxLen], rfl, rfl⟩⟩
/-- one number more -/
theorem own_pushS {base : Nat} {w : World} {v : Value} {zs : List Int} (h : OwnS base w v zs) (z : Int) (hb : base ≤ w.heap.size) (hlen : zs.length ≤ 100000) : ∃ v' w', (Builtin.append_ #[45, 45] 45 #[v, .slice (some ⟨w.heap.size, 0, none⟩) 1 1]).run Try.prog (w.alloc (.cells #[.int .i64 z] 3)) = .ok v' w' ∧ OwnS base w' v' (zs ++ [z]) ∧ Fr KI base w w' := by
  obtain ⟨i, hi, hi0, hi1, hi2⟩ := infoIntS'
  have hb1 := below_new w (.cells #[.int .i64 z] 3)
  have h1 : OwnS base (w.alloc (.cells #[.int .i64 z] 3)) v zs := h.below hb1
  obtain ⟨v', w', hr, ho, hbel, hsz, hgr⟩ := own_push (ty := 45) Try.underlying45 hi hi0 hi1 hi2 rfl (by decide) h1 (b := w.heap.size) (ys := [.int .i64 z]) (fz := (0, 0)) (heap_alloc_new w _) rfl (fun u hu => by rw [List.mem_singleton.1 hu]; rfl) (by omega) (by unfold maxLen; omega) (by simp; omega)
  refine ⟨v', w', hr, ?_, (Fr.refl KI base w).trans ((Fr.of_below hb1).trans ⟨hbel.os, hbel.tape, hbel.output, hsz, fun k o hk hko => ?_⟩)⟩
  · unfold OwnS
    rw [List.length_append, List.map_append]
    exact ho
  · refine (hgr.1 k (lt_of_heap hk) fun hne => ?_).trans hk
    rcases h1.2 with ⟨e1, e2⟩ | ⟨g, cap, cur, hv, hB, hg, _⟩
    · rw [e1] at hne; cases hne
    · rw [hv] at hne
      have : k = g := by injection hne
      subst this
      rw [hk] at hg; cases hg
      rcases hko with hko | hko
      · omega
      · simp [KI] at hko

/-! ### a part of a list of lists -/
theorem OutT.drop {base : Nat} {w : World} {ao : Option Addr} {m cap : Nat} {L : List (List Im)} (h : OutT base w (.slice ao m cap) L) (hl : L.length ≤ 1000) {k : Nat} (hk : k ≤ L.length) {bo : Option Addr} (hbo : ∀ b off, ao = some ⟨b, off, none⟩ → k < L.length → bo = some ⟨b, off + k, none⟩) (cap' : Nat) : LstsAt w (.slice bo (L.length - k) cap') (L.drop k) := by
  refine ⟨bo, cap', by rw [List.length_drop], by rw [List.length_drop]; omega, fun i hi => ?_⟩
  rw [List.length_drop] at hi
  obtain ⟨b, off, u, e, hb, hc, hr⟩ := h.get (i := k + i) (by omega)
  refine ⟨b, off + k, u, hbo b off e (by omega), by rw [Nat.add_assoc]; exact hc, ?_⟩
  have : lstAt (L.drop k) i = lstAt L (k + i) := by unfold lstAt; rw [List.getD_eq_getElem?_getD, List.getElem?_drop, ← List.getD_eq_getElem?_getD]
  rw [this]; exact hr.at

/-! ### the law's transactions -/
def tIm (i k : Nat) : Im := ⟨(i : Int), ⟨#[UInt8.ofNat (97 + k)]⟩⟩
def tTx (i n : Nat) : List Im := (List.range n).map (tIm i)
theorem tTx_succ (i n : Nat) : tTx i (n + 1) = tTx i n ++ [tIm i n] := by unfold tTx; rw [List.range_succ, List.map_append]; rfl
theorem tTx_length (i n : Nat) : (tTx i n).length = n := by unfold tTx; simp
theorem tTx_ok {i n : Nat} (hi : i ≤ 1000) : imsOk (tTx i n) = true ∧ ∀ x ∈ tTx i n, x.ok := by
  have key : ∀ x ∈ tTx i n, ∃ k, x = tIm i k := fun x hx => by
    unfold tTx at hx
    obtain ⟨k, _, rfl⟩ := List.mem_map.1 hx
    exact ⟨k, rfl⟩
  refine ⟨?_, fun x hx => ?_⟩
  · unfold imsOk
    rw [List.all_eq_true]
    intro x hx
    obtain ⟨k, rfl⟩ := key x hx
    unfold imOk tIm
    simp [ByteArray.size]
  · obtain ⟨k, rfl⟩ := key x hx
    unfold Im.ok tIm inI
    simp [ByteArray.size]
    omega
def stT (T : Txs) : List Int := (List.range (T.length + 1)).map fun j => (lenT (T.take j) : Int)
theorem stT_nil : stT [] = [0] := rfl
theorem stT_length (T : Txs) : (stT T).length = T.length + 1 := by unfold stT; simp
theorem stT_append (T : Txs) (x : Nat × List Im) : stT (T ++ [x]) = stT T ++ [(lenT (T ++ [x]) : Int)] := by
  unfold stT
  rw [List.length_append, List.length_singleton, List.range_succ, List.map_append]
  congr 1
  · refine List.map_congr_left fun j hj => ?_
    rw [List.take_append_of_le_length (by have := List.mem_range.1 hj; omega)]
  · simp only [List.map_cons, List.map_nil]
    rw [List.take_of_length_le (by simp)]
theorem stT_get (T : Txs) {j : Nat} (hj : j ≤ T.length) : (stT T).getD j 0 = (lenT (T.take j) : Int) := by
  unfold stT
  rw [List.getD_eq_getElem?_getD, List.getElem?_map, List.getElem?_range (by omega)]
  rfl
structure TInv (d : Dev) (l : Wl) (T : Txs) (n k : Nat) : Prop where
  grown : Grown d l T
  len : T.length = k
  waits : d.waits.length ≤ 6 * k
  next : lenT T ≤ 6 * k
  tail : l.tail = 0
  first : l.first = 0
  size : l.size = n
  epoch : l.epoch = 1
theorem TInv.start (n : Nat) (hn : n ≤ 4096) (h2 : 2 ≤ n) : openB (Dev.fresh n) ((0 : Nat) : Int) (n : Nat) ((0 : Nat) : Int) ((1 : Nat) : Int) = true ∧ TInv (Dev.fresh n) (wl0 0 n 0 1) [] n 0 := by
  have hob : openB (Dev.fresh n) ((0 : Nat) : Int) (n : Nat) ((0 : Nat) : Int) ((1 : Nat) : Int) = true := by
    unfold openB fitsB cntB
    simp only [Bool.and_eq_true, decide_eq_true_eq]
    have : (Dev.fresh n).size = n := rfl
    rw [this]; omega
  exact ⟨hob, Grown.start hn hob, rfl, by simp [Dev.fresh], Nat.le_refl _, rfl, rfl, rfl, rfl⟩
theorem TInv.next_eq {d : Dev} {l : Wl} {T : Txs} {n k : Nat} (h : TInv d l T n k) : l.next = lenT T := by have := h.grown.next; rw [h.tail] at this; omega
theorem TInv.app {d : Dev} {l : Wl} {T : Txs} {n k : Nat} (h : TInv d l T n k) {a : List Im} (hi : imsOk a = true) (hx : ∀ x ∈ a, x.ok) (hc : a.length < 6) (hk : 6 * (k + 1) < n) :
    appE d l a = 0 ∧ TInv (appDev d l a) (appL d l a) (T ++ [(1, a)]) n (k + 1) := by
  have hrl := room_lim h.grown.ok
  have hnx := h.next_eq
  have hle := h.next
  have ht := h.tail
  have hs := h.size
  obtain ⟨q1, q2, q3, q4, q5, q6⟩ := h.grown.app hi hx (by omega)
  rw [h.epoch] at q2
  refine ⟨q1, q2, by rw [List.length_append, h.len]; rfl, by have := h.waits; omega, ?_, by rw [q6]; exact ht, by rw [q6]; exact h.first, by rw [q6]; exact hs, by rw [q6]; exact h.epoch⟩
  rw [lenT_append]
  simp only [lenT]; omega
theorem TInv.opens {d : Dev} {l : Wl} {T : Txs} {n k : Nat} (h : TInv d l T n k) (hk : 6 * k < n) (hn : n ≤ 4096) (c : Nat) (e' : Nat) (he : e' ≤ 1125899906842624) :
    d.flush = (0, d.flushed) ∧ openB d.flushed ((0 : Nat) : Int) (n : Nat) (lenT (T.take c) : Nat) e' = true ∧ (d.flushed.read ((0 : Nat) : Int)).2 ≠ 4 ∧ scanR d.flushed n (wl0 0 n (lenT (T.take c)) e') 0 = ((imgT T).drop c, l.next) := by
  obtain ⟨f1, f2⟩ := h.grown.flush
  have hnx := h.next_eq
  have hle := h.next
  have h' : Grown d.flushed l (T.take c ++ T.drop c) := by rw [List.take_append_drop]; exact f2
  have := h'.opens (by rw [h.tail, h.size]; omega) e' he (by omega)
  rw [h.tail, h.first, h.size, Nat.zero_add] at this
  refine ⟨f1, this.1, this.2.1, ?_⟩
  rw [this.2.2]
  unfold imgT
  rw [List.map_drop]
theorem TInv.trims {d : Dev} {l : Wl} {T : Txs} {n k : Nat} (h : TInv d l T n k) (c : Nat) : trimE l (lenT (T.take c) : Nat) = 0 ∧ l.trim (lenT (T.take c) : Nat) = { l with tail := lenT (T.take c) } := by
  have hnx := h.next_eq
  have hle : lenT (T.take c) ≤ lenT T := by
    have := lenT_append (T.take c) (T.drop c)
    rw [List.take_append_drop] at this; omega
  have ht := h.tail
  have hno : ¬ (((lenT (T.take c) : Nat) : Int) < (l.tail : Int) ∨ (l.next : Int) < ((lenT (T.take c) : Nat) : Int)) := by omega
  unfold trimE Wl.trim
  rw [if_neg hno, if_neg hno]
  exact ⟨rfl, rfl⟩
end Go.Proofs.Ytbgefdigmdfalaa
