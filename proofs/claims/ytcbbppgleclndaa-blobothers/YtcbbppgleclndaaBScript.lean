/- The contract of the store's Script. No statement of the seat is proved here. -/
import Derived.Test.YtcbbppgleclndaaBTake
import Derived.ArgAppend
import Derived.Maps.AppendAt
namespace Go.Proofs.Ytcbbppgleclndaa
open Go.RowKit

theorem setCells_row {b : Nat} {t : TypeId} : ∀ (vs : List Value) (o : Nat) (w : World) (cs : Array Value), w.heap[b]? = some (.cells cs t (0, 0)) → o + vs.length ≤ cs.size →
    ∃ cs', (w.setCells b o vs).heap[b]? = some (.cells cs' t (0, 0)) ∧ cs'.size = cs.size ∧ (∀ j, j < o → cs'[j]? = cs[j]?) ∧ ∀ j, j < vs.length → cs'[o + j]? = vs[j]?
  | [], _, _, cs, h, _ => ⟨cs, h, rfl, fun _ _ => rfl, fun j hj => by simp at hj⟩
  | v :: r, o, w, cs, h, hl => by
    have hs := heap_setCell_same w b o cs t v h
    simp only [List.length_cons] at hl
    obtain ⟨cs', h1, h2, h3, h4⟩ := setCells_row r (o + 1) (w.setCell ⟨b, o, none⟩ v) _ hs (by simp; omega)
    refine ⟨cs', h1, by simpa using h2, fun j hj => ?_, fun j hj => ?_⟩
    · rw [h3 j (by omega)]
      rw [Array.getElem?_setIfInBounds_ne (by omega)]
    · cases j with
      | zero =>
        rw [Nat.add_zero, h3 o (by omega)]
        simp [Array.getElem?_setIfInBounds_self_of_lt (show o < cs.size by omega)]
      | succ j =>
        have := h4 j (by simpa using hj)
        rw [show o + (j + 1) = o + 1 + j by omega, this]; rfl
theorem setCells_far {b : Nat} : ∀ (vs : List Value) (o : Nat) (w : World), (w.setCells b o vs).os = w.os ∧ (w.setCells b o vs).tape = w.tape ∧ (w.setCells b o vs).output = w.output ∧ (w.setCells b o vs).heap.size = w.heap.size ∧ ∀ k, k ≠ b → (w.setCells b o vs).heap[k]? = w.heap[k]?
  | [], _, _ => ⟨rfl, rfl, rfl, rfl, fun _ _ => rfl⟩
  | v :: r, o, w => by
    obtain ⟨h1, h2, h3, h4, h5⟩ := setCells_far (b := b) r (o + 1) (w.setCell ⟨b, o, none⟩ v)
    refine ⟨h1.trans rfl, h2.trans rfl, h3.trans rfl, h4.trans (by simp [World.setCell]), fun k hk => (h5 k hk).trans ?_⟩
    rw [Below.heap_setCell _ _ _ _ hk]

/-- Numbers in a slice, as they are now. -/
def IntsNow (w : World) (v : Value) (zs : List Int) : Prop :=
  ∃ ao cap, v = .slice ao zs.length cap ∧ (∀ z ∈ zs, -9223372036854775808 ≤ z ∧ z ≤ 9223372036854775807) ∧ (0 < zs.length → ∃ b off, ao = some ⟨b, off, none⟩ ∧ ∀ i, i < zs.length → w.cell? ⟨b, off + i, none⟩ = some (.int .i64 (zs.getD i 0)))
def iV (z : Int) : Value := .int .i64 z
theorem iV_get {zs : List Int} {i : Nat} (h : i < zs.length) : (zs.map iV)[i]? = some (.int .i64 (zs.getD i 0)) := by
  simp only [List.getElem?_map, List.getElem?_eq_getElem h, Option.map_some, List.getD_eq_getElem?_getD, Option.getD_some]; rfl
theorem iV_one (zs : List Int) : ∀ u ∈ zs.map iV, u.oneCell' = true := by
  intro u hu
  simp only [List.mem_map] at hu
  obtain ⟨x, _, rfl⟩ := hu
  rfl
theorem info3 : (Try.prog.info? 3).map (fun i => (i.zero, i.size, i.bytes)) = some (some (.int .i64 0), 1, 8) := by kernel_rfl
theorem info3' : ∃ i, Try.prog.info? 3 = some i ∧ i.zero = some (.int .i64 0) ∧ i.size = 1 ∧ i.bytes = 8 := by
  have h := info3
  cases hq : Try.prog.info? 3 with
  | none => rw [hq] at h; simp at h
  | some i => rw [hq] at h; simp at h; exact ⟨i, rfl, h.1, h.2.1, h.2.2⟩
theorem OutsIs.of_own {X : Nat → Prop} {w : World} {base : Nat} {v : Value} {zs : List Int} (h : w.ownsRow base 3 1 v zs.length (zs.map iV)) (hX : ∀ k, X k → k < base) : OutsIs X w v zs := by
  rcases h.2 with ⟨h1, h2⟩ | ⟨g, cap, cur, hv, hb, hg, hn, hm, hs, htake⟩
  · exact ⟨none, 0, by rw [h1, h2], by omega, by simp [maxLen], Or.inl ⟨rfl, rfl⟩⟩
  · refine ⟨_, cap, hv, hn, hm, Or.inr ⟨g, 0, cur, rfl, fun e => by have := hX g e; omega, hg, by omega, fun i hi => ?_⟩⟩
    have := iV_get hi
    rw [← htake, List.getElem?_take] at this
    split at this
    · simpa using this
    · cases this

theorem run_append_none (w : World) (t ty e : TypeId) (ht : Try.prog.underlying t = some (.slice e)) (i : TypeInfo) (hi : Try.prog.info? e = some i) (ao bo : Option Addr) (n cap c : Nat) (h : n ≤ cap) :
    (Builtin.append_ #[t, t] ty #[.slice ao n cap, .slice bo 0 c]).run Try.prog w = .ok (.slice ao n cap) w := by
  cases ao <;> cases bo <;> simp [Builtin.append_, run_underlying ht, sizeOf, typeInfo, hi, Builtin.lenOf, h, Builtin.firstCells, loadCells, storeCells, Result.andThen] <;> rfl

theorem outs_append {X : Nat → Prop} {w : World} {ov v : Value} {os zs : List Int} (h : OutsIs X w ov os) (hX : ∀ k, X k → k < w.heap.size) (hz : IntsNow w v zs) (hlen : (os.length + zs.length) * 8 ≤ 140737488355328) (ty : TypeId) :
    ∃ v' w', (Builtin.append_ #[28, 28] ty #[ov, v]).run Try.prog w = .ok v' w' ∧ OutsIs X w' v' (os ++ zs) ∧ Kp X w w' ∧ (∀ (k : Nat) cs t f, t ≠ 3 → w.heap[k]? = some (.cells cs t f) → w'.heap[k]? = some (.cells cs t f)) ∧ ∀ (k : Nat) es c, w.heap[k]? = some (.map es c) → w'.heap[k]? = some (.map es c) := by
  obtain ⟨bo, c, rfl, hzr, hzc⟩ := hz
  obtain ⟨i, hi, hi0, hi1, hi2⟩ := info3'
  by_cases h0 : 0 < zs.length
  · obtain ⟨b', off', rfl, hcell⟩ := hzc h0
    have hnews : ∀ j u, (zs.map iV)[j]? = some u → w.cell? ((⟨b', off', none⟩ : Addr).add j) = some u := fun j u hu => by
      have hj : j < zs.length := by have := (List.getElem?_eq_some_iff.1 hu).1; simpa using this
      rw [Addr.add_mid, hcell j hj, ← iV_get hj, hu]
    obtain ⟨ao, cap, hv, h1, h2, h3⟩ := h
    subst hv
    have grow : ∀ v' w', w'.ownsRow w.heap.size 3 1 v' (os.length + zs.length) (os.map iV ++ zs.map iV) → w.grownBy w' none → OutsIs X w' v' (os ++ zs) ∧ Kp X w w' ∧ (∀ (k : Nat) cs t f, t ≠ 3 → w.heap[k]? = some (.cells cs t f) → w'.heap[k]? = some (.cells cs t f)) ∧ ∀ (k : Nat) es c, w.heap[k]? = some (.map es c) → w'.heap[k]? = some (.map es c) := fun v' w' ho hg => by
      refine ⟨OutsIs.of_own (base := w.heap.size) (by rw [List.length_append, List.map_append]; exact ho) hX, (Kp.refl _ _).grown hg (by simp), fun k cs t f _ hk => (hg.block k (lt_of_heap hk) (by simp)).trans hk, fun k es c hk => (hg.block k (lt_of_heap hk) (by simp)).trans hk⟩
    rcases h3 with ⟨rfl, rfl⟩ | ⟨b, off, cs, rfl, hb, hh, hsz, hat⟩
    · have hos : os = [] := List.eq_nil_of_length_eq_zero (by omega)
      subst hos
      obtain ⟨v', w', hr, ho, hg, -, -⟩ := run_append_own_at (P := Try.prog) w w.heap.size 28 ty 3 i _ 1 8 Try.underlying28 hi hi0 hi1 hi2 rfl (by decide) (.slice none 0 0) 0 [] (World.ownsRow_nil _ _ _ _) ⟨b', off', none⟩ zs.length c (zs.map iV) (by simp) hnews (iV_one zs) (by simp at hlen; unfold maxLen; omega) (by simp at hlen; omega) (Nat.le_refl _)
      exact ⟨v', w', hr, grow v' w' (by simpa using ho) hg⟩
    · by_cases hroom : os.length + zs.length ≤ cap
      · have hr := run_append_room_cells (P := Try.prog) w 28 ty 3 i Try.underlying28 hi b off os.length cap ⟨b', off', none⟩ zs.length c (zs.map iV) (by rw [hi1]; simp) hnews (iV_one zs) hroom
          (fun j hj => by rw [hi1, cell_of_row w b _ cs _ _ hh]; simp at hj; simp; omega) (fun j _ => free_row hh _)
        rw [hi1, Nat.mul_one] at hr
        obtain ⟨cs', g1, g2, g3, g4⟩ := setCells_row (zs.map iV) (off + os.length) w cs hh (by simp; omega)
        obtain ⟨f1, f2, f3, f4, f5⟩ := setCells_far (b := b) (zs.map iV) (off + os.length) w
        refine ⟨_, _, hr, ⟨_, cap, by rw [List.length_append], by rw [List.length_append]; exact hroom, h2, Or.inr ⟨b, off, cs', rfl, hb, g1, by omega, fun i hi => ?_⟩⟩, ⟨f1, f2, f3, by omega, fun k o hk ho => (f5 k (by rintro rfl; exact hb hk)).trans ho⟩,
          fun k cs t f ht hk => (f5 k (by rintro rfl; rw [hh] at hk; simp only [Option.some.injEq, Obj.cells.injEq] at hk; exact ht hk.2.1.symm)).trans hk, fun k es c hk => (f5 k (by rintro rfl; rw [hh] at hk; cases hk)).trans hk⟩
        by_cases hio : i < os.length
        · rw [g3 _ (by omega), hat i hio]
          simp [List.getD_eq_getElem?_getD, List.getElem?_append_left hio]
        · have hi' : i - os.length < zs.length := by rw [List.length_append] at hi; omega
          have := g4 (i - os.length) (by simpa using hi')
          rw [show off + i = off + os.length + (i - os.length) by omega, this, iV_get hi']
          simp [List.getD_eq_getElem?_getD, List.getElem?_append_right (show os.length ≤ i by omega)]
      · obtain ⟨v', w', hr, ho, hg⟩ := run_append_arg_grows (P := Try.prog) w 28 ty 3 i _ 1 8 Try.underlying28 hi hi0 hi1 hi2 rfl (by decide) ⟨b, off, none⟩ os.length cap (os.map iV) (by simp) (fun j u hu => by
            have hj : j < os.length := by have := (List.getElem?_eq_some_iff.1 hu).1; simpa using this
            rw [Addr.add_mid, cell_of_row w b _ cs _ _ hh, hat j hj, ← iV_get hj, hu]) ⟨b', off', none⟩ zs.length c (zs.map iV) (by simp) hnews (by omega) (by unfold maxLen; omega) hlen
        exact ⟨v', w', hr, grow v' w' ho hg⟩
  · have hzs : zs = [] := List.eq_nil_of_length_eq_zero (by omega)
    subst hzs
    have h' := h
    obtain ⟨ao, cap, rfl, h1, h2, h3⟩ := h'
    refine ⟨_, w, run_append_none w 28 ty 3 Try.underlying28 i hi ao bo os.length cap c h1, by rw [List.append_nil]; exact h, Kp.refl _ _, fun _ _ _ _ _ h => h, fun _ _ _ h => h⟩

theorem StoAt.outs {X : Nat → Prop} {w w' : World} {sb : Nat} {s : Sto} {N : Nat} {mv ov ov' : Value} {os : List Int} (h : StoAt X w sb s N)
    (h1 : w.heap[sb]? = some (.cells #[mv, .int .i64 s.version, .string s.root, ov, .int .i64 s.calls] 55 (0, 0))) (ho : OutsIs X w' ov' os) (hz : ∀ z ∈ os, -9223372036854775808 ≤ z ∧ z ≤ 9223372036854775807) (hk : Kp X w w')
    (hc : ∀ (k : Nat) cs t f, t ≠ 3 → w.heap[k]? = some (.cells cs t f) → w'.heap[k]? = some (.cells cs t f)) (hm : ∀ (k : Nat) es c, w.heap[k]? = some (.map es c) → w'.heap[k]? = some (.map es c)) :
    StoAt X (w'.setCell ⟨sb, 3, none⟩ ov') sb { s with outs := os } N ∧ Kp X w (w'.setCell ⟨sb, 3, none⟩ ov') := by
  obtain ⟨lt, out, rng, mv0, ov0, h10, h2, h3⟩ := h
  have em : mv0 = mv := Option.some.inj ((cell_row h10 0 rfl).symm.trans (cell_row h1 0 rfl))
  subst em
  have h1' := hc _ _ _ _ (by decide) h1
  have hs := heap_setCell_same w' sb 3 _ _ ov' h1'
  refine ⟨⟨fun k e => by simpa [World.setCell] using Nat.lt_of_lt_of_le (lt k e) hk.size, out, hz, mv0, ov', by rw [hs]; simp, ?_, ho.set h1' 3 _⟩, hk.setCell out _⟩
  have hrow : ∀ (k : Nat) cs t f, t ≠ 3 → t ≠ 55 → w.heap[k]? = some (.cells cs t f) → (w'.setCell ⟨sb, 3, none⟩ ov').heap[k]? = some (.cells cs t f) := fun k cs t f ht ht2 hk => by
    rw [Below.heap_setCell _ _ _ _ (by rintro rfl; rw [h1] at hk; simp only [Option.some.injEq, Obj.cells.injEq] at hk; exact ht2 hk.2.1.symm)]; exact hc _ _ _ _ ht hk
  rcases h2 with h2 | ⟨mb, D, hv, hB, ho', hmm, hat⟩
  · exact Or.inl h2
  · refine Or.inr ⟨mb, D, hv, hB, ?_, hmm, fun k => ?_⟩
    · obtain ⟨es, clock, hb, F, hs', hD⟩ := ho'
      refine ⟨es, clock, ?_, F, hs', hD⟩
      rw [Below.heap_setCell _ _ _ _ (by rintro rfl; rw [h1] at hb; cases hb)]; exact hm _ _ _ hb
    · have := hat k
      cases hf : s.blobs k with
      | none => rw [hf] at this; exact this
      | some bs =>
        rw [hf] at this
        obtain ⟨g1, v, g2, ao, cap, g3, g4, g5⟩ := this
        refine ⟨g1, v, g2, ao, cap, g3, g4, fun h0 => ?_⟩
        obtain ⟨b, off, cs, fz, e1, e2, e3, e4⟩ := g5 h0
        exact ⟨b, off, cs, fz, e1, e2, hrow _ _ _ _ (by decide) (by decide) e3, e4⟩

theorem wpList_append_eq {P : Program} {ops : Array Oper} {rest : List Oper} {o : Oper} {a : Act} {w w1 : World} {Q : Exit → Act → World → Prop} (hgd : o.guard = none) (s x : Operand) (t : TypeId) (ho : o.op = .call { callee := .builtin .append, args := #[s, x], argTypes := #[t, t] }) (v0 v1 v : Value) (hs : a.eval s = v0) (hx : a.eval x = v1)
    (hrun : (Builtin.append_ #[t, t] o.type #[v0, v1]).run P w = .ok v w1) (h : wpList P ops Q rest (a.put o.dst v) w1) : wpList P ops Q (o :: rest) a w :=
  wpList_value hgd (exec_append ho hs hx hrun) h
set_option maxHeartbeats 400000 in
theorem script_any {X : Nat → Prop} {w : World} {sb : Nat} {s : Sto} {N : Nat} (h : StoAt X w sb s N) {v : Value} {zs : List Int} (hz : IntsNow w v zs) (hlen : (s.outs.length + zs.length) * 8 ≤ 140737488355328) :
    Calls Try.prog 19 #[.pointer (some ⟨sb, 0, none⟩), v] w fun e w' => e = .returned (.tuple #[]) ∧ StoAt X w' sb { s with outs := s.outs ++ zs } N ∧ Kp X w w' := by
  obtain ⟨mv, ov, h1, h2, h3⟩ := h.box'
  obtain ⟨v', w', hrun, ho', hk', hc', hm'⟩ := outs_append h3 h.lt hz hlen 28
  have hzr : ∀ z ∈ s.outs ++ zs, -9223372036854775808 ≤ z ∧ z ≤ 9223372036854775807 := fun z hzm => by
    rcases List.mem_append.1 hzm with e | e
    · exact h.rng z e
    · obtain ⟨_, _, _, hr, _⟩ := hz; exact hr z e
  have hform := ho'
  obtain ⟨ao', cap', rfl, -⟩ := hform
  have fin := h.outs h1 ho' hzr hk' hc' hm'
  rw [List.length_append] at fin
  have FIN := Lib.hid fin
  have c3 := cell_row h1 3 rfl
  have h1' := hc' _ _ _ _ (by decide) h1
  have c3' := cell_row h1' 3 rfl
  have f3' := free_row h1' 3
  have RUN := Lib.hid hrun
  clear fin hrun h1 h1' h2 h3 ho' hk' hc' hm' hzr hz h
  go_enter Try.func19, Try.ntmps19
  go_wp2_with (with_reducible refine wpList_append_eq rfl (.tmp 10) (.tmp 11) 28 rfl ov v _ rfl rfl RUN.out ?_)
  go_returns
  exact ⟨rfl, FIN.out⟩
set_option maxHeartbeats 400000 in
theorem script_nil (w : World) (v : Value) : Calls Try.prog 19 #[.pointer none, v] w fun e w' => e = .returned (.tuple #[]) ∧ w = w' := by
  go_enter Try.func19, Try.ntmps19
  go_wp2
  go_returns
  exact ⟨rfl, rfl⟩
end Go.Proofs.Ytcbbppgleclndaa
