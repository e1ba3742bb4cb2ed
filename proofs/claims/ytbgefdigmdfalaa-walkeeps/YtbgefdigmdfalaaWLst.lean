/- Lists of images in memory: slices with an offset and room behind them; append, parts. No statement of the seat is proved here. -/
import Derived.Test.YtbgefdigmdfalaaWTra
import Derived.ArgAppend
import Derived.Maps.AppendAt
namespace Go.Proofs.Ytbgefdigmdfalaa
set_option maxRecDepth 20000
open Go.RowKit

/-- .. a store of a whole row into a block of the call's own, the world behind it by its facts -/
theorem wpList_store_row4 {ops : Array Oper} {rest : List Oper} {o : Oper} {a : Act} {w a0 : World} {B : Nat} {Q : Exit → Act → World → Prop} (hgd : o.guard = none) (ty : TypeId) (x y : Operand) (ho : o.op = .store ty x y)
    (g : Nat) (cells : Array Value) (hx : a.eval x = .pointer (some ⟨g, 0, none⟩)) (hy : a.eval y = .agg cells) (t : TypeId) (old : Array Value) (hg : w.heap[g]? = some (.cells old t (0, 0))) (hs : StoreOk ty old cells) (hb : Below B a0 w) (hB : B ≤ g)
    (h : ∀ w1, w1.heap[g]? = some (.cells cells t (0, 0)) → Below B a0 w1 → wpList Try.prog ops Q rest (a.put o.dst undef) w1) : wpList Try.prog ops Q (o :: rest) a w :=
  wpList_store_row2 hgd ty x y ho g cells hx hy t old hg hs (h _ (setRow_heap _ g _ cells _ _ hg) (below_setRow hb hB cells))
theorem setCells_row {b : Nat} {t : TypeId} : ∀ (vs : List Value) (o : Nat) (w : World) (cs : Array Value), w.heap[b]? = some (.cells cs t (0, 0)) → o + vs.length ≤ cs.size →
    ∃ cs', (w.setCells b o vs).heap[b]? = some (.cells cs' t (0, 0)) ∧ cs'.size = cs.size ∧ (∀ j, j < o → cs'[j]? = cs[j]?) ∧ ∀ j, j < vs.length → cs'[o + j]? = vs[j]?
  | [], _, _, cs, h, _ => ⟨cs, h, rfl, fun _ _ => rfl, fun j hj => by simp at hj⟩
  | v :: r, o, w, cs, h, hl => by
    have hs := heap_setCell_same w b o cs t v h
    simp only [List.length_cons] at hl
    obtain ⟨cs', h1, h2, h3, h4⟩ := setCells_row r (o + 1) (w.setCell ⟨b, o, none⟩ v) _ hs (by simp; omega)
    refine ⟨cs', h1, by simpa using h2, fun j hj => ?_, fun j hj => ?_⟩
    · rw [h3 j (by omega)]
      rw [Array.getElem?_setIfInBounds_ne (by omega)]
    · cases j with
      | zero =>
        rw [Nat.add_zero, h3 o (by omega)]
        simp [Array.getElem?_setIfInBounds_self_of_lt (show o < cs.size by omega)]
      | succ j =>
        have := h4 j (by simpa using hj)
        rw [show o + (j + 1) = o + 1 + j by omega, this]; rfl
theorem setCells_far {b : Nat} : ∀ (vs : List Value) (o : Nat) (w : World), (w.setCells b o vs).os = w.os ∧ (w.setCells b o vs).tape = w.tape ∧ (w.setCells b o vs).output = w.output ∧ (w.setCells b o vs).heap.size = w.heap.size ∧ ∀ k, k ≠ b → (w.setCells b o vs).heap[k]? = w.heap[k]?
  | [], _, _ => ⟨rfl, rfl, rfl, rfl, fun _ _ => rfl⟩
  | v :: r, o, w => by
    obtain ⟨h1, h2, h3, h4, h5⟩ := setCells_far (b := b) r (o + 1) (w.setCell ⟨b, o, none⟩ v)
    refine ⟨h1.trans rfl, h2.trans rfl, h3.trans rfl, h4.trans (by simp [World.setCell]), fun k hk => (h5 k hk).trans ?_⟩
    rw [Below.heap_setCell _ _ _ _ hk]

/-! ### one list of images, wherever it lies in a row of images -/
def ImgsR (w : World) (v : Value) (l : List Im) : Prop :=
  ∃ ao cap, v = .slice ao l.length cap ∧ l.length ≤ cap ∧ l.length ≤ 140737488355328 ∧ (∀ x ∈ l, x.ok) ∧
    (0 < l.length → ∃ b off cs fz, ao = some ⟨b, off, none⟩ ∧ w.heap[b]? = some (.cells cs 50 fz) ∧ ∀ i, i < l.length → w.cell? ⟨b, off + i * 2, none⟩ = some (.int .i64 (imAt l i).p) ∧ w.cell? ⟨b, off + i * 2 + 1, none⟩ = some (.string (imAt l i).d))
theorem ImgsR.keep {w w' : World} {v : Value} {l : List Im} (h : ImgsR w v l) (hk : ∀ (k : Nat) cs fz, w.heap[k]? = some (.cells cs 50 fz) → w'.heap[k]? = some (.cells cs 50 fz)) : ImgsR w' v l := by
  obtain ⟨ao, cap, hv, h1, h2, h3, h4⟩ := h
  refine ⟨ao, cap, hv, h1, h2, h3, fun h0 => ?_⟩
  obtain ⟨b, off, cs, fz, e, hb, hc⟩ := h4 h0
  have hb' := hk _ _ _ hb
  refine ⟨b, off, cs, fz, e, hb', fun i hi => ?_⟩
  exact ⟨(World.cell?_of_block (hb'.trans hb.symm)).trans (hc i hi).1, (World.cell?_of_block (hb'.trans hb.symm)).trans (hc i hi).2⟩
theorem ImgsR.fr {K : Obj → Bool} {B : Nat} {w w' : World} {v : Value} {l : List Im} (h : ImgsR w v l) (hf : Fr K B w w') (hK : ∀ cs fz, K (.cells cs 50 fz) = false) : ImgsR w' v l :=
  h.keep fun k cs fz hk => hf.keep k _ hk (.inr (hK cs fz))
theorem ImgsR.below {w w' : World} {v : Value} {l : List Im} (h : ImgsR w v l) (hb : Below w.heap.size w w') : ImgsR w' v l :=
  h.keep fun k _ _ hk => (hb.block k (lt_of_heap hk)).trans hk
theorem ImgsR.at {w : World} {v : Value} {l : List Im} (h : ImgsR w v l) : ImgsAt w.heap.size w v l := by
  obtain ⟨ao, cap, hv, h1, h2, h3, h4⟩ := h
  refine ⟨ao, cap, hv, h1, by omega, h3, fun h0 => ?_⟩
  obtain ⟨b, off, cs, fz, e, hb, hc⟩ := h4 h0
  exact ⟨b, off, e, lt_of_heap hb, hc⟩
theorem OwnM.reads {base : Nat} {w : World} {v : Value} {l : List Im} (h : OwnM base w v l) (hok : ∀ x ∈ l, x.ok) (hl : l.length ≤ 4096) : ImgsR w v l := by
  have hi := h.imgs hok
  obtain ⟨ao, cap, hv, h1, h2, h3, h4⟩ := hi
  refine ⟨ao, cap, hv, h1, by omega, h3, fun h0 => ?_⟩
  obtain ⟨b, off, e, hB, hc⟩ := h4 h0
  rcases h.2 with ⟨q1, q2⟩ | ⟨g, cap', cur, hv', hb, hg, hn, hm, hs, htake⟩
  · omega
  · rw [hv] at hv'
    have : ao = some ⟨g, 0, none⟩ := by injection hv'
    rw [e] at this
    obtain rfl : b = g := by injection this with this; injection this
    exact ⟨b, off, cur, (0, 0), e, hg, hc⟩

/-! ### slices of one-cell values, with an offset and room behind them -/
def OutV (base : Nat) (w : World) (v : Value) (xs : List Value) : Prop :=
  ∃ ao cap, v = .slice ao xs.length cap ∧ xs.length ≤ cap ∧ cap ≤ maxLen ∧ ((ao = none ∧ cap = 0) ∨ ∃ b off cs, ao = some ⟨b, off, none⟩ ∧ base ≤ b ∧ w.heap[b]? = some (.cells cs 44 (0, 0)) ∧ off + cap ≤ cs.size ∧ ∀ i u, xs[i]? = some u → cs[off + i]? = some u)
/-- the kind of a row of lists -/
def KL : Obj → Bool
  | .cells _ t _ => t == 44
  | _ => false
theorem KL_img (cs : Array Value) (fz : Nat × Nat) : KL (.cells cs 50 fz) = false := rfl
theorem KL_FK (o : Obj) (h : FK o = true) : KL o = false := by
  unfold FK at h; unfold KL
  split at h
  · simp_all
  · simp at h
    rcases h with rfl | rfl <;> rfl
  all_goals simp_all
theorem FK_lst (cs : Array Value) (fz : Nat × Nat) : FK (.cells cs 44 fz) = false := rfl
theorem FK_img (cs : Array Value) (fz : Nat × Nat) : FK (.cells cs 50 fz) = false := rfl
theorem KL_log (cs : Array Value) (fz : Nat × Nat) : KL (.cells cs 80 fz) = false := rfl
theorem OutV.nil (base : Nat) (w : World) : OutV base w (.slice none 0 0) [] := ⟨none, 0, rfl, Nat.le_refl _, by simp [maxLen], .inl ⟨rfl, rfl⟩⟩
theorem OutV.keep {base : Nat} {w w' : World} {v : Value} {xs : List Value} (h : OutV base w v xs) (hk : ∀ (k : Nat) cs, base ≤ k → w.heap[k]? = some (.cells cs 44 (0, 0)) → w'.heap[k]? = some (.cells cs 44 (0, 0))) : OutV base w' v xs := by
  obtain ⟨ao, cap, hv, h1, h2, h3⟩ := h
  refine ⟨ao, cap, hv, h1, h2, h3.imp_right ?_⟩
  rintro ⟨b, off, cs, e, hb, hh, r⟩
  exact ⟨b, off, cs, e, hb, hk _ _ hb hh, r⟩
theorem OutV.base {b b' : Nat} {w : World} {v : Value} {xs : List Value} (h : OutV b w v xs) (hb : b' ≤ b) : OutV b' w v xs := by
  obtain ⟨ao, cap, hv, h1, h2, h3⟩ := h
  refine ⟨ao, cap, hv, h1, h2, h3.imp_right ?_⟩
  rintro ⟨b, off, cs, e, hb', hh, r⟩
  exact ⟨b, off, cs, e, by omega, hh, r⟩
theorem OutV.form' {base : Nat} {w : World} {v : Value} {xs : List Value} (h : OutV base w v xs) : ∃ ao m cap, v = .slice ao m cap ∧ Hid (m = xs.length) := by
  obtain ⟨ao, cap, hv, _⟩ := h
  exact ⟨ao, _, cap, hv, Lib.hid rfl⟩
theorem OutV.take {base : Nat} {w : World} {ao : Option Addr} {m cap : Nat} {xs : List Value} (h : OutV base w (.slice ao m cap) xs) (k : Nat) (hk : k ≤ xs.length) : OutV base w (.slice ao k cap) (xs.take k) := by
  obtain ⟨ao', cap', hv, h1, h2, h3⟩ := h
  injection hv with e1 e2 e3
  subst e1; subst e3
  have hl : (xs.take k).length = k := by rw [List.length_take]; omega
  refine ⟨ao, cap, by rw [hl], by omega, h2, h3.imp_right ?_⟩
  rintro ⟨b, off, cs, e, hb, hh, hsz, r⟩
  exact ⟨b, off, cs, e, hb, hh, hsz, fun i u hu => r i u (by rw [List.getElem?_take] at hu; split at hu; exact hu; exact absurd hu (by simp))⟩
theorem OutV.get {base : Nat} {w : World} {ao : Option Addr} {m cap : Nat} {xs : List Value} (h : OutV base w (.slice ao m cap) xs) {i : Nat} {u : Value} (hu : xs[i]? = some u) : ∃ b off, ao = some ⟨b, off, none⟩ ∧ b < w.heap.size ∧ w.cell? ⟨b, off + i, none⟩ = some u := by
  obtain ⟨ao', cap', hv, h1, h2, h3⟩ := h
  injection hv with e1 e2 e3
  subst e1; subst e3
  have hi := (List.getElem?_eq_some_iff.1 hu).1
  rcases h3 with ⟨rfl, rfl⟩ | ⟨b, off, cs, rfl, hb, hh, hsz, r⟩
  · omega
  · exact ⟨b, off, rfl, lt_of_heap hh, by rw [cell_of_row w b _ cs _ _ hh]; exact r i u hu⟩
theorem infoLst : (Try.prog.info? 44).map (fun i => (i.zero, i.size, i.bytes)) = some (some (.slice none 0 0), 1, 24) := by kernel_rfl
theorem infoLst' : ∃ i, Try.prog.info? 44 = some i ∧ i.zero = some (.slice none 0 0) ∧ i.size = 1 ∧ i.bytes = 24 := by
  have h := infoLst
  cases hq : Try.prog.info? 44 with
  | none => rw [hq] at h; simp at h
  | some i => rw [hq] at h; simp at h; exact ⟨i, rfl, h.1, h.2.1, h.2.2⟩
theorem OutV.of_own {base b' : Nat} {w : World} {v : Value} {xs : List Value} (h : w.ownsRow base 44 1 v xs.length xs) (hb' : b' ≤ base) : OutV b' w v xs := by
  rcases h.2 with ⟨h1, h2⟩ | ⟨g, cap, cur, hv, hb, hg, hn, hm, hs, htake⟩
  · exact ⟨none, 0, by rw [h1, h2], by omega, by simp [maxLen], .inl ⟨rfl, rfl⟩⟩
  · refine ⟨_, cap, hv, hn, hm, .inr ⟨g, 0, cur, rfl, by omega, hg, by omega, fun i u hu => ?_⟩⟩
    rw [← htake, List.getElem?_take] at hu
    split at hu
    · simpa using hu
    · cases hu
/-- one more -/
theorem outv_push {base : Nat} {w : World} {v : Value} {xs : List Value} (h : OutV base w v xs) (hb0 : base ≤ w.heap.size) {nb : Nat} {u : Value} {fz : Nat × Nat} (hy : w.heap[nb]? = some (.cells #[u] 44 fz)) (h1u : u.oneCell' = true) (hlen : (xs.length + 1) * 24 ≤ 140737488355328) (ty : TypeId) :
    ∃ v' w', (Builtin.append_ #[34, 34] ty #[v, .slice (some ⟨nb, 0, none⟩) 1 1]).run Try.prog w = .ok v' w' ∧ OutV base w' v' (xs ++ [u]) ∧ Fr KL base w w' := by
  obtain ⟨i, hi, hi0, hi1, hi2⟩ := infoLst'
  have hnews : ∀ j x, [u][j]? = some x → w.cell? ((⟨nb, 0, none⟩ : Addr).add j) = some x := fun j x hx => by
    rw [Addr.add_mid, Nat.zero_add, cell_of_row w nb j _ _ _ hy]; simpa using hx
  have hone : ∀ x ∈ [u], x.oneCell' = true := fun x hx => by rw [List.mem_singleton.1 hx]; exact h1u
  obtain ⟨ao, cap, hv, h1, h2, h3⟩ := h
  subst hv
  have grow : ∀ v' w', w'.ownsRow w.heap.size 44 1 v' (xs.length + 1) (xs ++ [u]) → w.grownBy w' none → OutV base w' v' (xs ++ [u]) ∧ Fr KL base w w' := fun v' w' ho hg => by
    refine ⟨OutV.of_own (base := w.heap.size) (by rw [List.length_append]; exact ho) hb0, (Fr.refl _ _ _).grown hg (by simp)⟩
  rcases h3 with ⟨rfl, rfl⟩ | ⟨b, off, cs, rfl, hb, hh, hsz, hat⟩
  · have hos : xs = [] := List.eq_nil_of_length_eq_zero (by omega)
    subst hos
    obtain ⟨v', w', hr, ho, hg, -, -⟩ := run_append_own_at (P := Try.prog) w w.heap.size 34 ty 44 i _ 1 24 Try.underlying34 hi hi0 hi1 hi2 rfl (by decide) (.slice none 0 0) 0 [] (World.ownsRow_nil _ _ _ _) ⟨nb, 0, none⟩ 1 1 [u] (by simp) hnews hone (by simp [maxLen]) (by decide) (Nat.le_refl _)
    exact ⟨v', w', hr, grow v' w' (by simpa using ho) hg⟩
  · by_cases hroom : xs.length + 1 ≤ cap
    · have hr := run_append_room_cells (P := Try.prog) w 34 ty 44 i Try.underlying34 hi b off xs.length cap ⟨nb, 0, none⟩ 1 1 [u] (by rw [hi1]; simp) hnews hone hroom
        (fun j hj => by rw [hi1, cell_of_row w b _ cs _ _ hh]; simp at hj; simp; omega) (fun j _ => free_row hh _)
      rw [hi1, Nat.mul_one] at hr
      obtain ⟨cs', g1, g2, g3, g4⟩ := setCells_row [u] (off + xs.length) w cs hh (by simp; omega)
      obtain ⟨f1, f2, f3, f4, f5⟩ := setCells_far (b := b) [u] (off + xs.length) w
      refine ⟨_, _, hr, ⟨_, cap, by rw [List.length_append]; rfl, by rw [List.length_append]; exact hroom, h2, .inr ⟨b, off, cs', rfl, hb, g1, by omega, fun i x hx => ?_⟩⟩, ⟨f1, f2, f3, by omega, fun k o hk hko => (f5 k (by
          rintro rfl
          rw [hh] at hk; cases hk
          rcases hko with hko | hko
          · omega
          · simp [KL] at hko)).trans hk⟩⟩
      by_cases hio : i < xs.length
      · rw [List.getElem?_append_left hio] at hx
        rw [g3 _ (by omega)]; exact hat i x hx
      · have hi' : i = xs.length := by
          have := (List.getElem?_eq_some_iff.1 hx).1
          rw [List.length_append] at this; simp at this; omega
        subst hi'
        have := g4 0 (by simp)
        rw [Nat.add_zero] at this
        rw [this]
        rw [List.getElem?_append_right (Nat.le_refl _)] at hx
        simpa using hx
    · obtain ⟨v', w', hr, ho, hg⟩ := run_append_arg_grows (P := Try.prog) w 34 ty 44 i _ 1 24 Try.underlying34 hi hi0 hi1 hi2 rfl (by decide) ⟨b, off, none⟩ xs.length cap xs (by simp) (fun j x hx => by
          rw [Addr.add_mid, cell_of_row w b _ cs _ _ hh]; exact hat j x hx) ⟨nb, 0, none⟩ 1 1 [u] (by simp) hnews (by omega) (by unfold maxLen; omega) hlen
      exact ⟨v', w', hr, grow v' w' ho hg⟩

/-! ### lists of lists -/
def lstAt (L : List (List Im)) (i : Nat) : List Im := L.getD i []
def OutT (base : Nat) (w : World) (v : Value) (L : List (List Im)) : Prop := ∃ vs, OutV base w v vs ∧ vs.length = L.length ∧ ∀ i u, vs[i]? = some u → ImgsR w u (lstAt L i)
theorem OutT.nil (base : Nat) (w : World) : OutT base w (.slice none 0 0) [] := ⟨[], OutV.nil _ _, rfl, fun i u h => absurd h (by simp)⟩
theorem OutT.below {base : Nat} {w w' : World} {v : Value} {L : List (List Im)} (h : OutT base w v L) (hb : Below w.heap.size w w') : OutT base w' v L := by
  obtain ⟨vs, h1, h2, h3⟩ := h
  exact ⟨vs, h1.keep (fun k cs _ hk => (hb.block k (lt_of_heap hk)).trans hk), h2, fun i u hu => (h3 i u hu).below hb⟩
theorem OutT.fr {K : Obj → Bool} {base B : Nat} {w w' : World} {v : Value} {L : List (List Im)} (h : OutT base w v L) (hf : Fr K B w w') (hK : ∀ cs fz, K (.cells cs 50 fz) = false) (hK2 : ∀ cs fz, K (.cells cs 44 fz) = false) : OutT base w' v L := by
  obtain ⟨vs, h1, h2, h3⟩ := h
  exact ⟨vs, h1.keep (fun k cs _ hk => hf.keep k _ hk (.inr (hK2 _ _))), h2, fun i u hu => (h3 i u hu).fr hf hK⟩
theorem OutT.base {b b' : Nat} {w : World} {v : Value} {L : List (List Im)} (h : OutT b w v L) (hb : b' ≤ b) : OutT b' w v L := by
  obtain ⟨vs, h1, h2, h3⟩ := h
  exact ⟨vs, h1.base hb, h2, h3⟩
theorem OutT.form' {base : Nat} {w : World} {v : Value} {L : List (List Im)} (h : OutT base w v L) : ∃ ao m cap, v = .slice ao m cap ∧ Hid (m = L.length) := by
  obtain ⟨vs, h1, h2, _⟩ := h
  obtain ⟨ao, m, cap, e, hm⟩ := h1.form'
  exact ⟨ao, m, cap, e, Lib.hid (hm.out.trans h2)⟩
theorem OutT.get {base : Nat} {w : World} {ao : Option Addr} {m cap : Nat} {L : List (List Im)} (h : OutT base w (.slice ao m cap) L) {i : Nat} (hi : i < L.length) : ∃ b off u, ao = some ⟨b, off, none⟩ ∧ b < w.heap.size ∧ w.cell? ⟨b, off + i, none⟩ = some u ∧ ImgsR w u (lstAt L i) := by
  obtain ⟨vs, h1, h2, h3⟩ := h
  have hu : vs[i]? = some (vs[i]'(by omega)) := List.getElem?_eq_getElem _
  obtain ⟨b, off, e, hb, hc⟩ := h1.get hu
  exact ⟨b, off, _, e, hb, hc, h3 _ _ hu⟩
theorem OutT.take {base : Nat} {w : World} {ao : Option Addr} {m cap : Nat} {L : List (List Im)} (h : OutT base w (.slice ao m cap) L) (k : Nat) (hk : k ≤ L.length) : OutT base w (.slice ao k cap) (L.take k) := by
  obtain ⟨vs, h1, h2, h3⟩ := h
  refine ⟨vs.take k, h1.take k (by omega), by rw [List.length_take, List.length_take, h2], fun i u hu => ?_⟩
  rw [List.getElem?_take] at hu
  split at hu
  · rename_i hlt
    have := h3 i u hu
    unfold lstAt at this ⊢
    rw [List.getD_eq_getElem?_getD, List.getElem?_take, if_pos hlt, ← List.getD_eq_getElem?_getD]; exact this
  · exact absurd hu (by simp)
theorem outt_push {base : Nat} {w : World} {v : Value} {L : List (List Im)} (h : OutT base w v L) (hb0 : base ≤ w.heap.size) {nb : Nat} {u : Value} {fz : Nat × Nat} (hy : w.heap[nb]? = some (.cells #[u] 44 fz)) {l : List Im} (hu : ImgsR w u l) (hlen : (L.length + 1) * 24 ≤ 140737488355328) (ty : TypeId) :
    ∃ v' w', (Builtin.append_ #[34, 34] ty #[v, .slice (some ⟨nb, 0, none⟩) 1 1]).run Try.prog w = .ok v' w' ∧ OutT base w' v' (L ++ [l]) ∧ Fr KL base w w' := by
  obtain ⟨vs, h1, h2, h3⟩ := h
  have h1u : u.oneCell' = true := by obtain ⟨_, _, rfl, _⟩ := hu; rfl
  obtain ⟨v', w', hr, ho, hf⟩ := outv_push h1 hb0 hy h1u (by rw [h2]; exact hlen) ty
  refine ⟨v', w', hr, ⟨vs ++ [u], ho, by rw [List.length_append, List.length_append, h2]; rfl, fun i x hx => ?_⟩, hf⟩
  by_cases hio : i < vs.length
  · rw [List.getElem?_append_left hio] at hx
    have := (h3 i x hx).fr hf KL_img
    unfold lstAt at this ⊢
    rw [List.getD_eq_getElem?_getD, List.getElem?_append_left (by omega), ← List.getD_eq_getElem?_getD]; exact this
  · have hi' : i = vs.length := by
      have := (List.getElem?_eq_some_iff.1 hx).1
      rw [List.length_append] at this; simp at this; omega
    subst hi'
    rw [List.getElem?_append_right (Nat.le_refl _)] at hx
    have hx' : u = x := by simpa using hx
    subst hx'
    have := hu.fr hf KL_img
    unfold lstAt
    rw [List.getD_eq_getElem?_getD, List.getElem?_append_right (by omega), h2]
    simpa using this
theorem build_lst_one (w : World) (a : Option Addr) (m c : Nat) : (Instr.buildSlice 34 1 #[(0, .slice a m c)]).run Try.prog w = .ok (.slice (some ⟨w.heap.size, 0, none⟩) 1 1) (w.alloc (.cells #[.slice a m c] 44)) := by kernel_rfl
end Go.Proofs.Ytbgefdigmdfalaa
