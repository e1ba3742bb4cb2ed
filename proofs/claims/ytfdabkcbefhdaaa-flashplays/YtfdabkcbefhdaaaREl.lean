/- Slices of texts and of writes that wait (the document's device): as they came in, and of one's own. No statement of the seat is proved here. -/
import Derived.Test.YtfdabkcbefhdaaaOwn
import Derived.Deep.Slices
namespace Go.Proofs.Ytfdabkcbefhdaaa
set_option maxRecDepth 20000
open Go.RowKit

theorem run_append_none (w : World) (t ty e : TypeId) (ht : Try.prog.underlying t = some (.slice e)) (i : TypeInfo) (hi : Try.prog.info? e = some i) (ao bo : Option Addr) (n cap c : Nat) (h : n ≤ cap) :
    (Builtin.append_ #[t, t] ty #[.slice ao n cap, .slice bo 0 c]).run Try.prog w = .ok (.slice ao n cap) w := by
  cases ao <;> cases bo <;> simp [Builtin.append_, run_underlying ht, sizeOf, typeInfo, hi, Builtin.lenOf, h, Builtin.firstCells, loadCells, storeCells, Result.andThen] <;> rfl
/-- How an element lies in cells. -/
structure El (α : Type) where
  enc : α → List Value
  k : Nat
  t : TypeId
  st : TypeId
  z : Value
  bytes : Nat
structure ElOk {α : Type} (E : El α) : Prop where
  pos : 0 < E.k
  len : ∀ x, (E.enc x).length = E.k
  one : ∀ x, ∀ u ∈ E.enc x, u.oneCell' = true
  under : Try.prog.underlying E.st = some (.slice E.t)
  info : ∃ i, Try.prog.info? E.t = some i ∧ i.zero = some E.z ∧ i.size = E.k ∧ i.bytes = E.bytes
  zs : E.z.cells.size = E.k
  by8 : 8 ≤ E.bytes
abbrev elS : El ByteArray := ⟨fun s => [.string s], 1, 9, 43, .string ByteArray.empty, 16⟩
abbrev elW : El (Int × ByteArray) := ⟨fun p => [.int .i64 p.1, .string p.2], 2, 75, 45, .agg #[.int .i64 0, .string ByteArray.empty], 24⟩
theorem info_of {t : TypeId} {z : Value} {s b : Nat} (h : (Try.prog.info? t).map (fun i => (i.zero, i.size, i.bytes)) = some (some z, s, b)) : ∃ i, Try.prog.info? t = some i ∧ i.zero = some z ∧ i.size = s ∧ i.bytes = b := by
  cases hq : Try.prog.info? t with
  | none => rw [hq] at h; simp at h
  | some i => rw [hq] at h; simp at h; exact ⟨i, rfl, h.1, h.2.1, h.2.2⟩
theorem okS : ElOk elS := ⟨by decide, fun _ => rfl, fun x u hu => by simp at hu; subst hu; rfl, Try.underlying43, info_of (by kernel_rfl), rfl, by decide⟩
theorem okW : ElOk elW := ⟨by decide, fun _ => rfl, fun x u hu => by simp at hu; rcases hu with rfl | rfl <;> rfl, Try.underlying45, info_of (by kernel_rfl), rfl, by decide⟩
section
variable {α : Type} {E : El α}
def cells (E : El α) (l : List α) : List Value := l.flatMap E.enc
theorem cells_nil : cells E ([] : List α) = [] := rfl
theorem cells_append (l m : List α) : cells E (l ++ m) = cells E l ++ cells E m := by simp [cells]
theorem cells_length (hE : ElOk E) (l : List α) : (cells E l).length = l.length * E.k := by
  induction l with
  | nil => simp [cells]
  | cons a r ih =>
    have : cells E (a :: r) = E.enc a ++ cells E r := rfl
    rw [this, List.length_append, ih, hE.len, List.length_cons, Nat.succ_mul, Nat.add_comm]
theorem cells_one (hE : ElOk E) (l : List α) : ∀ u ∈ cells E l, u.oneCell' = true := by
  intro u hu
  obtain ⟨x, _, hx⟩ := List.mem_flatMap.1 hu
  exact hE.one x u hx
theorem cells_get (hE : ElOk E) : ∀ (l : List α) (i : Nat) (x : α), l[i]? = some x → ∀ j, j < E.k → (cells E l)[i * E.k + j]? = (E.enc x)[j]?
  | [], i, x, h, _, _ => by simp at h
  | a :: r, 0, x, h, j, hj => by
    have : cells E (a :: r) = E.enc a ++ cells E r := rfl
    simp at h; subst h
    rw [this, Nat.zero_mul, Nat.zero_add, List.getElem?_append_left (by rw [hE.len]; exact hj)]
  | a :: r, i + 1, x, h, j, hj => by
    have e : cells E (a :: r) = E.enc a ++ cells E r := rfl
    have ih := cells_get hE r i x (by simpa using h) j hj
    rw [e, List.getElem?_append_right (by rw [hE.len, Nat.succ_mul]; omega), hE.len, ← ih, Nat.succ_mul]
    congr 1; omega
theorem cells_take (hE : ElOk E) (l : List α) (i : Nat) : cells E (l.take i) = (cells E l).take (i * E.k) := by
  by_cases h : i ≤ l.length
  · have e : cells E l = cells E (l.take i) ++ cells E (l.drop i) := by rw [← cells_append, List.take_append_drop]
    have hl : (cells E (l.take i)).length = i * E.k := by rw [cells_length hE, List.length_take, Nat.min_eq_left h]
    rw [e, ← hl, List.take_left]
  · rw [List.take_of_length_le (by omega), List.take_of_length_le (by rw [cells_length hE]; exact Nat.mul_le_mul_right _ (by omega))]
theorem cells_drop (hE : ElOk E) (l : List α) (i : Nat) : cells E (l.drop i) = (cells E l).drop (i * E.k) := by
  by_cases h : i ≤ l.length
  · have e : cells E l = cells E (l.take i) ++ cells E (l.drop i) := by rw [← cells_append, List.take_append_drop]
    have hl : (cells E (l.take i)).length = i * E.k := by rw [cells_length hE, List.length_take, Nat.min_eq_left h]
    rw [e, ← hl, List.drop_left]
  · rw [List.drop_of_length_le (by omega), List.drop_of_length_le (by rw [cells_length hE]; exact Nat.mul_le_mul_right _ (by omega))]; rfl

/-- A slice that reads as l in w, its block below B. -/
def SlAt (E : El α) (B : Nat) (w : World) (v : Value) (l : List α) : Prop :=
  ∃ ao cap, v = .slice ao l.length cap ∧ l.length ≤ cap ∧ l.length * E.bytes ≤ 140737488351232 ∧
    (0 < l.length → ∃ b off, ao = some ⟨b, off, none⟩ ∧ b < B ∧ ∀ j u, (cells E l)[j]? = some u → w.cell? ⟨b, off + j, none⟩ = some u)
theorem SlAt.below {B : Nat} {w w' : World} {v : Value} {l : List α} (h : SlAt E B w v l) (hb : Below B w w') : SlAt E B w' v l := by
  obtain ⟨ao, cap, hv, h1, h2, h3⟩ := h
  refine ⟨ao, cap, hv, h1, h2, fun h0 => ?_⟩
  obtain ⟨b, off, e, hB, hc⟩ := h3 h0
  exact ⟨b, off, e, hB, fun j u hj => (hb.cell hB).trans (hc j u hj)⟩
theorem SlAt.more {B B' : Nat} {w : World} {v : Value} {l : List α} (h : SlAt E B w v l) (hB : B ≤ B') : SlAt E B' w v l := by
  obtain ⟨ao, cap, hv, h1, h2, h3⟩ := h
  refine ⟨ao, cap, hv, h1, h2, fun h0 => ?_⟩
  obtain ⟨b, off, e, hb, hc⟩ := h3 h0
  exact ⟨b, off, e, Nat.lt_of_lt_of_le hb hB, hc⟩
theorem SlAt.nil (E : El α) (B : Nat) (w : World) : SlAt E B w (.slice none 0 0) [] := ⟨none, 0, rfl, Nat.le_refl _, by simp, fun h => absurd h (by simp)⟩
theorem SlAt.form {B : Nat} {w : World} {v : Value} {l : List α} (h : SlAt E B w v l) : ∃ ao m cap, v = .slice ao m cap ∧ Hid (m = l.length) := by
  obtain ⟨ao, cap, hv, _⟩ := h
  exact ⟨ao, _, cap, hv, Lib.hid rfl⟩
theorem SlAt.len (hE : ElOk E) {B : Nat} {w : World} {v : Value} {l : List α} (h : SlAt E B w v l) : l.length ≤ 17592186043904 := by
  obtain ⟨ao, cap, hv, _, h2, _⟩ := h
  have := Nat.mul_le_mul_left l.length hE.by8
  omega
/-- a part -/
theorem SlAt.take (hE : ElOk E) {B : Nat} {w : World} {ao : Option Addr} {m cap : Nat} {l : List α} (h : SlAt E B w (.slice ao m cap) l) {i : Nat} (hi : i ≤ l.length) : SlAt E B w (.slice ao i cap) (l.take i) := by
  obtain ⟨ao', cap', hv, h1, h2, h3⟩ := h
  cases hv
  have hl : (l.take i).length = i := by rw [List.length_take]; omega
  refine ⟨ao, cap, by rw [hl], by omega, by rw [hl]; exact Nat.le_trans (Nat.mul_le_mul_right _ hi) h2, fun h0 => ?_⟩
  obtain ⟨b, off, e, hb, hc⟩ := h3 (by omega)
  refine ⟨b, off, e, hb, fun j u hj => hc j u ?_⟩
  rw [cells_take hE] at hj
  rw [List.getElem?_take] at hj
  split at hj
  · exact hj
  · cases hj
theorem SlAt.drop (hE : ElOk E) {B : Nat} {w : World} {ao : Option Addr} {m cap : Nat} {l : List α} (h : SlAt E B w (.slice ao m cap) l) {i : Nat} (hi : i ≤ l.length) {bo : Option Addr} (hbo : ∀ b off, ao = some ⟨b, off, none⟩ → i < l.length → bo = some ⟨b, off + i * E.k, none⟩) {cap' : Nat} (hcap : l.length - i ≤ cap') : SlAt E B w (.slice bo (l.length - i) cap') (l.drop i) := by
  obtain ⟨ao', cap', hv, h1, h2, h3⟩ := h
  cases hv
  have hl : (l.drop i).length = l.length - i := by rw [List.length_drop]
  refine ⟨bo, _, by rw [hl], by omega, by rw [hl]; exact Nat.le_trans (Nat.mul_le_mul_right _ (by omega)) h2, fun h0 => ?_⟩
  obtain ⟨b, off, e, hb, hc⟩ := h3 (by omega)
  refine ⟨b, off + i * E.k, hbo b off e (by omega), hb, fun j u hj => ?_⟩
  rw [Nat.add_assoc]
  refine hc _ u ?_
  rw [cells_drop hE, List.getElem?_drop] at hj
  exact hj
/-- A slice of the call's own. -/
def OwnR (E : El α) (base : Nat) (w : World) (v : Value) (l : List α) : Prop := w.ownsRow base E.t E.k v l.length (cells E l)
theorem OwnR.nil (E : El α) (base : Nat) (w : World) : OwnR E base w (.slice none 0 0) [] := World.ownsRow_nil w base E.t E.k
theorem OwnR.below {base : Nat} {w w' : World} {v : Value} {l : List α} (h : OwnR E base w v l) (hb : Below w.heap.size w w') : OwnR E base w' v l := ownsRow_below h hb
theorem OwnR.base {b b' : Nat} {w : World} {v : Value} {l : List α} (h : OwnR E b w v l) (hb : b' ≤ b) : OwnR E b' w v l :=
  ownsRow_base h (fun k hk => Nat.le_trans hb (World.ownsRow.lt h k hk).1)
theorem OwnR.form {base : Nat} {w : World} {v : Value} {l : List α} (h : OwnR E base w v l) : ∃ ao cap, v = .slice ao l.length cap ∧ l.length ≤ cap ∧ l.length ≤ maxLen := ownsRow_form h
theorem OwnR.form' {base : Nat} {w : World} {v : Value} {l : List α} (h : OwnR E base w v l) : ∃ ao m cap, v = .slice ao m cap ∧ Hid (m = l.length) := by
  obtain ⟨ao, cap, hv, _, _⟩ := h.form
  exact ⟨ao, _, cap, hv, Lib.hid rfl⟩
theorem OwnR.at {base : Nat} {w : World} {v : Value} {l : List α} (h : OwnR E base w v l) (hlen : l.length * E.bytes ≤ 140737488351232) : SlAt E w.heap.size w v l := by
  obtain ⟨ao, cap, hv, h1, h2⟩ := h.form
  refine ⟨ao, cap, hv, h1, hlen, fun h0 => ?_⟩
  obtain ⟨g, cap', hv', hb, hlt⟩ := World.ownsRow.form h h0
  have hc := World.ownsRow.cells h (g := g) (by rw [hv']; rfl)
  rw [hv] at hv'
  have ha : ao = some ⟨g, 0, none⟩ := by injection hv'
  refine ⟨g, 0, ha, hlt, fun j u hj => ?_⟩
  have := hc j u hj
  rwa [Addr.add_mid] at this
/-- append onto a slice of one's own, from a slice that reads as m -/
theorem own_app (hE : ElOk E) {base : Nat} {w : World} {v : Value} {l : List α} (h : OwnR E base w v l) {B : Nat} {x : Value} {m : List α} (hx : SlAt E B w x m) (hlen : (l.length + m.length) * E.bytes ≤ 140737488355328) (hb : base ≤ w.heap.size) (ty : TypeId) :
    ∃ v' w', (Builtin.append_ #[E.st, E.st] ty #[v, x]).run Try.prog w = .ok v' w' ∧ OwnR E base w' v' (l ++ m) ∧ Below base w w' ∧ w.heap.size ≤ w'.heap.size ∧ GrV v w w' v' := by
  obtain ⟨i, hi, hi0, hi1, hi2⟩ := hE.info
  have hcl := cells_length hE m
  obtain ⟨bo, c, hxv, hxc0, hxl, hxc⟩ := hx
  subst hxv
  have hml : l.length + m.length ≤ maxLen := by
    have := Nat.mul_le_mul_left (l.length + m.length) hE.by8
    unfold maxLen; omega
  by_cases h0 : 0 < m.length
  · obtain ⟨b', off', rfl, hB, hat⟩ := hxc h0
    obtain ⟨v', w', hr, ho, hgr, -, hob⟩ := run_append_own_at (P := Try.prog) w base E.st ty E.t i _ E.k E.bytes hE.under hi hi0 hi1 hi2 hE.zs hE.pos v l.length (cells E l) h ⟨b', off', none⟩ m.length c (cells E m) hcl (fun j u hu => by
        rw [Addr.add_mid]; exact hat j u hu) (cells_one hE m) hml hlen hb
    refine ⟨v', w', hr, ?_, (Below.refl _ _).grown hgr hb (fun k hk => (World.ownsRow.lt h k hk).1), hgr.size, hgr.block, hgr.size, hob.imp id fun e => ⟨_, Nat.le_refl _, e⟩⟩
    unfold OwnR
    rw [List.length_append, cells_append]
    exact ho
  · have hcs : m = [] := List.eq_nil_of_length_eq_zero (by omega)
    subst hcs
    obtain ⟨ao, cap, hv, hc1, _⟩ := h.form
    subst hv
    refine ⟨_, w, run_append_none w E.st ty E.t hE.under i hi ao bo l.length cap c hc1, by rw [List.append_nil]; exact h, Below.refl _ _, Nat.le_refl _, fun k _ _ => rfl, Nat.le_refl _, .inl rfl⟩
end
end Go.Proofs.Ytfdabkcbefhdaaa
