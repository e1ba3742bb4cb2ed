/- The remote store as it lies in memory ('StoAt'), told by a plain structure ('Sto'); the contracts of its small methods. No statement of the seat is proved here. -/
import Derived.Test.YtcbbppgleclndaaKept
import Derived.Test.YtcbbppgleclndaaBName
import Derived.StringKeys
namespace Go.Proofs.Ytcbbppgleclndaa
open Go.RowKit

/-! ### the store, plainly -/
structure Sto where
  blobs : List UInt8 → Option (List UInt8)
  version : Nat
  root : ByteArray
  outs : List Int
  calls : Nat
def Sto.fresh : Sto := { blobs := fun _ => none, version := 0, root := ByteArray.empty, outs := [], calls := 0 }
def rest3 (z : Int) : Int := (z.tmod 3 + 3).tmod 3
def Sto.out (s : Sto) : Int := match s.outs with | [] => 0 | z :: _ => rest3 z
def Sto.took (s : Sto) : Sto := { s with outs := s.outs.tail, calls := s.calls + 1 }
theorem out_range (s : Sto) : s.out = 0 ∨ s.out = 1 ∨ s.out = 2 := by
  unfold Sto.out
  cases s.outs with
  | nil => exact Or.inl rfl
  | cons z _ =>
    unfold rest3
    have h1 := Int.tmod_lt_of_pos z (b := 3) (by decide)
    have h2 : -3 < z.tmod 3 := by
      have := Int.lt_tmod_of_pos z (b := 3) (by decide); omega
    have h3 : 0 ≤ z.tmod 3 + 3 := by omega
    have h4 : (z.tmod 3 + 3).tmod 3 = 0 ∨ (z.tmod 3 + 3).tmod 3 = 1 ∨ (z.tmod 3 + 3).tmod 3 = 2 := by
      rw [Int.tmod_eq_emod_of_nonneg h3]
      omega
    exact h4

/-! ### its cells -/
def vR (v : Value) : Option (DataW Value × List MemPlace) := some (.held v, [])
theorem vR_inv {v u : Value} {ps : List MemPlace} (h : vR v = some (.held u, ps)) : v = u := by
  simp only [vR, Option.some.injEq, Prod.mk.injEq, DataW.held.injEq] at h; exact h.1
theorem keyed9 : Maps.Keyed Try.prog 9 := Maps.string_keyed Try.underlying9
theorem key_str {s : ByteArray} (h : s.size ≤ maxLen) : keyOf Try.prog 9 (.string s) = some (.string s.data.toList) := by
  simp [keyOf, Try.underlying9, mapKey, h]

def BlobAt (Y : Nat → Prop) (w : World) (D : DataW Value) (k : List UInt8) : Option (List UInt8) → Prop
  | none => Maps.has D (.string k) = false
  | some bs => Maps.has D (.string k) = true ∧ ∃ v, (∀ z, D.atKey (.string k) z = .held v) ∧ BytesIn Y w v bs
def MapIs (X : Nat → Prop) (w : World) (mv : Value) (N : Nat) (f : List UInt8 → Option (List UInt8)) : Prop :=
  (mv = .map none ∧ ∀ k, f k = none) ∨
  ∃ mb D, mv = .map (some mb) ∧ ¬ X mb ∧ w.ownsMap Try.prog 9 vR mb N D ∧ Maps.IsMap D ∧ ∀ k, BlobAt (fun k => ¬ X k) w D k (f k)
/-- The outcomes: a part of a row, with what room there is behind it. -/
def OutsIs (X : Nat → Prop) (w : World) (v : Value) (zs : List Int) : Prop :=
  ∃ ao cap, v = .slice ao zs.length cap ∧ zs.length ≤ cap ∧ cap ≤ maxLen ∧ ((ao = none ∧ cap = 0) ∨ ∃ b off cs, ao = some ⟨b, off, none⟩ ∧ ¬ X b ∧ w.heap[b]? = some (.cells cs 3 (0, 0)) ∧ off + cap ≤ cs.size ∧ ∀ i, i < zs.length → cs[off + i]? = some (.int .i64 (zs.getD i 0)))

/-- THE STORE s AT BLOCK sb OF w, all its blocks outside X; N: how often its map was put into, at most. -/
structure StoAt (X : Nat → Prop) (w : World) (sb : Nat) (s : Sto) (N : Nat) : Prop where
  lt : ∀ k, X k → k < w.heap.size
  out : ¬ X sb
  rng : ∀ z ∈ s.outs, -9223372036854775808 ≤ z ∧ z ≤ 9223372036854775807
  box : ∃ mv ov, w.heap[sb]? = some (.cells #[mv, .int .i64 s.version, .string s.root, ov, .int .i64 s.calls] 55 (0, 0)) ∧ MapIs X w mv N s.blobs ∧ OutsIs X w ov s.outs

theorem BlobAt.keep {Y : Nat → Prop} {w w' : World} {D : DataW Value} {k : List UInt8} {o : Option (List UInt8)} (h : BlobAt Y w D k o) (hk : ∀ (k : Nat) o, Y k → w.heap[k]? = some o → w'.heap[k]? = some o) : BlobAt Y w' D k o := by
  cases o with
  | none => exact h
  | some bs => obtain ⟨h1, v, h2, h3⟩ := h; exact ⟨h1, v, h2, h3.keep hk⟩
theorem BlobAt.mono {Y Y' : Nat → Prop} {w : World} {D : DataW Value} {k : List UInt8} {o : Option (List UInt8)} (h : BlobAt Y w D k o) (hY : ∀ k, k < w.heap.size → Y k → Y' k) : BlobAt Y' w D k o := by
  cases o with
  | none => exact h
  | some bs => obtain ⟨h1, v, h2, h3⟩ := h; exact ⟨h1, v, h2, h3.mono hY⟩
theorem MapIs.keep {X X' : Nat → Prop} {w w' : World} {mv : Value} {N : Nat} {f : List UInt8 → Option (List UInt8)} (h : MapIs X w mv N f) (hk : ∀ (k : Nat) o, ¬ X k → w.heap[k]? = some o → w'.heap[k]? = some o) (hX : ∀ k, k < w.heap.size → X' k → X k) : MapIs X' w' mv N f := by
  rcases h with h | ⟨mb, D, hv, hB, ho, hm, hat⟩
  · exact Or.inl h
  · have hlt := ho.lt
    refine Or.inr ⟨mb, D, hv, fun e => hB (hX _ hlt e), ?_, hm, fun k => ?_⟩
    · obtain ⟨es, clock, hb, F, hs, hD⟩ := ho
      exact ⟨es, clock, hk _ _ hB hb, F, hs, hD⟩
    · cases hf : f k with
      | none => have := hat k; rw [hf] at this; exact this
      | some bs =>
        have := hat k
        rw [hf] at this
        exact ((this.mono (Y' := fun k => ¬ X k ∧ ¬ X' k) (fun k hl h => ⟨h, fun e => h (hX k hl e)⟩)).keep (fun k o h => hk k o h.1)).mono (fun k _ h => h.2)
theorem MapIs.more {X : Nat → Prop} {w : World} {mv : Value} {N N' : Nat} {f : List UInt8 → Option (List UInt8)} (h : MapIs X w mv N f) (hn : N ≤ N') : MapIs X w mv N' f := by
  rcases h with h | ⟨mb, D, hv, hB, ho, hm, hat⟩
  · exact Or.inl h
  · exact Or.inr ⟨mb, D, hv, hB, ho.mono hn, hm, hat⟩
theorem OutsIs.keep {X X' : Nat → Prop} {w w' : World} {v : Value} {zs : List Int} (h : OutsIs X w v zs) (hk : ∀ (k : Nat) o, ¬ X k → w.heap[k]? = some o → w'.heap[k]? = some o) (hX : ∀ k, k < w.heap.size → X' k → X k) : OutsIs X' w' v zs := by
  obtain ⟨ao, cap, hv, h1, h2, h3⟩ := h
  refine ⟨ao, cap, hv, h1, h2, h3.imp_right ?_⟩
  rintro ⟨b, off, cs, e, hb, hh, r⟩
  exact ⟨b, off, cs, e, fun x => hb (hX _ (lt_of_heap hh) x), hk _ _ hb hh, r⟩
theorem StoAt.keep {X X' : Nat → Prop} {w w' : World} {sb : Nat} {s : Sto} {N : Nat} (h : StoAt X w sb s N) (hk : ∀ (k : Nat) o, ¬ X k → w.heap[k]? = some o → w'.heap[k]? = some o) (hX : ∀ k, k < w.heap.size → X' k → X k) (hl : ∀ k, X' k → k < w'.heap.size) : StoAt X' w' sb s N := by
  obtain ⟨lt, out, rng, mv, ov, h1, h2, h3⟩ := h
  exact ⟨hl, fun e => out (hX _ (lt_of_heap h1) e), rng, mv, ov, hk _ _ out h1, h2.keep hk hX, h3.keep hk hX⟩
/-- A world in which all old blocks are as they were. -/
theorem StoAt.below {X : Nat → Prop} {w w' : World} {sb : Nat} {s : Sto} {N : Nat} (h : StoAt X w sb s N) (hb : Below w.heap.size w w') : StoAt X w' sb s N :=
  h.keep (fun k _ _ ho => (hb.block k (lt_of_heap ho)).trans ho) (fun _ _ e => e) (fun k e => Nat.lt_of_lt_of_le (h.lt k e) hb.size)
/-- .. and what is new is not the store's. -/
theorem StoAt.wider {X : Nat → Prop} {w w' : World} {sb : Nat} {s : Sto} {N : Nat} (h : StoAt X w sb s N) (hb : Below w.heap.size w w') : StoAt (fun k => X k ∨ (w.heap.size ≤ k ∧ k < w'.heap.size)) w' sb s N :=
  h.keep (fun k _ _ ho => (hb.block k (lt_of_heap ho)).trans ho) (fun k hk e => by rcases e with e | e; exact e; omega) (fun k e => by rcases e with e | e; exact Nat.lt_of_lt_of_le (h.lt k e) hb.size; exact e.2)
theorem StoAt.less {X X' : Nat → Prop} {w : World} {sb : Nat} {s : Sto} {N : Nat} (h : StoAt X w sb s N) (hX : ∀ k, X' k → X k) : StoAt X' w sb s N :=
  h.keep (fun _ _ _ ho => ho) (fun k _ e => hX k e) (fun k e => h.lt k (hX k e))
theorem StoAt.more {X : Nat → Prop} {w : World} {sb : Nat} {s : Sto} {N N' : Nat} (h : StoAt X w sb s N) (hn : N ≤ N') : StoAt X w sb s N' := by
  obtain ⟨lt, out, rng, mv, ov, h1, h2, h3⟩ := h
  exact ⟨lt, out, rng, mv, ov, h1, h2.more hn, h3⟩
theorem StoAt.drew {X : Nat → Prop} {w : World} {sb : Nat} {s : Sto} {N : Nat} (h : StoAt X w sb s N) : StoAt X w.drew sb s N := ⟨h.lt, h.out, h.rng, h.box⟩

/-- A store into the store's own cells, its map untouched. -/
theorem StoAt.set {X : Nat → Prop} {w : World} {sb : Nat} {s s' : Sto} {N : Nat} {mv ov : Value} (h : StoAt X w sb s N)
    (h1 : w.heap[sb]? = some (.cells #[mv, .int .i64 s.version, .string s.root, ov, .int .i64 s.calls] 55 (0, 0))) (i : Nat) (u ov' : Value)
    (hcs : (#[mv, .int .i64 s.version, .string s.root, ov, .int .i64 s.calls] : Array Value).setIfInBounds i u = #[mv, .int .i64 s'.version, .string s'.root, ov', .int .i64 s'.calls])
    (hb : s'.blobs = s.blobs) (hz : ∀ z ∈ s'.outs, -9223372036854775808 ≤ z ∧ z ≤ 9223372036854775807) (ho : OutsIs X w ov' s'.outs) :
    StoAt X (w.setCell ⟨sb, i, none⟩ u) sb s' N ∧ Kp X w (w.setCell ⟨sb, i, none⟩ u) := by
  obtain ⟨lt, out, rng, mv0, ov0, h10, h2, h3⟩ := h
  have hs := heap_setCell_same w sb i _ _ u h1
  rw [hcs] at hs
  have em : mv0 = mv := Option.some.inj ((cell_row h10 0 rfl).symm.trans (cell_row h1 0 rfl))
  subst em
  have hmap : ∀ (k : Nat) es c, w.heap[k]? = some (.map es c) → (w.setCell ⟨sb, i, none⟩ u).heap[k]? = some (.map es c) := fun k es c hk => by
    rw [Below.heap_setCell _ _ _ _ (by rintro rfl; rw [h1] at hk; cases hk)]; exact hk
  have hrow : ∀ (k : Nat) cs t f, t ≠ 55 → w.heap[k]? = some (.cells cs t f) → (w.setCell ⟨sb, i, none⟩ u).heap[k]? = some (.cells cs t f) := fun k cs t f ht hk => by
    rw [Below.heap_setCell _ _ _ _ (by rintro rfl; rw [h1] at hk; simp only [Option.some.injEq, Obj.cells.injEq] at hk; exact ht hk.2.1.symm)]; exact hk
  refine ⟨⟨fun k e => by simpa [World.setCell] using lt k e, out, hz, mv0, ov', hs, ?_, ?_⟩, (Kp.refl _ _).setCell out u⟩
  · rw [hb]
    rcases h2 with h2 | ⟨mb, D, hv, hB, ho', hm, hat⟩
    · exact Or.inl h2
    · refine Or.inr ⟨mb, D, hv, hB, ?_, hm, fun k => ?_⟩
      · obtain ⟨es, clock, hb, F, hs', hD⟩ := ho'
        exact ⟨es, clock, hmap _ _ _ hb, F, hs', hD⟩
      · have := hat k
        cases hf : s.blobs k with
        | none => rw [hf] at this; exact this
        | some bs =>
          rw [hf] at this
          obtain ⟨g1, v, g2, ao, cap, g3, g4, g5⟩ := this
          refine ⟨g1, v, g2, ao, cap, g3, g4, fun h0 => ?_⟩
          obtain ⟨b, off, cs, fz, e1, e2, e3, e4⟩ := g5 h0
          exact ⟨b, off, cs, fz, e1, e2, hrow _ _ _ _ (by decide) e3, e4⟩
  · obtain ⟨ao, cap, hv, g1, g2, g3⟩ := ho
    refine ⟨ao, cap, hv, g1, g2, g3.imp_right ?_⟩
    rintro ⟨b, off, cs, e, hb, hh, r⟩
    exact ⟨b, off, cs, e, hb, hrow _ _ _ _ (by decide) hh, r⟩

/-! ### New, Calls, refuse -/
set_option maxHeartbeats 400000 in
theorem new_any (w : World) : Calls Try.prog 10 #[] w fun e w' => e = .returned (.pointer (some ⟨w.heap.size, 0, none⟩)) ∧ StoAt (fun k => k < w.heap.size) w' w.heap.size Sto.fresh 0 ∧ Below w.heap.size w w' := by
  go_enter Try.func10, Try.ntmps10
  go_wp2
  go_ret
  refine ⟨rfl, ⟨fun k hk => ?_, by simp, by simp [Sto.fresh], .map none, .slice none 0 0, ?_, Or.inl ⟨rfl, fun _ => rfl⟩, ⟨none, 0, rfl, Nat.le_refl _, by simp [maxLen], Or.inl ⟨rfl, rfl⟩⟩⟩, ?_⟩
  · simp; omega
  · rw [heap_alloc_new]; rfl
  · exact (Below.refl _ _).alloc (Nat.le_refl _) _
set_option maxHeartbeats 400000 in
theorem calls_any {X : Nat → Prop} {w : World} {sb : Nat} {s : Sto} {N : Nat} (h : StoAt X w sb s N) : Calls Try.prog 12 #[.pointer (some ⟨sb, 0, none⟩)] w fun e w' => e = .returned (.int .i64 s.calls) ∧ w = w' := by
  obtain ⟨lt, out, rng, mv, ov, h1, h2, h3⟩ := h
  have c4 := cell_row h1 4 rfl
  clear h1 h2 h3 rng
  go_enter Try.func12, Try.ntmps12
  go_wp2
  go_ret
  exact ⟨rfl, rfl⟩
set_option maxHeartbeats 400000 in
theorem calls_nil (w : World) : Calls Try.prog 12 #[.pointer none] w fun e w' => e = .returned (.int .i64 0) ∧ w = w' := by
  go_enter Try.func12, Try.ntmps12
  go_wp2
  go_ret
  exact ⟨rfl, rfl⟩
def refuseN (s : ByteArray) : Int := if nameB s.data.toList then 0 else 6
set_option maxHeartbeats 400000 in
theorem refuse_any {w : World} {sb : Nat} (s : ByteArray) (hs : s.size ≤ maxLen) : Calls Try.prog 30 #[.pointer (some ⟨sb, 0, none⟩), .string s] w fun e w' => e = .returned (.int .i64 (refuseN s)) ∧ w = w' := by
  obtain ⟨b, hb⟩ : ∃ b, nameB s.data.toList = b := ⟨_, rfl⟩
  have HB : Hid (refuseN s = if b then 0 else 6) := by show _ = _; unfold refuseN; rw [hb]
  have HN := Lib.hid hb
  clear hb
  go_enter Try.func30, Try.ntmps30
  go_wp2_with fail
  refine (name_any s _ hs).mono ?_
  rintro e w' ⟨rfl, rfl⟩
  rw [HN.out]
  cases b
  · go_wp2
    go_ret
    exact ⟨by rw [HB.out]; rfl, rfl⟩
  · go_wp2
    go_ret
    exact ⟨by rw [HB.out]; rfl, rfl⟩
set_option maxHeartbeats 400000 in
theorem refuse_nil (w : World) (s : Value) : Calls Try.prog 30 #[.pointer none, s] w fun e w' => e = .returned (.int .i64 1) ∧ w = w' := by
  go_enter Try.func30, Try.ntmps30
  go_wp2
  go_ret
  exact ⟨rfl, rfl⟩
end Go.Proofs.Ytcbbppgleclndaa
