/- The allocator and the document's side by side: what each call does to both. No statement of the seat is proved here. -/
import Derived.Test.YtkmaikmbjebjeaaDoorADoc6
namespace Go.Proofs.YtkmaikmbjebjeaaDoor
set_option maxRecDepth 20000
open Go.RowKit

set_option maxHeartbeats 400000 in
theorem nobody_any (w : World) : Calls Tryd.prog 9 #[] w fun e w' => e = .returned (.pointer none) ∧ w = w' := by
  go_enter Tryd.func9, Tryd.ntmps9
  go_wp2
  go_ret
  exact ⟨rfl, rfl⟩
theorem run_append_none (w : World) (t ty e : TypeId) (ht : Tryd.prog.underlying t = some (.slice e)) (i : TypeInfo) (hi : Tryd.prog.info? e = some i) (ao bo : Option Addr) (n cap c : Nat) (h : n ≤ cap) :
    (Builtin.append_ #[t, t] ty #[.slice ao n cap, .slice bo 0 c]).run Tryd.prog w = .ok (.slice ao n cap) w := by
  cases ao <;> cases bo <;> simp [Builtin.append_, run_underlying ht, sizeOf, typeInfo, hi, Builtin.lenOf, h, Builtin.firstCells, loadCells, storeCells, Result.andThen] <;> rfl
theorem build_zero (w : World) : (Instr.buildSlice 22 0 #[]).run Tryd.prog w = .ok (.slice (some ⟨w.heap.size, 0, none⟩) 0 0) (w.alloc (.cells #[] 3)) := by kernel_rfl
theorem copy_ints {W w : World} {v : Value} {zs : List Int} (h : IntsArg W v zs) (hb : Below W.heap.size W w) : ∃ v' w', (Builtin.append_ #[22, 22] 22 #[.slice (some ⟨w.heap.size, 0, none⟩) 0 0, v]).run Tryd.prog (w.alloc (.cells #[] 3)) = .ok v' w' ∧ OwnZ w.heap.size w' v' zs ∧ Below w.heap.size w w' := by
  obtain ⟨i, hi, hi0, hi1, hi2⟩ := infoInt'
  have h0 : OwnZ w.heap.size (w.alloc (.cells #[] 3)) (.slice (some ⟨w.heap.size, 0, none⟩) 0 0) [] := ⟨rfl, .inr ⟨w.heap.size, 0, #[], rfl, Nat.le_refl _, heap_alloc_new w _, Nat.le_refl _, Nat.zero_le _, rfl, rfl⟩⟩
  have hb1 := below_new w (.cells #[] 3)
  obtain ⟨ao, cap, rfl, hl, -⟩ := h.1.form
  have h8 := h.2.2.1
  by_cases hp : 0 < zs.length
  · obtain ⟨b, off, e0, -⟩ := h.1.at (hb.trans (hb1.mono hb.size)) hp
    subst e0
    obtain ⟨v', w', hr, ho, hgr, -, hob⟩ := run_append_own_at (P := Tryd.prog) (w.alloc (.cells #[] 3)) w.heap.size 22 22 3 i _ 1 8 Tryd.underlying22 hi hi0 hi1 hi2 rfl (by decide) _ 0 [] h0 ⟨b, off, none⟩ zs.length cap (zs.map iV) (by simp) (fun j u hu => by
        have hj : j < zs.length := by have := (List.getElem?_eq_some_iff.1 hu).1; simpa using this
        obtain ⟨b', off', e1, c⟩ := h.1.at (hb.trans (hb1.mono hb.size)) hj
        cases e1
        rw [Addr.add_mid, c]
        rw [List.getElem?_map, List.getElem?_eq_getElem hj, Option.map_some] at hu
        rw [← hu, List.getD_eq_getElem?_getD, List.getElem?_eq_getElem hj]; rfl) (fun u hu => by
        obtain ⟨z, -, rfl⟩ := List.mem_map.1 hu; rfl) (by unfold maxLen; omega) (by omega) (by simp)
    refine ⟨v', w', hr, ?_, hb1.trans ((Below.refl _ _).grown hgr (by simp) (fun k hk => (World.ownsRow.lt h0 k hk).1))⟩
    have e : 0 + zs.length = zs.length := Nat.zero_add _
    rw [e] at ho
    exact ho
  · have hz : zs = [] := List.eq_nil_of_length_eq_zero (by omega)
    subst hz
    exact ⟨_, _, run_append_none _ 22 22 3 Tryd.underlying22 i hi _ ao 0 0 cap (Nat.le_refl _), h0, hb1⟩
theorem IntsArg.reads {W w : World} {v : Value} {zs : List Int} (h : IntsArg W v zs) (hb : Below W.heap.size W w) : ReadZ w v zs := by
  obtain ⟨ao, cap, rfl, hl, -⟩ := h.1.form
  refine ⟨ao, cap, rfl, hl, fun i hi => ?_⟩
  obtain ⟨b, off, e, c⟩ := h.1.at hb hi
  exact ⟨b, off, e, World.block_lt_of_cell? w _ c, c⟩
/-! ### both -/
structure Bo (W w : World) (ab rb : Nat) (A : Al) : Prop where
  x : AlAt w ab A
  ok : A.Ok
  r : RS W.heap.size w rb A.n (stA A) A.k
  ba : W.heap.size ≤ ab
  bw : Below W.heap.size W w
structure Mid (W w : World) (ab rb : Nat) (A' A : Al) : Prop where
  x : AlAt w ab A'
  r : RS W.heap.size w rb A.n (stA A) A.k
  ba : W.heap.size ≤ ab
  bw : Below W.heap.size W w
theorem Bo.code {W w w' : World} {ab rb : Nat} {A A' : Al} (h : Bo W w ab rb A) (x' : AlAt w' ab A') (o : Only ab w w') : Mid W w' ab rb A' A :=
  ⟨x', h.r.only h.x o, h.ba, h.bw.trans (o.below h.ba h.x.lt)⟩
theorem Mid.doc {W w w' : World} {ab rb : Nat} {A A' : Al} (h : Mid W w ab rb A' A) (r' : RS W.heap.size w' rb A'.n (stA A') A'.k) (f : Fr KR W.heap.size w w') (ok' : A'.Ok) : Bo W w' ab rb A' :=
  ⟨h.x.fr f, ok', r', h.ba, h.bw.trans (f.below h.bw.size)⟩
theorem Bo.below {W w w' : World} {ab rb : Nat} {A : Al} (h : Bo W w ab rb A) (b : Below w.heap.size w w') : Bo W w' ab rb A :=
  ⟨h.x.below b, h.ok, h.r.below b, h.ba, h.bw.trans (b.mono h.bw.size)⟩
theorem Mid.drew {W w : World} {ab rb : Nat} {A A' : Al} (h : Mid W w ab rb A' A) : Mid W w.drew ab rb A' A := ⟨h.x, h.r.drew, h.ba, h.bw.drew⟩
theorem Bo.drew {W w : World} {ab rb : Nat} {A : Al} (h : Bo W w ab rb A) : Bo W w.drew ab rb A := ⟨h.x, h.ok, h.r.drew, h.ba, h.bw.drew⟩
def CodeDoes (f : Nat) (args : List Value) (A A' : Al) (v : Value) : Prop := ∀ (w : World) (ab : Nat), AlAt w ab A → tabG w → Calls Tryd.prog f (Value.pointer (some ⟨ab, 0, none⟩) :: args).toArray w fun e w' => e = .returned v ∧ AlAt w' ab A' ∧ Only ab w w'
def DocDoes (f : Nat) (args : List Value) (A A' : Al) (v : Value) : Prop := ∀ (B : Nat) (w : World) (rb : Nat), RS B w rb A.n (stA A) A.k → Calls Tryd.prog f (Value.pointer (some ⟨rb, 0, none⟩) :: args).toArray w fun e w' => e = .returned v ∧ RS B w' rb A'.n (stA A') A'.k ∧ Fr KR B w w'
theorem same_code {A : Al} {w w' : World} {ab : Nat} (h : AlAt w ab A) (b : Below w.heap.size w w') : AlAt w' ab A ∧ Only ab w w' := ⟨h.below b, Only.of_below b⟩
theorem same_doc {A : Al} {B : Nat} {w w' : World} {rb : Nat} (h : RS B w rb A.n (stA A) A.k) (b : Below w.heap.size w w') : RS B w' rb A.n (stA A) A.k ∧ Fr KR B w w' := ⟨h.below b, Fr.of_below b⟩
theorem take_both {A : Al} (ok : A.Ok) : ∃ (r1 r2 : Int) (A' : Al), A'.Ok ∧ CodeDoes 15 [] A A' (.tuple #[.int .i64 r1, .int .i64 r2]) ∧ DocDoes 16 [] A A' (.tuple #[.int .i64 r1, .int .i64 r2]) := by
  by_cases hf : A.free = 0
  · exact ⟨0, 5, A, ok, fun w ab h _ => (take_full h ok hf).mono fun e w' ⟨h1, h2⟩ => ⟨h1, same_code h h2⟩, fun B w rb h => (dtake_full h ok hf).mono fun e w' ⟨h1, h2⟩ => ⟨h1, same_doc h h2⟩⟩
  · obtain ⟨b, hb, hl⟩ := ok.least hf
    exact ⟨b, 0, A.take b, (ok.take hb hl hf).1, fun w ab h hT => take_ok h ok hT hf hb hl, fun B w rb h => dtake_ok h ok hf hb hl⟩
theorem give_both {A : Al} (ok : A.Ok) (z : Int) : ∃ (r : Int) (A' : Al), A'.Ok ∧ CodeDoes 11 [.int .i64 z] A A' (.int .i64 r) ∧ DocDoes 17 [.int .i64 z] A A' (.int .i64 r) :=
  ⟨(giveR A z).1, (giveR A z).2, (giveR_ok ok z).1, fun w ab h _ => give_any h ok z, fun B w rb h => dgive_any h z⟩
theorem settle_both {A : Al} (ok : A.Ok) : ∃ (r : Int) (A' : Al), A'.Ok ∧ CodeDoes 18 [] A A' (.int .i64 r) ∧ DocDoes 19 [] A A' (.int .i64 r) :=
  ⟨(cnt A.l 4096 : Nat), A.settle, ok.settle.1, fun w ab h _ => settle_any h, fun B w rb h => dsettle_any h ok⟩
theorem reserve_both {A : Al} (ok : A.Ok) (z : Int) : ∃ (r : Int) (A' : Al), A'.Ok ∧ CodeDoes 20 [.int .i64 z] A A' (.int .i64 r) ∧ DocDoes 21 [.int .i64 z] A A' (.int .i64 r) := by
  by_cases h0 : z < 0
  · exact ⟨1, A, ok, fun w ab h _ => (reserve_bad z h0).mono fun e w' ⟨h1, h2⟩ => ⟨h1, by subst h2; exact same_code h (Below.refl _ _)⟩, fun B w rb h => (dreserve_bad z h0).mono fun e w' ⟨h1, h2⟩ => ⟨h1, by subst h2; exact same_doc h (Below.refl _ _)⟩⟩
  · by_cases h1 : (A.free : Int) < z
    · exact ⟨5, A, ok, fun w ab h _ => (reserve_full h ok z (by omega) h1).mono fun e w' ⟨h1, h2⟩ => ⟨h1, same_code h h2⟩, fun B w rb h => (dreserve_full h ok z (by omega) h1).mono fun e w' ⟨h1, h2⟩ => ⟨h1, same_doc h h2⟩⟩
    · obtain ⟨m, rfl⟩ : ∃ m : Nat, z = m := ⟨z.toNat, by omega⟩
      exact ⟨0, { A with k := A.k + m }, (ok.keep (by omega)).1, fun w ab h _ => reserve_ok h ok m (by omega), fun B w rb h => dreserve_ok h ok m (by omega)⟩
theorem release_both {A : Al} (ok : A.Ok) (z : Int) : ∃ (r : Int) (A' : Al), A'.Ok ∧ CodeDoes 22 [.int .i64 z] A A' (.int .i64 r) ∧ DocDoes 23 [.int .i64 z] A A' (.int .i64 r) := by
  by_cases h0 : z < 0 ∨ (A.k : Int) < z
  · exact ⟨1, A, ok, fun w ab h _ => (release_bad h z h0).mono fun e w' ⟨h1, h2⟩ => ⟨h1, by subst h2; exact same_code h (Below.refl _ _)⟩, fun B w rb h => (drelease_bad h z h0).mono fun e w' ⟨h1, h2⟩ => ⟨h1, by subst h2; exact same_doc h (Below.refl _ _)⟩⟩
  · obtain ⟨m, rfl⟩ : ∃ m : Nat, z = m := ⟨z.toNat, by omega⟩
    have hs := ok.sum
    have hn := ok.n2
    exact ⟨0, { A with k := A.k - m }, (ok.keep (by omega)).1, fun w ab h _ => release_ok h ok m (by omega), fun B w rb h => drelease_ok h (by omega) m (by omega)⟩
theorem OwnZ.reads' {base : Nat} {w : World} {v : Value} {zs : List Int} (h : OwnZ base w v zs) (hl : zs.length ≤ 9223372036854775807) : ReadZ w v zs := by
  obtain ⟨ao, cap, hv, _, _⟩ := ownsRow_form h
  subst hv
  refine ⟨ao, cap, rfl, hl, fun i hi => ?_⟩
  obtain ⟨-, g, e, -, c, -⟩ := h.at hi
  exact ⟨g, 0, e, World.block_lt_of_cell? w _ c, by rw [Nat.zero_add]; exact c⟩
theorem RS.low {B : Nat} {w : World} {rb n : Nat} {st : Nat → Int} {k : Nat} (h : RS B w rb n st k) {g : Nat} (hg : g < B) (i : Nat) (u : Value) : RS B (w.setCell ⟨g, i, none⟩ u) rb n st k := by
  obtain ⟨ge, n2, sv, h1, h2⟩ := h
  refine ⟨ge, n2, sv, (Below.heap_setCell _ _ _ _ (by show rb ≠ g; omega)).trans h1, ownsRow_keep h2 fun q hq => Below.heap_setCell _ _ _ _ ?_⟩
  have := (World.ownsRow.lt h2 q hq).1
  show q ≠ g
  omega
/-- both are refused in one way, or both are made -/
theorem new_both (N : Int) (zs : List Int) :
    (∃ c : Int, (∀ w v, ReadZ w v zs → Calls Tryd.prog 13 #[.int .i64 N, v] w fun e w' => e = .returned (.tuple #[.pointer none, .int .i64 c]) ∧ Below w.heap.size w w') ∧ (∀ w v, ReadZ w v zs → Calls Tryd.prog 14 #[.int .i64 N, v] w fun e w' => e = .returned (.tuple #[.pointer none, .int .i64 c]) ∧ Below w.heap.size w w')) ∨
    (∃ A : Al, A.Ok ∧ (∀ w v, ReadZ w v zs → Calls Tryd.prog 13 #[.int .i64 N, v] w fun e w' => ∃ ab, e = .returned (.tuple #[.pointer (some ⟨ab, 0, none⟩), .int .i64 0]) ∧ w.heap.size ≤ ab ∧ AlAt w' ab A ∧ Below w.heap.size w w') ∧ (∀ w v, ReadZ w v zs → Calls Tryd.prog 14 #[.int .i64 N, v] w fun e w' => ∃ rb, e = .returned (.tuple #[.pointer (some ⟨rb, 0, none⟩), .int .i64 0]) ∧ RS w.heap.size w' rb A.n (stA A) A.k ∧ Below w.heap.size w w')) := by
  by_cases hN : N < 1 ∨ 4096 < N
  · exact .inl ⟨1, fun w v _ => (new_no w N hN v).mono fun e w' ⟨h1, h2⟩ => ⟨h1, by subst h2; exact Below.refl _ _⟩, fun w v _ => (dnew_no w N hN v).mono fun e w' ⟨h1, h2⟩ => ⟨h1, by subst h2; exact Below.refl _ _⟩⟩
  · obtain ⟨n, rfl⟩ : ∃ n : Nat, N = n := ⟨N.toNat, by omega⟩
    have h1 : 1 ≤ n := by omega
    have h2 : n ≤ 4096 := by omega
    by_cases hall : ∀ i, i < zs.length → inR n (zs.getD i 0) = true
    · by_cases hc : cnt (memK zs zs.length) 4096 < zs.length
      · refine .inl ⟨8, fun w v h => (new_any h h1 h2).mono fun e w' hp => ?_, fun w v h => (dnew_any h h1 h2).mono fun e w' hp => ?_⟩
        · rcases hp with ⟨-, ⟨i, hi, hb⟩, -⟩ | ⟨-, b, ⟨e1, -⟩ | ⟨ab, -, -, -, he⟩⟩
          · rw [hall i hi] at hb; cases hb
          · exact ⟨e1, b⟩
          · omega
        · rcases hp with ⟨-, ⟨i, hi, hb⟩, -⟩ | ⟨-, b, ⟨e1, -⟩ | ⟨rb, -, -, he⟩⟩
          · rw [hall i hi] at hb; cases hb
          · exact ⟨e1, b⟩
          · omega
      · refine .inr ⟨newA n zs zs.length, (newA_ok h1 h2 hall).1, fun w v h => (new_any h h1 h2).mono fun e w' hp => ?_, fun w v h => (dnew_any h h1 h2).mono fun e w' hp => ?_⟩
        · rcases hp with ⟨-, ⟨i, hi, hb⟩, -⟩ | ⟨-, b, ⟨-, hlt⟩ | ⟨ab, e1, hab, hx, -⟩⟩
          · rw [hall i hi] at hb; cases hb
          · omega
          · exact ⟨ab, e1, hab, hx, b⟩
        · rcases hp with ⟨-, ⟨i, hi, hb⟩, -⟩ | ⟨-, b, ⟨-, hlt⟩ | ⟨rb, e1, hr, -⟩⟩
          · rw [hall i hi] at hb; cases hb
          · omega
          · exact ⟨rb, e1, hr, b⟩
    · have hbad : ∃ i, i < zs.length ∧ inR n (zs.getD i 0) = false := by
        apply Classical.byContradiction
        intro hno
        refine hall fun i hi => ?_
        cases hq : inR n (zs.getD i 0)
        · exact absurd ⟨i, hi, hq⟩ hno
        · rfl
      obtain ⟨j, hj, hjb⟩ := hbad
      refine .inl ⟨1, fun w v h => (new_any h h1 h2).mono fun e w' hp => ?_, fun w v h => (dnew_any h h1 h2).mono fun e w' hp => ?_⟩
      · rcases hp with ⟨e1, -, b⟩ | ⟨ha, -⟩
        · exact ⟨e1, b⟩
        · rw [ha j hj] at hjb; cases hjb
      · rcases hp with ⟨e1, -, b⟩ | ⟨ha, -⟩
        · exact ⟨e1, b⟩
        · rw [ha j hj] at hjb; cases hjb
end Go.Proofs.YtkmaikmbjebjeaaDoor
