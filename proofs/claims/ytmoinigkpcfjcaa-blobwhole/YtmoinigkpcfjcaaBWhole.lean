/- A blob holds what the last put that was carried out gave it, never a mixture; another one's puts don't touch it: the law cisternlaw02.BlobWhole returns true at every input. No condition. -/
import Derived.Test.YtmoinigkpcfjcaaSArgs
namespace Go.Proofs.Ytmoinigkpcfjcaa.blobWhole
open Go.RowKit Go.ChangeShapes Go.WideShapes Go.ChangeAt

theorem own : ownKnob Try.prog.godebug = none := by kernel_rfl
def sV (s : ByteArray) : Value := .string s
/-- Texts in a row, its block in Y. -/
def MayIn (Y : Nat → Prop) (w : World) (v : Value) (ms : List ByteArray) : Prop :=
  ∃ ao cap, v = .slice ao ms.length cap ∧ (0 < ms.length → ∃ b off cs fz, ao = some ⟨b, off, none⟩ ∧ Y b ∧ w.heap[b]? = some (.cells cs 9 fz) ∧ ∀ i, i < ms.length → cs[off + i]? = some (.string (ms.getD i ByteArray.empty)))
theorem MayIn.keep {Y Y' : Nat → Prop} {w w' : World} {v : Value} {ms : List ByteArray} (h : MayIn Y w v ms) (hk : ∀ (k : Nat) o, Y k → w.heap[k]? = some o → w'.heap[k]? = some o) (hY : ∀ k, Y k → Y' k) : MayIn Y' w' v ms := by
  obtain ⟨ao, cap, hv, hc⟩ := h
  refine ⟨ao, cap, hv, fun h0 => ?_⟩
  obtain ⟨b, off, cs, fz, h1, hy, h2, h3⟩ := hc h0
  exact ⟨b, off, cs, fz, h1, hY _ hy, hk _ _ hy h2, h3⟩
theorem sV_get {ms : List ByteArray} {i : Nat} (h : i < ms.length) : (ms.map sV)[i]? = some (.string (ms.getD i ByteArray.empty)) := by
  simp only [List.getElem?_map, List.getElem?_eq_getElem h, Option.map_some, List.getD_eq_getElem?_getD, Option.getD_some]; rfl
theorem sV_one (ms : List ByteArray) : ∀ u ∈ ms.map sV, u.oneCell' = true := by
  intro u hu
  simp only [List.mem_map] at hu
  obtain ⟨x, _, rfl⟩ := hu
  rfl
theorem MayIn.of_own {w : World} {base : Nat} {v : Value} {ms : List ByteArray} (h : w.ownsRow base 9 1 v ms.length (ms.map sV)) : MayIn (fun k => base ≤ k ∧ k < w.heap.size) w v ms := by
  rcases h.2 with ⟨h1, h2⟩ | ⟨g, cap, cur, hv, hb, hg, hn, hm, hs, htake⟩
  · exact ⟨none, 0, by rw [h1, h2], fun h0 => by omega⟩
  · refine ⟨_, cap, hv, fun h0 => ⟨g, 0, cur, _, rfl, ⟨hb, lt_of_heap hg⟩, hg, fun i hi => ?_⟩⟩
    have := sV_get hi
    rw [← htake, List.getElem?_take] at this
    split at this
    · simpa using this
    · cases this
theorem MayIn.form {Y : Nat → Prop} {w : World} {v : Value} {ms : List ByteArray} (h : MayIn Y w v ms) : ∃ ao cap, v = .slice ao ms.length cap ∧ True := by
  obtain ⟨ao, cap, hv, _⟩ := h; exact ⟨ao, cap, hv, trivial⟩
theorem info9 : (Try.prog.info? 9).map (fun i => (i.zero, i.size, i.bytes)) = some (some (.string ByteArray.empty), 1, 16) := by kernel_rfl
theorem info9' : ∃ i, Try.prog.info? 9 = some i ∧ i.zero = some (.string ByteArray.empty) ∧ i.size = 1 ∧ i.bytes = 16 := by
  have h := info9
  cases hq : Try.prog.info? 9 with
  | none => rw [hq] at h; simp at h
  | some i => rw [hq] at h; simp at h; exact ⟨i, rfl, h.1, h.2.1, h.2.2⟩
/-- All of one row behind another. -/
theorem may_append {Y : Nat → Prop} {w : World} {base : Nat} {v : Value} {n : Nat} {xs : List Value} (ho : w.ownsRow base 9 1 v n xs) (hb : base ≤ w.heap.size) {u : Value} {ms : List ByteArray} (hm : MayIn Y w u ms) (hn : n + ms.length ≤ 1000) (ty : TypeId) :
    ∃ v' w', (Builtin.append_ #[27, 27] ty #[v, u]).run Try.prog w = .ok v' w' ∧ w'.ownsRow base 9 1 v' (n + ms.length) (xs ++ ms.map sV) ∧ w.grownBy w' v.ownBlock := by
  obtain ⟨i, hi, hi0, hi1, hi2⟩ := info9'
  obtain ⟨ao, cap, rfl, hc⟩ := hm
  by_cases h0 : 0 < ms.length
  · obtain ⟨b, off, cs, fz, rfl, -, hh, hat⟩ := hc h0
    obtain ⟨v', w', hr, h1, h2, -, -⟩ := run_append_own_at (P := Try.prog) w base 27 ty 9 i _ 1 16 Try.underlying27 hi hi0 hi1 hi2 rfl (by decide) v n xs ho ⟨b, off, none⟩ ms.length cap (ms.map sV) (by simp)
      (fun j x hx => by
        have hj : j < ms.length := by have := (List.getElem?_eq_some_iff.1 hx).1; simpa using this
        rw [Addr.add_mid, cell_of_row w b _ cs _ _ hh, hat j hj, ← sV_get hj, hx]) (sV_one ms) (by unfold maxLen; omega) (by omega) hb
    exact ⟨v', w', hr, h1, h2⟩
  · have hms : ms = [] := List.eq_nil_of_length_eq_zero (by omega)
    subst hms
    obtain ⟨a, c, rfl, hnc⟩ : ∃ a c, v = .slice a n c ∧ n ≤ c := by
      rcases ho.2 with ⟨h1, h2⟩ | ⟨g, cap, cur, hv, _, _, hn, _⟩
      · exact ⟨none, 0, by rw [h1, h2], by omega⟩
      · exact ⟨_, cap, hv, hn⟩
    exact ⟨_, w, run_append_none w 27 ty 9 Try.underlying27 i hi _ _ n c cap hnc, by simpa using ho, ⟨rfl, rfl, rfl, Nat.le_refl _, fun _ _ _ => rfl⟩⟩
theorem own_below {w w' : World} {base : Nat} {v : Value} {n : Nat} {xs : List Value} (ho : w.ownsRow base 9 1 v n xs) (hg : w.grownBy w' v.ownBlock) {w0 : World} (hb : Below base w0 w) (hs : base ≤ w.heap.size) : Below base w0 w' :=
  hb.grown hg hs (fun k e => by
    rcases ho.2 with ⟨h1, h2⟩ | ⟨g, cap, cur, hv, hb, _⟩
    · rw [h1] at e; cases e
    · rw [hv] at e; cases e; exact hb)

/-- The store at a round's beginning. -/
abbrev IT : List UInt8 := [105, 116]
def Good (no : Bool) (ms : List ByteArray) (o : Option (List UInt8)) : Prop := (o = none ∧ no = true) ∨ ∃ m, m ∈ ms ∧ o = some m.data.toList
theorem nIT : nameB IT = true := by decide
theorem nOT : nameB [111, 116, 104, 101, 114] = true := by decide

theorem wpList_convert_eq {P : Program} {ops : Array Oper} {rest : List Oper} {o : Oper} {a : Act} {w w1 : World} {Q : Exit → Act → World → Prop} (hgd : o.guard = none) (s t : TypeId) (x : Operand) (ho : o.op = .convert s t x) (u v : Value) (hx : a.eval x = u)
    (hrun : (convert s t u).run P w = .ok v w1) (h : wpList P ops Q rest (a.put o.dst v) w1) : wpList P ops Q (o :: rest) a w :=
  wpList_value hgd (exec_convert ho hx hrun) h
theorem wpAnyH_two {P : Program} {md : Region.Mode} {ops : Array Oper} {Q : Exit → Act → World → Prop} {S : World → Prop} {fuel : Nat} {L : Array Bool} {a : Act} {w w1 w2 : World} (i j : Nat) (di dj : Option Tmp) (vi vj : Value) {oi oj : Oper} (hi : ops[i]? = some oi) (hj : ops[j]? = some oj) (hr : Region.ready md ops L = [i, j])
    (hwi : Region.wanted oi (yielded ops a.tmps) = true) (hwj : Region.wanted oj (yielded ops a.tmps) = true) (hdi : oi.dst = di) (hdj : oj.dst = dj) (hyi : (execOp a.eval oi).run P w = .ok (.value vi) w1) (hyj : (execOp a.eval oj).run P w = .ok (.value vj) w2) (hS1 : S w1) (hS2 : S w2)
    (h1 : wpAnyH P md ops Q S fuel (L.setIfInBounds i true) (a.put di vi) w1) (h2 : wpAnyH P md ops Q S fuel (L.setIfInBounds j true) (a.put dj vj) w2) : wpAnyH P md ops Q S (fuel + 1) L a w := by
  subst hdi
  subst hdj
  refine wpAnyH_ready hr (by simp) (AllReadyH.cons hi (fun K hK => ?_) (AllReadyH.cons hj (fun K hK => ?_) AllReadyH.nil))
  · rw [if_pos hwi]
    unfold Oper.wp
    rw [hyi]; exact hK.out _ _ hS1 (fun _ => h1)
  · rw [if_pos hwj]
    unfold Oper.wp
    rw [hyj]; exact hK.out _ _ hS2 (fun _ => h2)
theorem exec_build1 {P : Program} {w w1 : World} {ρ : Operand → Value} {o : Oper} {t : TypeId} {x : Operand} {u v : Value} (ho : o.op = .buildSlice t 1 #[(0, x)]) (hx : ρ x = u) (hrun : (Instr.buildSlice t 1 #[(0, u)]).run P w = .ok v w1) : (execOp ρ o).run P w = .ok (.value v) w1 := by
  unfold execOp
  simp [ho, hx, hrun]
theorem exec_build0 {P : Program} {w w1 : World} {ρ : Operand → Value} {o : Oper} {t : TypeId} {v : Value} (ho : o.op = .buildSlice t 0 #[]) (hrun : (Instr.buildSlice t 0 #[]).run P w = .ok v w1) : (execOp ρ o).run P w = .ok (.value v) w1 := by
  unfold execOp
  simp [ho, hrun]
theorem build1 (w : World) (d : ByteArray) : (Instr.buildSlice 27 1 #[(0, .string d)]).run Try.prog w = .ok (.slice (some ⟨w.heap.size, 0, none⟩) 1 1) (w.alloc (.cells #[.string d] 9)) := by kernel_rfl
theorem build0 (w : World) : (Instr.buildSlice 27 0 #[]).run Try.prog w = .ok (.slice (some ⟨w.heap.size, 0, none⟩) 0 0) (w.alloc (.cells #[] 9)) := by kernel_rfl
theorem may_one {Y : Nat → Prop} (w : World) (d : ByteArray) (hY : Y w.heap.size) : MayIn Y (w.alloc (.cells #[.string d] 9)) (.slice (some ⟨w.heap.size, 0, none⟩) 1 1) [d] := by
  refine ⟨_, 1, rfl, fun _ => ⟨w.heap.size, 0, _, _, rfl, hY, heap_alloc_new w _, fun i hi => ?_⟩⟩
  have : i = 0 := by simpa using hi
  subst this
  rfl
theorem own_made (w : World) : (w.alloc (.cells #[] 9)).ownsRow w.heap.size 9 1 (.slice (some ⟨w.heap.size, 0, none⟩) 0 0) 0 [] := World.ownsRow_made w #[] 0 (Nat.le_refl _) (by simp [maxLen]) rfl
section
variable {bl : List UInt8 → Option (List UInt8)} {c : Nat} {z : Int} {bs : List UInt8}
theorem put0 (hq : rest3 z = 0) (hb : bs.length ≤ 60000) : (⟨bl, 0, ByteArray.empty, [z], c⟩ : Sto).putE (ByteArray.mk #[105, 116]) bs = 0 ∧ (⟨bl, 0, ByteArray.empty, [z], c⟩ : Sto).put (ByteArray.mk #[105, 116]) bs = ⟨putF bl IT bs, 0, ByteArray.empty, [], c + 1⟩ := by
  have h1 : (⟨bl, 0, ByteArray.empty, [z], c⟩ : Sto).out = 0 := hq
  unfold Sto.putE Sto.put
  rw [show nameB (ByteArray.mk #[105, 116]).data.toList = true from nIT, if_pos rfl, if_pos rfl, if_pos hb, if_pos hb]
  unfold errOf Sto.after
  rw [h1]
  exact ⟨rfl, rfl⟩
theorem put1 (hq : rest3 z ≠ 0) (hb : bs.length ≤ 60000) : (⟨bl, 0, ByteArray.empty, [z], c⟩ : Sto).putE (ByteArray.mk #[105, 116]) bs = 15 ∧ ∃ bl', (⟨bl, 0, ByteArray.empty, [z], c⟩ : Sto).put (ByteArray.mk #[105, 116]) bs = ⟨bl', 0, ByteArray.empty, [], c + 1⟩ ∧ (bl' IT = bl IT ∨ bl' IT = some bs) := by
  have h1 : (⟨bl, 0, ByteArray.empty, [z], c⟩ : Sto).out ≠ 0 := hq
  unfold Sto.putE Sto.put
  rw [show nameB (ByteArray.mk #[105, 116]).data.toList = true from nIT, if_pos rfl, if_pos rfl, if_pos hb, if_pos hb]
  unfold errOf Sto.after
  rw [if_neg h1]
  refine ⟨rfl, ?_⟩
  split
  · exact ⟨bl, rfl, Or.inl rfl⟩
  · exact ⟨putF bl IT bs, rfl, Or.inr (by simp [putF])⟩
theorem putO : (⟨bl, 0, ByteArray.empty, [], c⟩ : Sto).putE (ByteArray.mk #[111, 116, 104, 101, 114]) [111] = 0 ∧ ∃ bl', (⟨bl, 0, ByteArray.empty, [], c⟩ : Sto).put (ByteArray.mk #[111, 116, 104, 101, 114]) [111] = ⟨bl', 0, ByteArray.empty, [], c + 1⟩ ∧ bl' IT = bl IT := by
  unfold Sto.putE Sto.put
  rw [show nameB (ByteArray.mk #[111, 116, 104, 101, 114]).data.toList = true from nOT, if_pos rfl, if_pos rfl, if_pos (by decide), if_pos (by decide)]
  exact ⟨rfl, putF bl [111, 116, 104, 101, 114] [111], rfl, by simp [putF]⟩
theorem getI : (⟨bl, 0, ByteArray.empty, [], c⟩ : Sto).get (ByteArray.mk #[105, 116]) = ⟨bl, 0, ByteArray.empty, [], c + 1⟩ ∧ (bl IT = none → (⟨bl, 0, ByteArray.empty, [], c⟩ : Sto).getE (ByteArray.mk #[105, 116]) = 7) ∧ ∀ t, bl IT = some t → (⟨bl, 0, ByteArray.empty, [], c⟩ : Sto).getE (ByteArray.mk #[105, 116]) = 0 ∧ (⟨bl, 0, ByteArray.empty, [], c⟩ : Sto).getB (ByteArray.mk #[105, 116]) = t := by
  have h0 : nameB (ByteArray.mk #[105, 116]).data.toList = true := nIT
  have h1 : (⟨bl, 0, ByteArray.empty, [], c⟩ : Sto).out = 0 := rfl
  refine ⟨?_, fun h => ?_, fun t h => ⟨?_, ?_⟩⟩
  · unfold Sto.get; rw [h0]; rfl
  · unfold Sto.getE; rw [h0, if_pos rfl, h1, if_pos rfl, show (⟨bl, 0, ByteArray.empty, [], c⟩ : Sto).blobs (ByteArray.mk #[105, 116]).data.toList = none from h]; rfl
  · unfold Sto.getE; rw [h0, if_pos rfl, h1, if_pos rfl, show (⟨bl, 0, ByteArray.empty, [], c⟩ : Sto).blobs (ByteArray.mk #[105, 116]).data.toList = some t from h]; rfl
  · unfold Sto.getB; rw [h0, if_pos rfl, h1, if_pos rfl, show (⟨bl, 0, ByteArray.empty, [], c⟩ : Sto).blobs (ByteArray.mk #[105, 116]).data.toList = some t from h]; rfl
end
theorem Good.add {no : Bool} {ms : List ByteArray} {o o' : Option (List UInt8)} {d : ByteArray} (h : Good no ms o) (h' : o' = o ∨ o' = some d.data.toList) : Good no (ms ++ [d]) o' := by
  rcases h' with rfl | rfl
  · rcases h with h | ⟨m, hm, e⟩
    · exact Or.inl h
    · exact Or.inr ⟨m, List.mem_append_left _ hm, e⟩
  · exact Or.inr ⟨d, List.mem_append_right _ (List.mem_singleton.2 rfl), rfl⟩

set_option maxRecDepth 20000 in
set_option maxHeartbeats 16000000 in
theorem walk (v0 : Value) (z0 : List ByteArray) (v1 : Value) (z1 : List Int) (W : World) (w0 : StrsArg W v0 z0) (w1 : IntsArg W v1 z1) :
    Calls Try.prog 6 #[v0, v1] W fun e w' => e = .returned (.bool true) ∧ Below W.heap.size W w' := by
  obtain ⟨ao, cap, rfl, hlen, -⟩ := w0.1.form
  obtain ⟨ao1, cap1, rfl, hlen1, -⟩ := w1.1.form
  go_enter Try.func6, Try.ntmps6
  go_wp2_with fail
  refine (known_any W).mono ?_
  rintro e wa ⟨rfl, ba⟩
  go_wp2_with fail
  refine (new_any wa).mono ?_
  rintro e wb ⟨rfl, hb, bb⟩
  have bc : Below W.heap.size W wb := ba.trans (bb.mono ba.size)
  replace hb := hb.less (X' := fun k => k < W.heap.size) (fun k hk => Nat.lt_of_lt_of_le hk ba.size)
  go_wp2
  go_loopw [6, 7, 8] (fun nv mv iv wr => ∃ k : Nat, k ≤ z0.length ∧ k ≤ 40 ∧ iv = .int .i64 k ∧ ∃ no ms X bl c, nv = .bool no ∧ (∀ j, j < W.heap.size → X j) ∧ MayIn X wr mv ms ∧ ms.length ≤ k ∧ (∀ m ∈ ms, m.size ≤ 5000) ∧ c ≤ 3 * k ∧
      StoAt X wr wa.heap.size ⟨bl, 0, ByteArray.empty, [], c⟩ (2 * k) ∧ Good no ms (bl IT) ∧ Below W.heap.size W wr) (fun _ _ iv _ => 40 - (intOf iv).toNat)
  case atStart => exact ⟨0, Nat.zero_le _, Nat.zero_le _, rfl, true, [], _, _, _, rfl, fun j hj => hj, ⟨none, 0, rfl, fun h => by simp at h⟩, Nat.le_refl _, by simp, Nat.le_refl _, hb, Or.inl ⟨rfl, rfl⟩, bc⟩
  case round =>
    clear hb bc ba bb
    obtain ⟨k, hk1, hk2, rfl, no, ms, X, bl, c, rfl, hX, hmay, hml, hms, hcc, hs, hgood, bk⟩ := hrel
    by_cases hlt : k < z0.length
    · by_cases h40 : k < 40
      · obtain ⟨b, off, rfl, hcell⟩ := w0.1.at bk hlt
        have hds := str_size w0.2 k
        obtain ⟨d, hd⟩ : ∃ f, z0.getD k ByteArray.empty = f := ⟨_, rfl⟩
        have hcA : ∀ w', Below W.heap.size W w' → w'.cell? ⟨b, off + k, none⟩ = some (.string d) := fun w' hb => by
          obtain ⟨b', off', e, h⟩ := w0.1.at hb hlt
          cases e
          rw [hd] at h; exact h
        rw [hd] at hcell hds
        clear hd
        by_cases h5 : d.size ≤ 5000
        · have h5' : decide ((5000 : Int) < (d.size : Int)) = false := by simp; omega
          have hcv := conv_lit
          by_cases hz1 : k < z1.length
          · obtain ⟨b1, off1, rfl, hcell1⟩ := w1.1.at bk hz1
            have hrg : -9223372036854775808 ≤ z1.getD k 0 ∧ z1.getD k 0 ≤ 9223372036854775807 := by
              rw [List.getD_eq_getElem?_getD, List.getElem?_eq_getElem hz1]; exact w1.2.1 _ (List.getElem_mem hz1)
            obtain ⟨z, hz⟩ : ∃ f, z1.getD k 0 = f := ⟨_, rfl⟩
            rw [hz] at hcell1 hrg
            clear hz
            go_wp2_with fail
            have hq0 := script_any (hs.below (below_alloc wr (.cells #[.int .i64 z] 3))) (ints_lit1 wr z hrg) (by show (0 + 1) * 8 ≤ 140737488355328; decide)
            refine hq0.mono ?_
            rintro e w2 ⟨rfl, hs2, kp2⟩
            have b2 : Below W.heap.size W w2 := below_step bk (below_alloc wr _) kp2 bk.size hX
            replace hs2 : StoAt X w2 wa.heap.size ⟨bl, 0, ByteArray.empty, [z], c⟩ (2 * k) := hs2
            have hmay2 := (hmay.keep (fun k o _ ho => ((below_alloc wr _).block k (lt_of_heap ho)).trans ho) (fun _ h => h)).keep (fun k o hx ho => kp2.keep k o hx ho) (fun _ h => h)
            have hcl2 := hcA w2 b2
            obtain ⟨vb, w3, hrun3, by3, bl3⟩ := run_bytes_of w2 d hds
            have RUN3 := Lib.hid hrun3
            clear hq0 hs kp2 hmay bk hrun3
            go_wp2_with (with_reducible refine wpList_convert_eq rfl 9 36 (.tmp 50) rfl (.string d) vb rfl RUN3.out ?_)
            clear hcl2
            have hs3 := hs2.wd bl3
            have hmay3 := hmay2.keep (Y' := Wd X w2.heap.size w3.heap.size) (fun k o _ ho => (bl3.block k (lt_of_heap ho)).trans ho) (fun _ h => Or.inl h)
            have by3' := by3.mono (Y' := Wd X w2.heap.size w3.heap.size) (fun _ _ h => Or.inr h)
            have hX3 : ∀ j, j < W.heap.size → Wd X w2.heap.size w3.heap.size j := fun j hj => Or.inl (hX j hj)
            have b3 : Below W.heap.size W w3 := b2.trans (bl3.mono b2.size)
            generalize Wd X w2.heap.size w3.heap.size = X4 at hs3 hmay3 by3' hX3
            have hX4 := hX3
            have hp := put_any hs3 (by show c < _; omega) (by unfold maxLen; omega) (ByteArray.mk #[105, 116]) (by decide) by3'
            have hbs : d.data.toList.length ≤ 60000 := by simp; omega
            by_cases hq : rest3 z = 0
            · obtain ⟨q1, q2⟩ := put0 (bl := bl) (c := c) hq hbs
              rw [q1, q2] at hp
              clear q1 q2 hq hbs
              refine hp.mono ?_
              rintro e w4 ⟨rfl, hs4, kp4⟩
              have b4 : Below W.heap.size W w4 := below_step b3 (Below.refl _ _) kp4 b3.size hX4
              clear hp hs3 kp4 b3 hmay3 by3 by3' bl3 hs2 hmay2 b2 hX hX3 RUN3
              go_wp2_with fail
              have hS : Below w4.heap.size w4 w4.drew := (Below.refl _ _).drew
              have hcB : ∀ w', Below w4.heap.size w4 w' → w'.cell? ⟨b, off + k, none⟩ = some (.string d) := fun w' h => hcA w' (b4.trans (h.mono b4.size))
              refine wp_region_held_drew (S := fun w' => Below w4.heap.size w4 w') mixed hS (fun _ => ?_)
              show wpAnyH _ _ _ _ _ 7 (Array.replicate 7 false) _ _
              refine wpAnyH_take_d 0 (some 55) (.slice (some ⟨b, off, none⟩) z0.length cap) rfl (by kernel_rfl) (by kernel_rfl) (by kernel_rfl) (by kernel_rfl) rfl (fun _ _ _ h => h) (fun _ _ => by kernel_rfl) (by exact hS) ?_
              simp only [Act.put, List.setIfInBounds_toArray, List.set_cons_succ, List.set_cons_zero]
              refine wpAnyH_take_d 1 (some 56) (.int .i64 k) rfl (by kernel_rfl) (by kernel_rfl) (by kernel_rfl) (by kernel_rfl) rfl (fun _ _ _ h => h) (fun _ _ => by kernel_rfl) (by exact hS) ?_
              simp only [Act.put, List.setIfInBounds_toArray, List.set_cons_succ, List.set_cons_zero]
              refine wpAnyH_take_d 2 (some 57) (.pointer (some ⟨b, off + k, none⟩)) rfl (by kernel_rfl) (by kernel_rfl) (by kernel_rfl) (by kernel_rfl) rfl (fun _ _ _ h => h) (fun w' h => exec_indexAddr rfl rfl rfl hlt Try.underlying27 (by kernel_rfl)) (by exact hS) ?_
              simp only [Act.put, List.setIfInBounds_toArray, List.set_cons_succ, List.set_cons_zero]
              refine wpAnyH_take_d 3 (some 58) (.string d) rfl (by kernel_rfl) (by kernel_rfl) (by kernel_rfl) (by kernel_rfl) rfl (fun _ _ _ h => h) (fun w' h => exec_load_cell rfl rfl (hcB w' h) Try.underlying9 rfl) (by exact hS) ?_
              simp only [Act.put, List.setIfInBounds_toArray, List.set_cons_succ, List.set_cons_zero]
              refine wpAnyH_take_d 5 (some 6) (.bool false) rfl (by kernel_rfl) (by kernel_rfl) (by kernel_rfl) (by kernel_rfl) rfl (fun _ _ _ h => h) (fun _ _ => by kernel_rfl) (by exact hS) ?_
              simp only [Act.put, List.setIfInBounds_toArray, List.set_cons_succ, List.set_cons_zero]
              have hb5 : Below w4.heap.size w4 (w4.drew.alloc (.cells #[.string d] 9)) := ((Below.refl _ _).drew).alloc (by simp) _
              have hS : Below w4.heap.size w4 (w4.drew.alloc (.cells #[.string d] 9)) := hb5
              refine wpAnyH_one 4 (some 59) (.slice (some ⟨w4.heap.size, 0, none⟩) 1 1) rfl (by kernel_rfl) (by kernel_rfl) rfl (exec_build1 rfl rfl (build1 w4.drew d)) (by exact hS) ?_
              simp only [Act.put, List.setIfInBounds_toArray, List.set_cons_succ, List.set_cons_zero]
              refine wpAnyH_take_d 6 (some 7) (.slice (some ⟨w4.heap.size, 0, none⟩) 1 1) rfl (by kernel_rfl) (by kernel_rfl) (by kernel_rfl) (by kernel_rfl) rfl (fun _ _ _ h => h) (fun _ _ => by kernel_rfl) (by exact hS) ?_
              simp only [Act.put, List.setIfInBounds_toArray, List.set_cons_succ, List.set_cons_zero]
              refine wpAnyH_done (by kernel_rfl) ?_ _
              have hmay5 : MayIn (Wd X4 w4.heap.size (w4.drew.alloc (.cells #[.string d] 9)).heap.size) (w4.drew.alloc (.cells #[.string d] 9)) (.slice (some ⟨w4.heap.size, 0, none⟩) 1 1) [d] := may_one w4.drew d (wd_in (Nat.le_refl _) (by simp))
              generalize w4.drew.alloc (.cells #[.string d] 9) = w5 at *
              have hs5 := hs4.wd hb5
              have hX5 : ∀ j, j < W.heap.size → Wd X4 w4.heap.size w5.heap.size j := fun j hj => Or.inl (hX4 j hj)
              have b5 : Below W.heap.size W w5 := b4.trans (hb5.mono b4.size)
              generalize Wd X4 w4.heap.size w5.heap.size = X5 at hs5 hX5 hmay5
              obtain ⟨ms5, hms5e⟩ : ∃ x, [d] = x := ⟨_, rfl⟩
              obtain ⟨bl5, hbl5⟩ : ∃ x, putF bl IT d.data.toList = x := ⟨_, rfl⟩
              have good5 : Good false ms5 (bl5 IT) := by rw [← hms5e, ← hbl5]; exact Or.inr ⟨d, List.mem_singleton.2 rfl, by simp [putF]⟩
              have hml5 : ms5.length ≤ k + 1 := by rw [← hms5e]; simp
              have hms5 : ∀ m ∈ ms5, m.size ≤ 5000 := by
                intro m hm
                rw [← hms5e] at hm
                rw [List.mem_singleton.1 hm]; exact h5
              obtain ⟨mv5, hmv5⟩ : ∃ x, Value.slice (some ⟨w4.heap.size, 0, none⟩) 1 1 = x := ⟨_, rfl⟩
              rw [hmv5] at hmay5 ⊢
              rw [hms5e] at hmay5
              rw [hbl5] at hs5
              clear hS hb5 hs4 hX4 hms hml hgood hms5e hbl5 b4 hcA hcB hmv5
              go_wp2_with fail
              have hp := put_any (hs5.wd (below_alloc w5 (.cells #[byteV 111] 5 (1, 2)))) (by show c + 1 < _; omega) (by unfold maxLen; omega) (ByteArray.mk #[111, 116, 104, 101, 114]) (by decide) (bytes_lit1 w5 111)
              obtain ⟨q1, bl6, q2, q3⟩ := putO (bl := bl5) (c := c + 1)
              rw [q1, q2] at hp
              clear q1 q2
              refine hp.mono ?_
              rintro e w6 ⟨rfl, hs6, kp6⟩
              have b6 : Below W.heap.size W w6 := below_step b5 (below_alloc w5 _) kp6.unwd b5.size hX5
              have hmay6 := (hmay5.keep (fun k o _ ho => ((below_alloc w5 _).block k (lt_of_heap ho)).trans ho) (fun _ h => h)).keep (fun k o hx ho => kp6.unwd.keep k o hx ho) (fun _ h => h)
              replace hs6 := hs6.unwd
              have good6 : Good false ms5 (bl6 IT) := by rw [q3]; exact good5
              clear hp hs5 kp6 b5 hmay5 q3 good5 hcv
              obtain ⟨g1, g2, g3⟩ := getI (bl := bl6) (c := c + 1 + 1)
              have hsz : ∀ t, bl6 IT = some t → t.length ≤ 1000000000000 := fun t ht => by
                rcases good6 with ⟨h1, _⟩ | ⟨m, hm, h1⟩
                · rw [h1] at ht; cases ht
                · rw [h1] at ht; cases ht; have := hms5 m hm; simp; omega
              have hg := get_any hs6 (by show c + 1 + 1 < _; omega) (ByteArray.mk #[105, 116]) (by decide) hsz
              rw [g1] at hg
              go_wp2_with fail
              refine hg.mono ?_
              rintro e w7 ⟨v7, m7, rfl, hm7, hs7, by7, kp7⟩
              have b7 : Below W.heap.size W w7 := below_step b6 (Below.refl _ _) kp7 b6.size hX5
              have hmay7 := hmay6.keep (Y' := Wd X5 m7 w7.heap.size) (fun k o hx ho => kp7.keep k o hx ho) (fun _ h => Or.inl h)
              have hX7 : ∀ j, j < W.heap.size → Wd X5 m7 w7.heap.size j := fun j hj => Or.inl (hX5 j hj)
              generalize Wd X5 m7 w7.heap.size = X7 at hs7 by7 hmay7 hX7
              clear hg hs6 kp7 b6 hmay6 hm7 g1 hsz hX5
              obtain ⟨mo, mcap, rfl, hmrow⟩ := hmay7.form
              rcases good6 with ⟨hn, hno⟩ | ⟨mt, hmt, hn⟩
              · cases hno
              · obtain ⟨g4, g5⟩ := g3 _ hn
                rw [g4] at *
                rw [g5] at by7
                have GOOD := Lib.hid (show Good false ms5 (bl6 IT) from Or.inr ⟨mt, hmt, hn⟩)
                clear g2 g3 g4 g5
                go_wp2
                go_loopw [13, 14] (fun fv jv wx => ∃ j : Nat, j ≤ ms5.length ∧ jv = .int .i64 j ∧ ∃ fb, fv = .bool fb ∧ (fb = true ∨ ∀ i, i < j → (ms5.getD i ByteArray.empty).data.toList ≠ mt.data.toList) ∧ StoAt X7 wx wa.heap.size ⟨bl6, 0, ByteArray.empty, [], c + 1 + 1 + 1⟩ (2 * k + 1 + 1) ∧ MayIn X7 wx (.slice mo ms5.length mcap) ms5 ∧ BytesIn X7 wx v7 mt.data.toList ∧ Below W.heap.size W wx) (fun _ jv _ => ms5.length - (intOf jv).toNat)
                case atStart => exact ⟨0, Nat.zero_le _, rfl, false, rfl, Or.inr (fun i hi => by omega), hs7, hmay7, by7, b7⟩
                case round =>
                  clear hs7 hmay7 b7 by7
                  obtain ⟨j, hj, rfl, fb, rfl, hfb, hsx, hmx, byx, bx⟩ := hrel
                  by_cases hjl : j < ms5.length
                  · cases fb
                    · have hnot : ∀ i, i < j → (ms5.getD i ByteArray.empty).data.toList ≠ mt.data.toList := by
                        rcases hfb with h | h
                        · cases h
                        · exact h
                      obtain ⟨mo', mcap', e, hrow⟩ := hmx
                      have hrow' := hrow (by omega)
                      obtain ⟨bb, boff, bcs, bfz, rfl, hyb, hhb, hatb⟩ := hrow'
                      cases e
                      have hmx : MayIn X7 wr (.slice (some ⟨bb, boff, none⟩) ms5.length mcap) ms5 := ⟨_, _, rfl, hrow⟩
                      have hcl : wr.drew.cell? ⟨bb, boff + j, none⟩ = some (.string (ms5.getD j ByteArray.empty)) := cell_row hhb _ (hatb j hjl)
                      have hcv := run_string_at (w := wr.drew) byx.at
                      obtain ⟨tj, htj⟩ : ∃ t, ms5.getD j ByteArray.empty = t := ⟨_, rfl⟩
                      obtain ⟨bq, hbq⟩ : ∃ bq, ((strOf mt.data.toList).toList == tj.toList) = bq := ⟨_, rfl⟩
                      rw [htj] at hcl
                      have hnx : bq = true ∨ ∀ i, i < j + 1 → (ms5.getD i ByteArray.empty).data.toList ≠ mt.data.toList := by
                        cases bq
                        · refine Or.inr (fun i hi => ?_)
                          by_cases hij : i < j
                          · exact hnot i hij
                          · obtain rfl : i = j := by omega
                            rw [htj]
                            intro e
                            rw [ByteArray.toList_eq, ByteArray.toList_eq, e] at hbq
                            simp [strOf] at hbq
                        · exact Or.inl rfl
                      go_wp2_with fail
                      have hS : wr.drew = wr.drew := rfl
                      refine wp_region_held_drew (S := fun w' => w' = wr.drew) mixed hS (fun _ => ?_)
                      show wpAnyH _ _ _ _ _ 15 (Array.replicate 15 false) _ _
                      refine wpAnyH_take_d 0 (some 90) (.bool false) rfl (by kernel_rfl) (by kernel_rfl) (by kernel_rfl) (by kernel_rfl) rfl (fun _ _ _ h => h) (fun _ _ => by kernel_rfl) (by exact hS) ?_
                      simp only [Act.put, List.setIfInBounds_toArray, List.set_cons_succ, List.set_cons_zero]
                      refine wpAnyH_take_d 1 (some 91) (.bool false) rfl (by kernel_rfl) (by kernel_rfl) (by kernel_rfl) (by kernel_rfl) rfl (fun _ _ _ h => h) (fun _ _ => by kernel_rfl) (by exact hS) ?_
                      simp only [Act.put, List.setIfInBounds_toArray, List.set_cons_succ, List.set_cons_zero]
                      refine wpAnyH_take_d 2 (some 92) (.int .i64 0) rfl (by kernel_rfl) (by kernel_rfl) (by kernel_rfl) (by kernel_rfl) rfl (fun _ _ _ h => h) (fun _ _ => by kernel_rfl) (by exact hS) ?_
                      simp only [Act.put, List.setIfInBounds_toArray, List.set_cons_succ, List.set_cons_zero]
                      refine wpAnyH_take_d 3 (some 93) (.bool true) rfl (by kernel_rfl) (by kernel_rfl) (by kernel_rfl) (by kernel_rfl) rfl (fun _ _ _ h => h) (fun _ _ => by kernel_rfl) (by exact hS) ?_
                      simp only [Act.put, List.setIfInBounds_toArray, List.set_cons_succ, List.set_cons_zero]
                      refine wpAnyH_take_d 4 (some 94) (.bool true) rfl (by kernel_rfl) (by kernel_rfl) (by kernel_rfl) (by kernel_rfl) rfl (fun _ _ _ h => h) (fun _ _ => by kernel_rfl) (by exact hS) ?_
                      simp only [Act.put, List.setIfInBounds_toArray, List.set_cons_succ, List.set_cons_zero]
                      refine wpAnyH_take_d 5 (some 95) (v7) rfl (by kernel_rfl) (by kernel_rfl) (by kernel_rfl) (by kernel_rfl) rfl (fun _ _ _ h => h) (fun _ _ => by kernel_rfl) (by exact hS) ?_
                      simp only [Act.put, List.setIfInBounds_toArray, List.set_cons_succ, List.set_cons_zero]
                      refine wpAnyH_take_d 6 (some 96) (.string (strOf mt.data.toList)) rfl (by kernel_rfl) (by kernel_rfl) (by kernel_rfl) (by kernel_rfl) rfl (fun _ _ _ h => h) (fun w' h => by subst h; exact exec_convert rfl rfl hcv) (by exact hS) ?_
                      simp only [Act.put, List.setIfInBounds_toArray, List.set_cons_succ, List.set_cons_zero]
                      refine wpAnyH_take_d 7 (some 97) (.slice (some ⟨bb, boff, none⟩) ms5.length mcap) rfl (by kernel_rfl) (by kernel_rfl) (by kernel_rfl) (by kernel_rfl) rfl (fun _ _ _ h => h) (fun _ _ => by kernel_rfl) (by exact hS) ?_
                      simp only [Act.put, List.setIfInBounds_toArray, List.set_cons_succ, List.set_cons_zero]
                      refine wpAnyH_take_d 8 (some 98) (.int .i64 j) rfl (by kernel_rfl) (by kernel_rfl) (by kernel_rfl) (by kernel_rfl) rfl (fun _ _ _ h => h) (fun _ _ => by kernel_rfl) (by exact hS) ?_
                      simp only [Act.put, List.setIfInBounds_toArray, List.set_cons_succ, List.set_cons_zero]
                      refine wpAnyH_take_d 9 (some 99) (.pointer (some ⟨bb, boff + j, none⟩)) rfl (by kernel_rfl) (by kernel_rfl) (by kernel_rfl) (by kernel_rfl) rfl (fun _ _ _ h => h) (fun w' h => exec_indexAddr rfl rfl rfl hjl Try.underlying27 (by kernel_rfl)) (by exact hS) ?_
                      simp only [Act.put, List.setIfInBounds_toArray, List.set_cons_succ, List.set_cons_zero]
                      refine wpAnyH_take_d 10 (some 100) (.string tj) rfl (by kernel_rfl) (by kernel_rfl) (by kernel_rfl) (by kernel_rfl) rfl (fun _ _ _ h => h) (fun w' h => by subst h; exact exec_load_cell rfl rfl hcl Try.underlying9 rfl) (by exact hS) ?_
                      simp only [Act.put, List.setIfInBounds_toArray, List.set_cons_succ, List.set_cons_zero]
                      refine wpAnyH_take_d 11 (some 101) (.bool bq) rfl (by kernel_rfl) (by kernel_rfl) (by kernel_rfl) (by kernel_rfl) rfl (fun _ _ _ h => h) (fun w' h => exec_streq rfl rfl rfl hbq) (by exact hS) ?_
                      simp only [Act.put, List.setIfInBounds_toArray, List.set_cons_succ, List.set_cons_zero]
                      refine wpAnyH_take_d 12 (some 102) (.bool bq) rfl (by kernel_rfl) (by kernel_rfl) (by kernel_rfl) (by kernel_rfl) rfl (fun _ _ _ h => h) (fun _ _ => by kernel_rfl) (by exact hS) ?_
                      simp only [Act.put, List.setIfInBounds_toArray, List.set_cons_succ, List.set_cons_zero]
                      refine wpAnyH_take_d 13 (some 103) (.bool bq) rfl (by kernel_rfl) (by kernel_rfl) (by kernel_rfl) (by kernel_rfl) rfl (fun _ _ _ h => h) (fun _ _ => by kernel_rfl) (by exact hS) ?_
                      simp only [Act.put, List.setIfInBounds_toArray, List.set_cons_succ, List.set_cons_zero]
                      refine wpAnyH_take_d 14 (some 13) (.bool bq) rfl (by kernel_rfl) (by kernel_rfl) (by kernel_rfl) (by kernel_rfl) rfl (fun _ _ _ h => h) (fun _ _ => by kernel_rfl) (by exact hS) ?_
                      simp only [Act.put, List.setIfInBounds_toArray, List.set_cons_succ, List.set_cons_zero]
                      refine wpAnyH_done (by kernel_rfl) ?_ _
                      have SX := Lib.hid hsx.drew
                      have MX := Lib.hid (hmx.keep (w' := wr.drew) (fun _ _ _ h => h) (fun _ h => h))
                      have YX := Lib.hid (byx.keep (w' := wr.drew) (fun _ _ _ h => h))
                      have BX := Lib.hid bx.drew
                      have NX := Lib.hid hnx
                      clear hsx hmx bx byx hnx hnot hcl hcv hrow hhb hatb hbq htj
                      go_wp2
                      go_roundw
                      case rel => exact ⟨j + 1, by omega, by go_num, bq, rfl, NX.out, SX.out, MX.out, YX.out, BX.out⟩
                      case measure => simp [intOf]; omega
                    · go_wp2_with fail
                      have hS : wr.drew = wr.drew := rfl
                      refine wp_region_held_drew (S := fun w' => w' = wr.drew) mixed hS (fun _ => ?_)
                      show wpAnyH _ _ _ _ _ 15 (Array.replicate 15 false) _ _
                      refine wpAnyH_take_d 0 (some 90) (.bool true) rfl (by kernel_rfl) (by kernel_rfl) (by kernel_rfl) (by kernel_rfl) rfl (fun _ _ _ h => h) (fun _ _ => by kernel_rfl) (by exact hS) ?_
                      simp only [Act.put, List.setIfInBounds_toArray, List.set_cons_succ, List.set_cons_zero]
                      refine wpAnyH_take_d 1 (some 91) (.bool true) rfl (by kernel_rfl) (by kernel_rfl) (by kernel_rfl) (by kernel_rfl) rfl (fun _ _ _ h => h) (fun _ _ => by kernel_rfl) (by exact hS) ?_
                      simp only [Act.put, List.setIfInBounds_toArray, List.set_cons_succ, List.set_cons_zero]
                      refine wpAnyH_skip_d 2 (some 92) rfl (by kernel_rfl) (by kernel_rfl) (by kernel_rfl) (by kernel_rfl) rfl (fun _ _ _ h => h) (by exact hS) ?_
                      simp only [Act.put, List.setIfInBounds_toArray, List.set_cons_succ, List.set_cons_zero]
                      refine wpAnyH_skip_d 3 (some 93) rfl (by kernel_rfl) (by kernel_rfl) (by kernel_rfl) (by kernel_rfl) rfl (fun _ _ _ h => h) (by exact hS) ?_
                      simp only [Act.put, List.setIfInBounds_toArray, List.set_cons_succ, List.set_cons_zero]
                      refine wpAnyH_skip_d 4 (some 94) rfl (by kernel_rfl) (by kernel_rfl) (by kernel_rfl) (by kernel_rfl) rfl (fun _ _ _ h => h) (by exact hS) ?_
                      simp only [Act.put, List.setIfInBounds_toArray, List.set_cons_succ, List.set_cons_zero]
                      refine wpAnyH_skip_d 5 (some 95) rfl (by kernel_rfl) (by kernel_rfl) (by kernel_rfl) (by kernel_rfl) rfl (fun _ _ _ h => h) (by exact hS) ?_
                      simp only [Act.put, List.setIfInBounds_toArray, List.set_cons_succ, List.set_cons_zero]
                      refine wpAnyH_skip_d 6 (some 96) rfl (by kernel_rfl) (by kernel_rfl) (by kernel_rfl) (by kernel_rfl) rfl (fun _ _ _ h => h) (by exact hS) ?_
                      simp only [Act.put, List.setIfInBounds_toArray, List.set_cons_succ, List.set_cons_zero]
                      refine wpAnyH_skip_d 7 (some 97) rfl (by kernel_rfl) (by kernel_rfl) (by kernel_rfl) (by kernel_rfl) rfl (fun _ _ _ h => h) (by exact hS) ?_
                      simp only [Act.put, List.setIfInBounds_toArray, List.set_cons_succ, List.set_cons_zero]
                      refine wpAnyH_skip_d 8 (some 98) rfl (by kernel_rfl) (by kernel_rfl) (by kernel_rfl) (by kernel_rfl) rfl (fun _ _ _ h => h) (by exact hS) ?_
                      simp only [Act.put, List.setIfInBounds_toArray, List.set_cons_succ, List.set_cons_zero]
                      refine wpAnyH_skip_d 9 (some 99) rfl (by kernel_rfl) (by kernel_rfl) (by kernel_rfl) (by kernel_rfl) rfl (fun _ _ _ h => h) (by exact hS) ?_
                      simp only [Act.put, List.setIfInBounds_toArray, List.set_cons_succ, List.set_cons_zero]
                      refine wpAnyH_skip_d 10 (some 100) rfl (by kernel_rfl) (by kernel_rfl) (by kernel_rfl) (by kernel_rfl) rfl (fun _ _ _ h => h) (by exact hS) ?_
                      simp only [Act.put, List.setIfInBounds_toArray, List.set_cons_succ, List.set_cons_zero]
                      refine wpAnyH_skip_d 11 (some 101) rfl (by kernel_rfl) (by kernel_rfl) (by kernel_rfl) (by kernel_rfl) rfl (fun _ _ _ h => h) (by exact hS) ?_
                      simp only [Act.put, List.setIfInBounds_toArray, List.set_cons_succ, List.set_cons_zero]
                      refine wpAnyH_skip_d 12 (some 102) rfl (by kernel_rfl) (by kernel_rfl) (by kernel_rfl) (by kernel_rfl) rfl (fun _ _ _ h => h) (by exact hS) ?_
                      simp only [Act.put, List.setIfInBounds_toArray, List.set_cons_succ, List.set_cons_zero]
                      refine wpAnyH_take_d 13 (some 103) (.bool true) rfl (by kernel_rfl) (by kernel_rfl) (by kernel_rfl) (by kernel_rfl) rfl (fun _ _ _ h => h) (fun _ _ => by kernel_rfl) (by exact hS) ?_
                      simp only [Act.put, List.setIfInBounds_toArray, List.set_cons_succ, List.set_cons_zero]
                      refine wpAnyH_take_d 14 (some 13) (.bool true) rfl (by kernel_rfl) (by kernel_rfl) (by kernel_rfl) (by kernel_rfl) rfl (fun _ _ _ h => h) (fun _ _ => by kernel_rfl) (by exact hS) ?_
                      simp only [Act.put, List.setIfInBounds_toArray, List.set_cons_succ, List.set_cons_zero]
                      refine wpAnyH_done (by kernel_rfl) ?_ _
                      have SX := Lib.hid hsx.drew
                      have MX := Lib.hid (hmx.keep (w' := wr.drew) (fun _ _ _ h => h) (fun _ h => h))
                      have YX := Lib.hid (byx.keep (w' := wr.drew) (fun _ _ _ h => h))
                      have BX := Lib.hid bx.drew
                      clear hsx hmx bx byx hfb
                      go_wp2
                      go_roundw
                      case rel => exact ⟨j + 1, by omega, by go_num, true, rfl, Or.inl rfl, SX.out, MX.out, YX.out, BX.out⟩
                      case measure => simp [intOf]; omega
                  · obtain rfl : j = ms5.length := by omega
                    obtain rfl : fb = true := by
                      rcases hfb with h | h
                      · exact h
                      · obtain ⟨i, hi, e⟩ := List.mem_iff_getElem.1 hmt
                        refine absurd ?_ (h i hi)
                        rw [List.getD_eq_getElem?_getD, List.getElem?_eq_getElem hi, e]; rfl
                    clear byx hfb
                    go_wp2
                    go_roundw
                    case rel => exact ⟨k + 1, by omega, by omega, by go_num, false, ms5, X7, bl6, c + 1 + 1 + 1, rfl, hX7, hmx, by omega, hms5, by omega, hsx.more (by omega), GOOD.out, bx⟩
                    case measure => simp [intOf]; omega

            · obtain ⟨q1, blx, q2, hor⟩ := put1 (bl := bl) (c := c) hq hbs
              rw [q1, q2] at hp
              clear q1 q2 hq hbs
              refine hp.mono ?_
              rintro e w4 ⟨rfl, hs4, kp4⟩
              have b4 : Below W.heap.size W w4 := below_step b3 (Below.refl _ _) kp4 b3.size hX4
              have hmay4 := hmay3.keep (fun k o hx ho => kp4.keep k o hx ho) (fun _ h => h)
              clear hp hs3 kp4 b3 hmay3 by3 by3' bl3 hs2 hmay2 b2 hX hX3 RUN3
              go_wp2_with fail
              have hS : Below w4.heap.size w4 w4.drew := (Below.refl _ _).drew
              have hcB : ∀ w', Below w4.heap.size w4 w' → w'.cell? ⟨b, off + k, none⟩ = some (.string d) := fun w' h => hcA w' (b4.trans (h.mono b4.size))
              have hmB : ∀ w', Below w4.heap.size w4 w' → MayIn X4 w' u7 ms := fun w' h => hmay4.keep (fun k o _ ho => (h.block k (lt_of_heap ho)).trans ho) (fun _ h => h)
              refine wp_region_held_drew (S := fun w' => Below w4.heap.size w4 w') mixed hS (fun _ => ?_)
              show wpAnyH _ _ _ _ _ 10 (Array.replicate 10 false) _ _
              refine wpAnyH_take_d 1 (some 61) (u7) rfl (by kernel_rfl) (by kernel_rfl) (by kernel_rfl) (by kernel_rfl) rfl (fun _ _ _ h => h) (fun _ _ => by kernel_rfl) (by exact hS) ?_
              simp only [Act.put, List.setIfInBounds_toArray, List.set_cons_succ, List.set_cons_zero]
              refine wpAnyH_take_d 3 (some 63) (.slice (some ⟨b, off, none⟩) z0.length cap) rfl (by kernel_rfl) (by kernel_rfl) (by kernel_rfl) (by kernel_rfl) rfl (fun _ _ _ h => h) (fun _ _ => by kernel_rfl) (by exact hS) ?_
              simp only [Act.put, List.setIfInBounds_toArray, List.set_cons_succ, List.set_cons_zero]
              refine wpAnyH_take_d 4 (some 64) (.int .i64 k) rfl (by kernel_rfl) (by kernel_rfl) (by kernel_rfl) (by kernel_rfl) rfl (fun _ _ _ h => h) (fun _ _ => by kernel_rfl) (by exact hS) ?_
              simp only [Act.put, List.setIfInBounds_toArray, List.set_cons_succ, List.set_cons_zero]
              refine wpAnyH_take_d 5 (some 65) (.pointer (some ⟨b, off + k, none⟩)) rfl (by kernel_rfl) (by kernel_rfl) (by kernel_rfl) (by kernel_rfl) rfl (fun _ _ _ h => h) (fun w' h => exec_indexAddr rfl rfl rfl hlt Try.underlying27 (by kernel_rfl)) (by exact hS) ?_
              simp only [Act.put, List.setIfInBounds_toArray, List.set_cons_succ, List.set_cons_zero]
              refine wpAnyH_take_d 6 (some 66) (.string d) rfl (by kernel_rfl) (by kernel_rfl) (by kernel_rfl) (by kernel_rfl) rfl (fun _ _ _ h => h) (fun w' h => exec_load_cell rfl rfl (hcB w' h) Try.underlying9 rfl) (by exact hS) ?_
              simp only [Act.put, List.setIfInBounds_toArray, List.set_cons_succ, List.set_cons_zero]
              have hA : Below w4.heap.size w4 (w4.drew.alloc (.cells #[] 9)) := ((Below.refl _ _).drew).alloc (by simp) _
              have hB : Below w4.heap.size w4 (w4.drew.alloc (.cells #[.string d] 9)) := ((Below.refl _ _).drew).alloc (by simp) _
              refine wpAnyH_two 0 7 (some 60) (some 67) (.slice (some ⟨w4.heap.size, 0, none⟩) 0 0) (.slice (some ⟨w4.heap.size, 0, none⟩) 1 1) rfl rfl (by kernel_rfl) (by kernel_rfl) (by kernel_rfl) rfl rfl (exec_build0 rfl (build0 w4.drew)) (exec_build1 rfl rfl (build1 w4.drew d)) hA hB ?_ ?_
              · skip
                simp only [Act.put, List.setIfInBounds_toArray, List.set_cons_succ, List.set_cons_zero]
                have o60 := own_made w4.drew
                have hA0 : w4.heap.size < (w4.drew.alloc (.cells #[] 9)).heap.size := by simp
                generalize w4.drew.alloc (.cells #[] 9) = wA at *
                obtain ⟨v62, wC, hrunC, hoC, hgC⟩ := may_append o60 hA.size (hmB wA hA) (by simp; omega) 27
                have hC : Below w4.heap.size w4 wC := own_below o60 hgC hA hA.size
                have hD : Below w4.heap.size w4 (wA.alloc (.cells #[.string d] 9)) := hA.alloc hA.size _
                refine wpAnyH_two 2 7 (some 62) (some 67) v62 (.slice (some ⟨wA.heap.size, 0, none⟩) 1 1) rfl rfl (by kernel_rfl) (by kernel_rfl) (by kernel_rfl) rfl rfl (exec_append rfl rfl rfl hrunC) (exec_build1 rfl rfl (build1 wA d)) hC hD ?_ ?_
                · skip
                  simp only [Act.put, List.setIfInBounds_toArray, List.set_cons_succ, List.set_cons_zero]
                  have hE : Below w4.heap.size w4 (wC.alloc (.cells #[.string d] 9)) := hC.alloc hC.size _
                  have hS := hE
                  refine wpAnyH_one 7 (some 67) (.slice (some ⟨wC.heap.size, 0, none⟩) 1 1) rfl (by kernel_rfl) (by kernel_rfl) rfl (exec_build1 rfl rfl (build1 wC d)) (by exact hS) ?_
                  simp only [Act.put, List.setIfInBounds_toArray, List.set_cons_succ, List.set_cons_zero]
                  have h67 := may_one (Y := fun _ => True) wC d trivial
                  have h62 := hoC.alloc (.cells #[.string d] 9)
                  rw [Nat.zero_add, List.nil_append] at h62
                  generalize wC.alloc (.cells #[.string d] 9) = wE at *
                  obtain ⟨v68, w5, hrun8, ho8, hg8⟩ := may_append h62 (by exact hE.size) h67 (by simp; omega) 27
                  have hb8 : Below w4.heap.size w4 w5 := own_below h62 hg8 hE hE.size
                  have hS : Below w4.heap.size w4 w5 := hb8
                  refine wpAnyH_one 8 (some 68) (v68) rfl (by kernel_rfl) (by kernel_rfl) rfl (exec_append rfl rfl rfl hrun8) (by exact hS) ?_
                  simp only [Act.put, List.setIfInBounds_toArray, List.set_cons_succ, List.set_cons_zero]
                  refine wpAnyH_take_d 9 (some 7) (v68) rfl (by kernel_rfl) (by kernel_rfl) (by kernel_rfl) (by kernel_rfl) rfl (fun _ _ _ h => h) (fun _ _ => by kernel_rfl) (by exact hS) ?_
                  simp only [Act.put, List.setIfInBounds_toArray, List.set_cons_succ, List.set_cons_zero]
                  refine wpAnyH_done (by kernel_rfl) ?_ _
                  have ho8' : w5.ownsRow w4.heap.size 9 1 v68 (ms ++ [d]).length ((ms ++ [d]).map sV) := by rw [List.length_append, List.map_append]; exact ho8
                  have hs5 := hs4.wd hb8
                  have hX5 : ∀ j, j < W.heap.size → Wd X4 w4.heap.size w5.heap.size j := fun j hj => Or.inl (hX4 j hj)
                  have hmay5 := (MayIn.of_own ho8').keep (Y' := Wd X4 w4.heap.size w5.heap.size) (w' := w5) (fun _ _ _ h => h) (fun _ h => Or.inr h)
                  have b5 : Below W.heap.size W w5 := b4.trans (hb8.mono b4.size)
                  generalize Wd X4 w4.heap.size w5.heap.size = X5 at hs5 hX5 hmay5
                  obtain ⟨ms5, hms5e⟩ : ∃ x, ms ++ [d] = x := ⟨_, rfl⟩
                  obtain ⟨bl5, hbl5⟩ : ∃ x, blx = x := ⟨_, rfl⟩
                  have good5 : Good no ms5 (bl5 IT) := by rw [← hms5e, ← hbl5]; exact hgood.add hor
                  have hml5 : ms5.length ≤ k + 1 := by rw [← hms5e, List.length_append]; simpa using hml
                  have hms5 : ∀ m ∈ ms5, m.size ≤ 5000 := by
                    intro m hm
                    rw [← hms5e] at hm
                    rcases List.mem_append.1 hm with h | h
                    · exact hms m h
                    · rw [List.mem_singleton.1 h]; exact h5
                  rw [hms5e] at hmay5
                  rw [hbl5] at hs5
                  clear hS hb8 hg8 ho8 ho8' hrun8 hA hB hC hD hE o60 hrunC hoC hgC h67 h62 hcB hmB hs4 hX4 hmay4 hms hml hgood hor hms5e hbl5 b4 hcA

                  go_wp2_with fail
                  have hp := put_any (hs5.wd (below_alloc w5 (.cells #[byteV 111] 5 (1, 2)))) (by show c + 1 < _; omega) (by unfold maxLen; omega) (ByteArray.mk #[111, 116, 104, 101, 114]) (by decide) (bytes_lit1 w5 111)
                  obtain ⟨q1, bl6, q2, q3⟩ := putO (bl := bl5) (c := c + 1)
                  rw [q1, q2] at hp
                  clear q1 q2
                  refine hp.mono ?_
                  rintro e w6 ⟨rfl, hs6, kp6⟩
                  have b6 : Below W.heap.size W w6 := below_step b5 (below_alloc w5 _) kp6.unwd b5.size hX5
                  have hmay6 := (hmay5.keep (fun k o _ ho => ((below_alloc w5 _).block k (lt_of_heap ho)).trans ho) (fun _ h => h)).keep (fun k o hx ho => kp6.unwd.keep k o hx ho) (fun _ h => h)
                  replace hs6 := hs6.unwd
                  have good6 : Good no ms5 (bl6 IT) := by rw [q3]; exact good5
                  clear hp hs5 kp6 b5 hmay5 q3 good5 hcv
                  obtain ⟨g1, g2, g3⟩ := getI (bl := bl6) (c := c + 1 + 1)
                  have hsz : ∀ t, bl6 IT = some t → t.length ≤ 1000000000000 := fun t ht => by
                    rcases good6 with ⟨h1, _⟩ | ⟨m, hm, h1⟩
                    · rw [h1] at ht; cases ht
                    · rw [h1] at ht; cases ht; have := hms5 m hm; simp; omega
                  have hg := get_any hs6 (by show c + 1 + 1 < _; omega) (ByteArray.mk #[105, 116]) (by decide) hsz
                  rw [g1] at hg
                  go_wp2_with fail
                  refine hg.mono ?_
                  rintro e w7 ⟨v7, m7, rfl, hm7, hs7, by7, kp7⟩
                  have b7 : Below W.heap.size W w7 := below_step b6 (Below.refl _ _) kp7 b6.size hX5
                  have hmay7 := hmay6.keep (Y' := Wd X5 m7 w7.heap.size) (fun k o hx ho => kp7.keep k o hx ho) (fun _ h => Or.inl h)
                  have hX7 : ∀ j, j < W.heap.size → Wd X5 m7 w7.heap.size j := fun j hj => Or.inl (hX5 j hj)
                  generalize Wd X5 m7 w7.heap.size = X7 at hs7 by7 hmay7 hX7
                  clear hg hs6 kp7 b6 hmay6 hm7 g1 hsz hX5
                  obtain ⟨mo, mcap, rfl, hmrow⟩ := hmay7.form
                  rcases good6 with ⟨hn, hno⟩ | ⟨mt, hmt, hn⟩
                  · subst hno
                    rw [g2 hn] at *
                    have GOOD := Lib.hid (show Good true ms5 (bl6 IT) from Or.inl ⟨hn, rfl⟩)
                    clear g2 g3 by7
                    go_wp2
                    go_loopw [13, 14] (fun fv jv wx => ∃ j : Nat, j ≤ ms5.length ∧ jv = .int .i64 j ∧ fv = .bool true ∧ StoAt X7 wx wa.heap.size ⟨bl6, 0, ByteArray.empty, [], c + 1 + 1 + 1⟩ (2 * k + 1 + 1) ∧ MayIn X7 wx (.slice mo ms5.length mcap) ms5 ∧ Below W.heap.size W wx) (fun _ jv _ => ms5.length - (intOf jv).toNat)
                    case atStart => exact ⟨0, Nat.zero_le _, rfl, rfl, hs7, hmay7, b7⟩
                    case round =>
                      clear hs7 hmay7 b7
                      obtain ⟨j, hj, rfl, rfl, hsx, hmx, bx⟩ := hrel
                      by_cases hjl : j < ms5.length
                      · go_wp2_with fail
                        have hS : wr.drew = wr.drew := rfl
                        refine wp_region_held_drew (S := fun w' => w' = wr.drew) mixed hS (fun _ => ?_)
                        show wpAnyH _ _ _ _ _ 15 (Array.replicate 15 false) _ _
                        refine wpAnyH_take_d 0 (some 90) (.bool true) rfl (by kernel_rfl) (by kernel_rfl) (by kernel_rfl) (by kernel_rfl) rfl (fun _ _ _ h => h) (fun _ _ => by kernel_rfl) (by exact hS) ?_
                        simp only [Act.put, List.setIfInBounds_toArray, List.set_cons_succ, List.set_cons_zero]
                        refine wpAnyH_take_d 1 (some 91) (.bool true) rfl (by kernel_rfl) (by kernel_rfl) (by kernel_rfl) (by kernel_rfl) rfl (fun _ _ _ h => h) (fun _ _ => by kernel_rfl) (by exact hS) ?_
                        simp only [Act.put, List.setIfInBounds_toArray, List.set_cons_succ, List.set_cons_zero]
                        refine wpAnyH_skip_d 2 (some 92) rfl (by kernel_rfl) (by kernel_rfl) (by kernel_rfl) (by kernel_rfl) rfl (fun _ _ _ h => h) (by exact hS) ?_
                        simp only [Act.put, List.setIfInBounds_toArray, List.set_cons_succ, List.set_cons_zero]
                        refine wpAnyH_skip_d 3 (some 93) rfl (by kernel_rfl) (by kernel_rfl) (by kernel_rfl) (by kernel_rfl) rfl (fun _ _ _ h => h) (by exact hS) ?_
                        simp only [Act.put, List.setIfInBounds_toArray, List.set_cons_succ, List.set_cons_zero]
                        refine wpAnyH_skip_d 4 (some 94) rfl (by kernel_rfl) (by kernel_rfl) (by kernel_rfl) (by kernel_rfl) rfl (fun _ _ _ h => h) (by exact hS) ?_
                        simp only [Act.put, List.setIfInBounds_toArray, List.set_cons_succ, List.set_cons_zero]
                        refine wpAnyH_skip_d 5 (some 95) rfl (by kernel_rfl) (by kernel_rfl) (by kernel_rfl) (by kernel_rfl) rfl (fun _ _ _ h => h) (by exact hS) ?_
                        simp only [Act.put, List.setIfInBounds_toArray, List.set_cons_succ, List.set_cons_zero]
                        refine wpAnyH_skip_d 6 (some 96) rfl (by kernel_rfl) (by kernel_rfl) (by kernel_rfl) (by kernel_rfl) rfl (fun _ _ _ h => h) (by exact hS) ?_
                        simp only [Act.put, List.setIfInBounds_toArray, List.set_cons_succ, List.set_cons_zero]
                        refine wpAnyH_skip_d 7 (some 97) rfl (by kernel_rfl) (by kernel_rfl) (by kernel_rfl) (by kernel_rfl) rfl (fun _ _ _ h => h) (by exact hS) ?_
                        simp only [Act.put, List.setIfInBounds_toArray, List.set_cons_succ, List.set_cons_zero]
                        refine wpAnyH_skip_d 8 (some 98) rfl (by kernel_rfl) (by kernel_rfl) (by kernel_rfl) (by kernel_rfl) rfl (fun _ _ _ h => h) (by exact hS) ?_
                        simp only [Act.put, List.setIfInBounds_toArray, List.set_cons_succ, List.set_cons_zero]
                        refine wpAnyH_skip_d 9 (some 99) rfl (by kernel_rfl) (by kernel_rfl) (by kernel_rfl) (by kernel_rfl) rfl (fun _ _ _ h => h) (by exact hS) ?_
                        simp only [Act.put, List.setIfInBounds_toArray, List.set_cons_succ, List.set_cons_zero]
                        refine wpAnyH_skip_d 10 (some 100) rfl (by kernel_rfl) (by kernel_rfl) (by kernel_rfl) (by kernel_rfl) rfl (fun _ _ _ h => h) (by exact hS) ?_
                        simp only [Act.put, List.setIfInBounds_toArray, List.set_cons_succ, List.set_cons_zero]
                        refine wpAnyH_skip_d 11 (some 101) rfl (by kernel_rfl) (by kernel_rfl) (by kernel_rfl) (by kernel_rfl) rfl (fun _ _ _ h => h) (by exact hS) ?_
                        simp only [Act.put, List.setIfInBounds_toArray, List.set_cons_succ, List.set_cons_zero]
                        refine wpAnyH_skip_d 12 (some 102) rfl (by kernel_rfl) (by kernel_rfl) (by kernel_rfl) (by kernel_rfl) rfl (fun _ _ _ h => h) (by exact hS) ?_
                        simp only [Act.put, List.setIfInBounds_toArray, List.set_cons_succ, List.set_cons_zero]
                        refine wpAnyH_take_d 13 (some 103) (.bool true) rfl (by kernel_rfl) (by kernel_rfl) (by kernel_rfl) (by kernel_rfl) rfl (fun _ _ _ h => h) (fun _ _ => by kernel_rfl) (by exact hS) ?_
                        simp only [Act.put, List.setIfInBounds_toArray, List.set_cons_succ, List.set_cons_zero]
                        refine wpAnyH_take_d 14 (some 13) (.bool true) rfl (by kernel_rfl) (by kernel_rfl) (by kernel_rfl) (by kernel_rfl) rfl (fun _ _ _ h => h) (fun _ _ => by kernel_rfl) (by exact hS) ?_
                        simp only [Act.put, List.setIfInBounds_toArray, List.set_cons_succ, List.set_cons_zero]
                        refine wpAnyH_done (by kernel_rfl) ?_ _
                        have SX := Lib.hid hsx.drew
                        have MX := Lib.hid (hmx.keep (w' := wr.drew) (fun _ _ _ h => h) (fun _ h => h))
                        have BX := Lib.hid bx.drew
                        clear hsx hmx bx
                        go_wp2
                        go_roundw
                        case rel => exact ⟨j + 1, by omega, by go_num, rfl, SX.out, MX.out, BX.out⟩
                        case measure => simp [intOf]; omega
                      · obtain rfl : j = ms5.length := by omega
                        go_wp2
                        go_roundw
                        case rel => exact ⟨k + 1, by omega, by omega, by go_num, true, ms5, X7, bl6, c + 1 + 1 + 1, rfl, hX7, hmx, by omega, hms5, by omega, hsx.more (by omega), GOOD.out, bx⟩
                        case measure => simp [intOf]; omega
                  · obtain ⟨g4, g5⟩ := g3 _ hn
                    rw [g4] at *
                    rw [g5] at by7
                    have GOOD := Lib.hid (show Good no ms5 (bl6 IT) from Or.inr ⟨mt, hmt, hn⟩)
                    clear g2 g3 g4 g5
                    go_wp2
                    go_loopw [13, 14] (fun fv jv wx => ∃ j : Nat, j ≤ ms5.length ∧ jv = .int .i64 j ∧ ∃ fb, fv = .bool fb ∧ (fb = true ∨ ∀ i, i < j → (ms5.getD i ByteArray.empty).data.toList ≠ mt.data.toList) ∧ StoAt X7 wx wa.heap.size ⟨bl6, 0, ByteArray.empty, [], c + 1 + 1 + 1⟩ (2 * k + 1 + 1) ∧ MayIn X7 wx (.slice mo ms5.length mcap) ms5 ∧ BytesIn X7 wx v7 mt.data.toList ∧ Below W.heap.size W wx) (fun _ jv _ => ms5.length - (intOf jv).toNat)
                    case atStart => exact ⟨0, Nat.zero_le _, rfl, false, rfl, Or.inr (fun i hi => by omega), hs7, hmay7, by7, b7⟩
                    case round =>
                      clear hs7 hmay7 b7 by7
                      obtain ⟨j, hj, rfl, fb, rfl, hfb, hsx, hmx, byx, bx⟩ := hrel
                      by_cases hjl : j < ms5.length
                      · cases fb
                        · have hnot : ∀ i, i < j → (ms5.getD i ByteArray.empty).data.toList ≠ mt.data.toList := by
                            rcases hfb with h | h
                            · cases h
                            · exact h
                          obtain ⟨mo', mcap', e, hrow⟩ := hmx
                          have hrow' := hrow (by omega)
                          obtain ⟨bb, boff, bcs, bfz, rfl, hyb, hhb, hatb⟩ := hrow'
                          cases e
                          have hmx : MayIn X7 wr (.slice (some ⟨bb, boff, none⟩) ms5.length mcap) ms5 := ⟨_, _, rfl, hrow⟩
                          have hcl : wr.drew.cell? ⟨bb, boff + j, none⟩ = some (.string (ms5.getD j ByteArray.empty)) := cell_row hhb _ (hatb j hjl)
                          have hcv := run_string_at (w := wr.drew) byx.at
                          obtain ⟨tj, htj⟩ : ∃ t, ms5.getD j ByteArray.empty = t := ⟨_, rfl⟩
                          obtain ⟨bq, hbq⟩ : ∃ bq, ((strOf mt.data.toList).toList == tj.toList) = bq := ⟨_, rfl⟩
                          rw [htj] at hcl
                          have hnx : bq = true ∨ ∀ i, i < j + 1 → (ms5.getD i ByteArray.empty).data.toList ≠ mt.data.toList := by
                            cases bq
                            · refine Or.inr (fun i hi => ?_)
                              by_cases hij : i < j
                              · exact hnot i hij
                              · obtain rfl : i = j := by omega
                                rw [htj]
                                intro e
                                rw [ByteArray.toList_eq, ByteArray.toList_eq, e] at hbq
                                simp [strOf] at hbq
                            · exact Or.inl rfl
                          go_wp2_with fail
                          have hS : wr.drew = wr.drew := rfl
                          refine wp_region_held_drew (S := fun w' => w' = wr.drew) mixed hS (fun _ => ?_)
                          show wpAnyH _ _ _ _ _ 15 (Array.replicate 15 false) _ _
                          refine wpAnyH_take_d 0 (some 90) (.bool false) rfl (by kernel_rfl) (by kernel_rfl) (by kernel_rfl) (by kernel_rfl) rfl (fun _ _ _ h => h) (fun _ _ => by kernel_rfl) (by exact hS) ?_
                          simp only [Act.put, List.setIfInBounds_toArray, List.set_cons_succ, List.set_cons_zero]
                          refine wpAnyH_take_d 1 (some 91) (.bool false) rfl (by kernel_rfl) (by kernel_rfl) (by kernel_rfl) (by kernel_rfl) rfl (fun _ _ _ h => h) (fun _ _ => by kernel_rfl) (by exact hS) ?_
                          simp only [Act.put, List.setIfInBounds_toArray, List.set_cons_succ, List.set_cons_zero]
                          refine wpAnyH_take_d 2 (some 92) (.int .i64 0) rfl (by kernel_rfl) (by kernel_rfl) (by kernel_rfl) (by kernel_rfl) rfl (fun _ _ _ h => h) (fun _ _ => by kernel_rfl) (by exact hS) ?_
                          simp only [Act.put, List.setIfInBounds_toArray, List.set_cons_succ, List.set_cons_zero]
                          refine wpAnyH_take_d 3 (some 93) (.bool true) rfl (by kernel_rfl) (by kernel_rfl) (by kernel_rfl) (by kernel_rfl) rfl (fun _ _ _ h => h) (fun _ _ => by kernel_rfl) (by exact hS) ?_
                          simp only [Act.put, List.setIfInBounds_toArray, List.set_cons_succ, List.set_cons_zero]
                          refine wpAnyH_take_d 4 (some 94) (.bool true) rfl (by kernel_rfl) (by kernel_rfl) (by kernel_rfl) (by kernel_rfl) rfl (fun _ _ _ h => h) (fun _ _ => by kernel_rfl) (by exact hS) ?_
                          simp only [Act.put, List.setIfInBounds_toArray, List.set_cons_succ, List.set_cons_zero]
                          refine wpAnyH_take_d 5 (some 95) (v7) rfl (by kernel_rfl) (by kernel_rfl) (by kernel_rfl) (by kernel_rfl) rfl (fun _ _ _ h => h) (fun _ _ => by kernel_rfl) (by exact hS) ?_
                          simp only [Act.put, List.setIfInBounds_toArray, List.set_cons_succ, List.set_cons_zero]
                          refine wpAnyH_take_d 6 (some 96) (.string (strOf mt.data.toList)) rfl (by kernel_rfl) (by kernel_rfl) (by kernel_rfl) (by kernel_rfl) rfl (fun _ _ _ h => h) (fun w' h => by subst h; exact exec_convert rfl rfl hcv) (by exact hS) ?_
                          simp only [Act.put, List.setIfInBounds_toArray, List.set_cons_succ, List.set_cons_zero]
                          refine wpAnyH_take_d 7 (some 97) (.slice (some ⟨bb, boff, none⟩) ms5.length mcap) rfl (by kernel_rfl) (by kernel_rfl) (by kernel_rfl) (by kernel_rfl) rfl (fun _ _ _ h => h) (fun _ _ => by kernel_rfl) (by exact hS) ?_
                          simp only [Act.put, List.setIfInBounds_toArray, List.set_cons_succ, List.set_cons_zero]
                          refine wpAnyH_take_d 8 (some 98) (.int .i64 j) rfl (by kernel_rfl) (by kernel_rfl) (by kernel_rfl) (by kernel_rfl) rfl (fun _ _ _ h => h) (fun _ _ => by kernel_rfl) (by exact hS) ?_
                          simp only [Act.put, List.setIfInBounds_toArray, List.set_cons_succ, List.set_cons_zero]
                          refine wpAnyH_take_d 9 (some 99) (.pointer (some ⟨bb, boff + j, none⟩)) rfl (by kernel_rfl) (by kernel_rfl) (by kernel_rfl) (by kernel_rfl) rfl (fun _ _ _ h => h) (fun w' h => exec_indexAddr rfl rfl rfl hjl Try.underlying27 (by kernel_rfl)) (by exact hS) ?_
                          simp only [Act.put, List.setIfInBounds_toArray, List.set_cons_succ, List.set_cons_zero]
                          refine wpAnyH_take_d 10 (some 100) (.string tj) rfl (by kernel_rfl) (by kernel_rfl) (by kernel_rfl) (by kernel_rfl) rfl (fun _ _ _ h => h) (fun w' h => by subst h; exact exec_load_cell rfl rfl hcl Try.underlying9 rfl) (by exact hS) ?_
                          simp only [Act.put, List.setIfInBounds_toArray, List.set_cons_succ, List.set_cons_zero]
                          refine wpAnyH_take_d 11 (some 101) (.bool bq) rfl (by kernel_rfl) (by kernel_rfl) (by kernel_rfl) (by kernel_rfl) rfl (fun _ _ _ h => h) (fun w' h => exec_streq rfl rfl rfl hbq) (by exact hS) ?_
                          simp only [Act.put, List.setIfInBounds_toArray, List.set_cons_succ, List.set_cons_zero]
                          refine wpAnyH_take_d 12 (some 102) (.bool bq) rfl (by kernel_rfl) (by kernel_rfl) (by kernel_rfl) (by kernel_rfl) rfl (fun _ _ _ h => h) (fun _ _ => by kernel_rfl) (by exact hS) ?_
                          simp only [Act.put, List.setIfInBounds_toArray, List.set_cons_succ, List.set_cons_zero]
                          refine wpAnyH_take_d 13 (some 103) (.bool bq) rfl (by kernel_rfl) (by kernel_rfl) (by kernel_rfl) (by kernel_rfl) rfl (fun _ _ _ h => h) (fun _ _ => by kernel_rfl) (by exact hS) ?_
                          simp only [Act.put, List.setIfInBounds_toArray, List.set_cons_succ, List.set_cons_zero]
                          refine wpAnyH_take_d 14 (some 13) (.bool bq) rfl (by kernel_rfl) (by kernel_rfl) (by kernel_rfl) (by kernel_rfl) rfl (fun _ _ _ h => h) (fun _ _ => by kernel_rfl) (by exact hS) ?_
                          simp only [Act.put, List.setIfInBounds_toArray, List.set_cons_succ, List.set_cons_zero]
                          refine wpAnyH_done (by kernel_rfl) ?_ _
                          have SX := Lib.hid hsx.drew
                          have MX := Lib.hid (hmx.keep (w' := wr.drew) (fun _ _ _ h => h) (fun _ h => h))
                          have YX := Lib.hid (byx.keep (w' := wr.drew) (fun _ _ _ h => h))
                          have BX := Lib.hid bx.drew
                          have NX := Lib.hid hnx
                          clear hsx hmx bx byx hnx hnot hcl hcv hrow hhb hatb hbq htj
                          go_wp2
                          go_roundw
                          case rel => exact ⟨j + 1, by omega, by go_num, bq, rfl, NX.out, SX.out, MX.out, YX.out, BX.out⟩
                          case measure => simp [intOf]; omega
                        · go_wp2_with fail
                          have hS : wr.drew = wr.drew := rfl
                          refine wp_region_held_drew (S := fun w' => w' = wr.drew) mixed hS (fun _ => ?_)
                          show wpAnyH _ _ _ _ _ 15 (Array.replicate 15 false) _ _
                          refine wpAnyH_take_d 0 (some 90) (.bool true) rfl (by kernel_rfl) (by kernel_rfl) (by kernel_rfl) (by kernel_rfl) rfl (fun _ _ _ h => h) (fun _ _ => by kernel_rfl) (by exact hS) ?_
                          simp only [Act.put, List.setIfInBounds_toArray, List.set_cons_succ, List.set_cons_zero]
                          refine wpAnyH_take_d 1 (some 91) (.bool true) rfl (by kernel_rfl) (by kernel_rfl) (by kernel_rfl) (by kernel_rfl) rfl (fun _ _ _ h => h) (fun _ _ => by kernel_rfl) (by exact hS) ?_
                          simp only [Act.put, List.setIfInBounds_toArray, List.set_cons_succ, List.set_cons_zero]
                          refine wpAnyH_skip_d 2 (some 92) rfl (by kernel_rfl) (by kernel_rfl) (by kernel_rfl) (by kernel_rfl) rfl (fun _ _ _ h => h) (by exact hS) ?_
                          simp only [Act.put, List.setIfInBounds_toArray, List.set_cons_succ, List.set_cons_zero]
                          refine wpAnyH_skip_d 3 (some 93) rfl (by kernel_rfl) (by kernel_rfl) (by kernel_rfl) (by kernel_rfl) rfl (fun _ _ _ h => h) (by exact hS) ?_
                          simp only [Act.put, List.setIfInBounds_toArray, List.set_cons_succ, List.set_cons_zero]
                          refine wpAnyH_skip_d 4 (some 94) rfl (by kernel_rfl) (by kernel_rfl) (by kernel_rfl) (by kernel_rfl) rfl (fun _ _ _ h => h) (by exact hS) ?_
                          simp only [Act.put, List.setIfInBounds_toArray, List.set_cons_succ, List.set_cons_zero]
                          refine wpAnyH_skip_d 5 (some 95) rfl (by kernel_rfl) (by kernel_rfl) (by kernel_rfl) (by kernel_rfl) rfl (fun _ _ _ h => h) (by exact hS) ?_
                          simp only [Act.put, List.setIfInBounds_toArray, List.set_cons_succ, List.set_cons_zero]
                          refine wpAnyH_skip_d 6 (some 96) rfl (by kernel_rfl) (by kernel_rfl) (by kernel_rfl) (by kernel_rfl) rfl (fun _ _ _ h => h) (by exact hS) ?_
                          simp only [Act.put, List.setIfInBounds_toArray, List.set_cons_succ, List.set_cons_zero]
                          refine wpAnyH_skip_d 7 (some 97) rfl (by kernel_rfl) (by kernel_rfl) (by kernel_rfl) (by kernel_rfl) rfl (fun _ _ _ h => h) (by exact hS) ?_
                          simp only [Act.put, List.setIfInBounds_toArray, List.set_cons_succ, List.set_cons_zero]
                          refine wpAnyH_skip_d 8 (some 98) rfl (by kernel_rfl) (by kernel_rfl) (by kernel_rfl) (by kernel_rfl) rfl (fun _ _ _ h => h) (by exact hS) ?_
                          simp only [Act.put, List.setIfInBounds_toArray, List.set_cons_succ, List.set_cons_zero]
                          refine wpAnyH_skip_d 9 (some 99) rfl (by kernel_rfl) (by kernel_rfl) (by kernel_rfl) (by kernel_rfl) rfl (fun _ _ _ h => h) (by exact hS) ?_
                          simp only [Act.put, List.setIfInBounds_toArray, List.set_cons_succ, List.set_cons_zero]
                          refine wpAnyH_skip_d 10 (some 100) rfl (by kernel_rfl) (by kernel_rfl) (by kernel_rfl) (by kernel_rfl) rfl (fun _ _ _ h => h) (by exact hS) ?_
                          simp only [Act.put, List.setIfInBounds_toArray, List.set_cons_succ, List.set_cons_zero]
                          refine wpAnyH_skip_d 11 (some 101) rfl (by kernel_rfl) (by kernel_rfl) (by kernel_rfl) (by kernel_rfl) rfl (fun _ _ _ h => h) (by exact hS) ?_
                          simp only [Act.put, List.setIfInBounds_toArray, List.set_cons_succ, List.set_cons_zero]
                          refine wpAnyH_skip_d 12 (some 102) rfl (by kernel_rfl) (by kernel_rfl) (by kernel_rfl) (by kernel_rfl) rfl (fun _ _ _ h => h) (by exact hS) ?_
                          simp only [Act.put, List.setIfInBounds_toArray, List.set_cons_succ, List.set_cons_zero]
                          refine wpAnyH_take_d 13 (some 103) (.bool true) rfl (by kernel_rfl) (by kernel_rfl) (by kernel_rfl) (by kernel_rfl) rfl (fun _ _ _ h => h) (fun _ _ => by kernel_rfl) (by exact hS) ?_
                          simp only [Act.put, List.setIfInBounds_toArray, List.set_cons_succ, List.set_cons_zero]
                          refine wpAnyH_take_d 14 (some 13) (.bool true) rfl (by kernel_rfl) (by kernel_rfl) (by kernel_rfl) (by kernel_rfl) rfl (fun _ _ _ h => h) (fun _ _ => by kernel_rfl) (by exact hS) ?_
                          simp only [Act.put, List.setIfInBounds_toArray, List.set_cons_succ, List.set_cons_zero]
                          refine wpAnyH_done (by kernel_rfl) ?_ _
                          have SX := Lib.hid hsx.drew
                          have MX := Lib.hid (hmx.keep (w' := wr.drew) (fun _ _ _ h => h) (fun _ h => h))
                          have YX := Lib.hid (byx.keep (w' := wr.drew) (fun _ _ _ h => h))
                          have BX := Lib.hid bx.drew
                          clear hsx hmx bx byx hfb
                          go_wp2
                          go_roundw
                          case rel => exact ⟨j + 1, by omega, by go_num, true, rfl, Or.inl rfl, SX.out, MX.out, YX.out, BX.out⟩
                          case measure => simp [intOf]; omega
                      · obtain rfl : j = ms5.length := by omega
                        obtain rfl : fb = true := by
                          rcases hfb with h | h
                          · exact h
                          · obtain ⟨i, hi, e⟩ := List.mem_iff_getElem.1 hmt
                            refine absurd ?_ (h i hi)
                            rw [List.getD_eq_getElem?_getD, List.getElem?_eq_getElem hi, e]; rfl
                        clear byx hfb
                        go_wp2
                        go_roundw
                        case rel => exact ⟨k + 1, by omega, by omega, by go_num, no, ms5, X7, bl6, c + 1 + 1 + 1, rfl, hX7, hmx, by omega, hms5, by omega, hsx.more (by omega), GOOD.out, bx⟩
                        case measure => simp [intOf]; omega

                · skip
                  simp only [Act.put, List.setIfInBounds_toArray, List.set_cons_succ, List.set_cons_zero]
                  have o60' := o60.alloc (.cells #[.string d] 9)
                  have h67 := may_one (Y := fun k => k = wA.heap.size) wA d rfl
                  clear hrunC hoC hgC hC
                  generalize hwD : wA.alloc (.cells #[.string d] 9) = wD at *
                  have hne : ∀ g, (Value.slice (some ⟨w4.heap.size, 0, none⟩) 0 0).ownBlock = some g → g ≠ wA.heap.size := fun g e => by
                    have hg : g = w4.heap.size := by simpa [Value.ownBlock] using e.symm
                    have := hA0
                    omega
                  obtain ⟨v62', wF, hrunF, hoF, hgF⟩ := may_append o60' hD.size (hmB wD hD) (by simp; omega) 27
                  have hF : Below w4.heap.size w4 wF := own_below o60' hgF hD hD.size
                  have hS := hF
                  refine wpAnyH_one 2 (some 62) (v62') rfl (by kernel_rfl) (by kernel_rfl) rfl (exec_append rfl rfl rfl hrunF) (by exact hS) ?_
                  simp only [Act.put, List.setIfInBounds_toArray, List.set_cons_succ, List.set_cons_zero]
                  have h67' := h67.keep (w' := wF) (Y' := fun _ => True) (fun j o hj ho => (hgF.block j (lt_of_heap ho) (fun e => hne j e.symm hj)).trans ho) (fun _ _ => trivial)
                  rw [Nat.zero_add, List.nil_append] at hoF
                  obtain ⟨v68, w5, hrun8, ho8, hg8⟩ := may_append hoF (by exact hF.size) h67' (by simp; omega) 27
                  have hb8 : Below w4.heap.size w4 w5 := own_below hoF hg8 hF hF.size
                  have hS : Below w4.heap.size w4 w5 := hb8
                  refine wpAnyH_one 8 (some 68) (v68) rfl (by kernel_rfl) (by kernel_rfl) rfl (exec_append rfl rfl rfl hrun8) (by exact hS) ?_
                  simp only [Act.put, List.setIfInBounds_toArray, List.set_cons_succ, List.set_cons_zero]
                  refine wpAnyH_take_d 9 (some 7) (v68) rfl (by kernel_rfl) (by kernel_rfl) (by kernel_rfl) (by kernel_rfl) rfl (fun _ _ _ h => h) (fun _ _ => by kernel_rfl) (by exact hS) ?_
                  simp only [Act.put, List.setIfInBounds_toArray, List.set_cons_succ, List.set_cons_zero]
                  refine wpAnyH_done (by kernel_rfl) ?_ _
                  have ho8' : w5.ownsRow w4.heap.size 9 1 v68 (ms ++ [d]).length ((ms ++ [d]).map sV) := by rw [List.length_append, List.map_append]; exact ho8
                  have hs5 := hs4.wd hb8
                  have hX5 : ∀ j, j < W.heap.size → Wd X4 w4.heap.size w5.heap.size j := fun j hj => Or.inl (hX4 j hj)
                  have hmay5 := (MayIn.of_own ho8').keep (Y' := Wd X4 w4.heap.size w5.heap.size) (w' := w5) (fun _ _ _ h => h) (fun _ h => Or.inr h)
                  have b5 : Below W.heap.size W w5 := b4.trans (hb8.mono b4.size)
                  generalize Wd X4 w4.heap.size w5.heap.size = X5 at hs5 hX5 hmay5
                  obtain ⟨ms5, hms5e⟩ : ∃ x, ms ++ [d] = x := ⟨_, rfl⟩
                  obtain ⟨bl5, hbl5⟩ : ∃ x, blx = x := ⟨_, rfl⟩
                  have good5 : Good no ms5 (bl5 IT) := by rw [← hms5e, ← hbl5]; exact hgood.add hor
                  have hml5 : ms5.length ≤ k + 1 := by rw [← hms5e, List.length_append]; simpa using hml
                  have hms5 : ∀ m ∈ ms5, m.size ≤ 5000 := by
                    intro m hm
                    rw [← hms5e] at hm
                    rcases List.mem_append.1 hm with h | h
                    · exact hms m h
                    · rw [List.mem_singleton.1 h]; exact h5
                  rw [hms5e] at hmay5
                  rw [hbl5] at hs5
                  clear hS hb8 hg8 ho8 ho8' hrun8 hA hB hD hF o60 o60' hrunF hoF hgF h67 h67' hcB hmB hne hs4 hX4 hmay4 hms hml hgood hor hms5e hbl5 b4 hcA

                  go_wp2_with fail
                  have hp := put_any (hs5.wd (below_alloc w5 (.cells #[byteV 111] 5 (1, 2)))) (by show c + 1 < _; omega) (by unfold maxLen; omega) (ByteArray.mk #[111, 116, 104, 101, 114]) (by decide) (bytes_lit1 w5 111)
                  obtain ⟨q1, bl6, q2, q3⟩ := putO (bl := bl5) (c := c + 1)
                  rw [q1, q2] at hp
                  clear q1 q2
                  refine hp.mono ?_
                  rintro e w6 ⟨rfl, hs6, kp6⟩
                  have b6 : Below W.heap.size W w6 := below_step b5 (below_alloc w5 _) kp6.unwd b5.size hX5
                  have hmay6 := (hmay5.keep (fun k o _ ho => ((below_alloc w5 _).block k (lt_of_heap ho)).trans ho) (fun _ h => h)).keep (fun k o hx ho => kp6.unwd.keep k o hx ho) (fun _ h => h)
                  replace hs6 := hs6.unwd
                  have good6 : Good no ms5 (bl6 IT) := by rw [q3]; exact good5
                  clear hp hs5 kp6 b5 hmay5 q3 good5 hcv
                  obtain ⟨g1, g2, g3⟩ := getI (bl := bl6) (c := c + 1 + 1)
                  have hsz : ∀ t, bl6 IT = some t → t.length ≤ 1000000000000 := fun t ht => by
                    rcases good6 with ⟨h1, _⟩ | ⟨m, hm, h1⟩
                    · rw [h1] at ht; cases ht
                    · rw [h1] at ht; cases ht; have := hms5 m hm; simp; omega
                  have hg := get_any hs6 (by show c + 1 + 1 < _; omega) (ByteArray.mk #[105, 116]) (by decide) hsz
                  rw [g1] at hg
                  go_wp2_with fail
                  refine hg.mono ?_
                  rintro e w7 ⟨v7, m7, rfl, hm7, hs7, by7, kp7⟩
                  have b7 : Below W.heap.size W w7 := below_step b6 (Below.refl _ _) kp7 b6.size hX5
                  have hmay7 := hmay6.keep (Y' := Wd X5 m7 w7.heap.size) (fun k o hx ho => kp7.keep k o hx ho) (fun _ h => Or.inl h)
                  have hX7 : ∀ j, j < W.heap.size → Wd X5 m7 w7.heap.size j := fun j hj => Or.inl (hX5 j hj)
                  generalize Wd X5 m7 w7.heap.size = X7 at hs7 by7 hmay7 hX7
                  clear hg hs6 kp7 b6 hmay6 hm7 g1 hsz hX5
                  obtain ⟨mo, mcap, rfl, hmrow⟩ := hmay7.form
                  rcases good6 with ⟨hn, hno⟩ | ⟨mt, hmt, hn⟩
                  · subst hno
                    rw [g2 hn] at *
                    have GOOD := Lib.hid (show Good true ms5 (bl6 IT) from Or.inl ⟨hn, rfl⟩)
                    clear g2 g3 by7
                    go_wp2
                    go_loopw [13, 14] (fun fv jv wx => ∃ j : Nat, j ≤ ms5.length ∧ jv = .int .i64 j ∧ fv = .bool true ∧ StoAt X7 wx wa.heap.size ⟨bl6, 0, ByteArray.empty, [], c + 1 + 1 + 1⟩ (2 * k + 1 + 1) ∧ MayIn X7 wx (.slice mo ms5.length mcap) ms5 ∧ Below W.heap.size W wx) (fun _ jv _ => ms5.length - (intOf jv).toNat)
                    case atStart => exact ⟨0, Nat.zero_le _, rfl, rfl, hs7, hmay7, b7⟩
                    case round =>
                      clear hs7 hmay7 b7
                      obtain ⟨j, hj, rfl, rfl, hsx, hmx, bx⟩ := hrel
                      by_cases hjl : j < ms5.length
                      · go_wp2_with fail
                        have hS : wr.drew = wr.drew := rfl
                        refine wp_region_held_drew (S := fun w' => w' = wr.drew) mixed hS (fun _ => ?_)
                        show wpAnyH _ _ _ _ _ 15 (Array.replicate 15 false) _ _
                        refine wpAnyH_take_d 0 (some 90) (.bool true) rfl (by kernel_rfl) (by kernel_rfl) (by kernel_rfl) (by kernel_rfl) rfl (fun _ _ _ h => h) (fun _ _ => by kernel_rfl) (by exact hS) ?_
                        simp only [Act.put, List.setIfInBounds_toArray, List.set_cons_succ, List.set_cons_zero]
                        refine wpAnyH_take_d 1 (some 91) (.bool true) rfl (by kernel_rfl) (by kernel_rfl) (by kernel_rfl) (by kernel_rfl) rfl (fun _ _ _ h => h) (fun _ _ => by kernel_rfl) (by exact hS) ?_
                        simp only [Act.put, List.setIfInBounds_toArray, List.set_cons_succ, List.set_cons_zero]
                        refine wpAnyH_skip_d 2 (some 92) rfl (by kernel_rfl) (by kernel_rfl) (by kernel_rfl) (by kernel_rfl) rfl (fun _ _ _ h => h) (by exact hS) ?_
                        simp only [Act.put, List.setIfInBounds_toArray, List.set_cons_succ, List.set_cons_zero]
                        refine wpAnyH_skip_d 3 (some 93) rfl (by kernel_rfl) (by kernel_rfl) (by kernel_rfl) (by kernel_rfl) rfl (fun _ _ _ h => h) (by exact hS) ?_
                        simp only [Act.put, List.setIfInBounds_toArray, List.set_cons_succ, List.set_cons_zero]
                        refine wpAnyH_skip_d 4 (some 94) rfl (by kernel_rfl) (by kernel_rfl) (by kernel_rfl) (by kernel_rfl) rfl (fun _ _ _ h => h) (by exact hS) ?_
                        simp only [Act.put, List.setIfInBounds_toArray, List.set_cons_succ, List.set_cons_zero]
                        refine wpAnyH_skip_d 5 (some 95) rfl (by kernel_rfl) (by kernel_rfl) (by kernel_rfl) (by kernel_rfl) rfl (fun _ _ _ h => h) (by exact hS) ?_
                        simp only [Act.put, List.setIfInBounds_toArray, List.set_cons_succ, List.set_cons_zero]
                        refine wpAnyH_skip_d 6 (some 96) rfl (by kernel_rfl) (by kernel_rfl) (by kernel_rfl) (by kernel_rfl) rfl (fun _ _ _ h => h) (by exact hS) ?_
                        simp only [Act.put, List.setIfInBounds_toArray, List.set_cons_succ, List.set_cons_zero]
                        refine wpAnyH_skip_d 7 (some 97) rfl (by kernel_rfl) (by kernel_rfl) (by kernel_rfl) (by kernel_rfl) rfl (fun _ _ _ h => h) (by exact hS) ?_
                        simp only [Act.put, List.setIfInBounds_toArray, List.set_cons_succ, List.set_cons_zero]
                        refine wpAnyH_skip_d 8 (some 98) rfl (by kernel_rfl) (by kernel_rfl) (by kernel_rfl) (by kernel_rfl) rfl (fun _ _ _ h => h) (by exact hS) ?_
                        simp only [Act.put, List.setIfInBounds_toArray, List.set_cons_succ, List.set_cons_zero]
                        refine wpAnyH_skip_d 9 (some 99) rfl (by kernel_rfl) (by kernel_rfl) (by kernel_rfl) (by kernel_rfl) rfl (fun _ _ _ h => h) (by exact hS) ?_
                        simp only [Act.put, List.setIfInBounds_toArray, List.set_cons_succ, List.set_cons_zero]
                        refine wpAnyH_skip_d 10 (some 100) rfl (by kernel_rfl) (by kernel_rfl) (by kernel_rfl) (by kernel_rfl) rfl (fun _ _ _ h => h) (by exact hS) ?_
                        simp only [Act.put, List.setIfInBounds_toArray, List.set_cons_succ, List.set_cons_zero]
                        refine wpAnyH_skip_d 11 (some 101) rfl (by kernel_rfl) (by kernel_rfl) (by kernel_rfl) (by kernel_rfl) rfl (fun _ _ _ h => h) (by exact hS) ?_
                        simp only [Act.put, List.setIfInBounds_toArray, List.set_cons_succ, List.set_cons_zero]
                        refine wpAnyH_skip_d 12 (some 102) rfl (by kernel_rfl) (by kernel_rfl) (by kernel_rfl) (by kernel_rfl) rfl (fun _ _ _ h => h) (by exact hS) ?_
                        simp only [Act.put, List.setIfInBounds_toArray, List.set_cons_succ, List.set_cons_zero]
                        refine wpAnyH_take_d 13 (some 103) (.bool true) rfl (by kernel_rfl) (by kernel_rfl) (by kernel_rfl) (by kernel_rfl) rfl (fun _ _ _ h => h) (fun _ _ => by kernel_rfl) (by exact hS) ?_
                        simp only [Act.put, List.setIfInBounds_toArray, List.set_cons_succ, List.set_cons_zero]
                        refine wpAnyH_take_d 14 (some 13) (.bool true) rfl (by kernel_rfl) (by kernel_rfl) (by kernel_rfl) (by kernel_rfl) rfl (fun _ _ _ h => h) (fun _ _ => by kernel_rfl) (by exact hS) ?_
                        simp only [Act.put, List.setIfInBounds_toArray, List.set_cons_succ, List.set_cons_zero]
                        refine wpAnyH_done (by kernel_rfl) ?_ _
                        have SX := Lib.hid hsx.drew
                        have MX := Lib.hid (hmx.keep (w' := wr.drew) (fun _ _ _ h => h) (fun _ h => h))
                        have BX := Lib.hid bx.drew
                        clear hsx hmx bx
                        go_wp2
                        go_roundw
                        case rel => exact ⟨j + 1, by omega, by go_num, rfl, SX.out, MX.out, BX.out⟩
                        case measure => simp [intOf]; omega
                      · obtain rfl : j = ms5.length := by omega
                        go_wp2
                        go_roundw
                        case rel => exact ⟨k + 1, by omega, by omega, by go_num, true, ms5, X7, bl6, c + 1 + 1 + 1, rfl, hX7, hmx, by omega, hms5, by omega, hsx.more (by omega), GOOD.out, bx⟩
                        case measure => simp [intOf]; omega
                  · obtain ⟨g4, g5⟩ := g3 _ hn
                    rw [g4] at *
                    rw [g5] at by7
                    have GOOD := Lib.hid (show Good no ms5 (bl6 IT) from Or.inr ⟨mt, hmt, hn⟩)
                    clear g2 g3 g4 g5
                    go_wp2
                    go_loopw [13, 14] (fun fv jv wx => ∃ j : Nat, j ≤ ms5.length ∧ jv = .int .i64 j ∧ ∃ fb, fv = .bool fb ∧ (fb = true ∨ ∀ i, i < j → (ms5.getD i ByteArray.empty).data.toList ≠ mt.data.toList) ∧ StoAt X7 wx wa.heap.size ⟨bl6, 0, ByteArray.empty, [], c + 1 + 1 + 1⟩ (2 * k + 1 + 1) ∧ MayIn X7 wx (.slice mo ms5.length mcap) ms5 ∧ BytesIn X7 wx v7 mt.data.toList ∧ Below W.heap.size W wx) (fun _ jv _ => ms5.length - (intOf jv).toNat)
                    case atStart => exact ⟨0, Nat.zero_le _, rfl, false, rfl, Or.inr (fun i hi => by omega), hs7, hmay7, by7, b7⟩
                    case round =>
                      clear hs7 hmay7 b7 by7
                      obtain ⟨j, hj, rfl, fb, rfl, hfb, hsx, hmx, byx, bx⟩ := hrel
                      by_cases hjl : j < ms5.length
                      · cases fb
                        · have hnot : ∀ i, i < j → (ms5.getD i ByteArray.empty).data.toList ≠ mt.data.toList := by
                            rcases hfb with h | h
                            · cases h
                            · exact h
                          obtain ⟨mo', mcap', e, hrow⟩ := hmx
                          have hrow' := hrow (by omega)
                          obtain ⟨bb, boff, bcs, bfz, rfl, hyb, hhb, hatb⟩ := hrow'
                          cases e
                          have hmx : MayIn X7 wr (.slice (some ⟨bb, boff, none⟩) ms5.length mcap) ms5 := ⟨_, _, rfl, hrow⟩
                          have hcl : wr.drew.cell? ⟨bb, boff + j, none⟩ = some (.string (ms5.getD j ByteArray.empty)) := cell_row hhb _ (hatb j hjl)
                          have hcv := run_string_at (w := wr.drew) byx.at
                          obtain ⟨tj, htj⟩ : ∃ t, ms5.getD j ByteArray.empty = t := ⟨_, rfl⟩
                          obtain ⟨bq, hbq⟩ : ∃ bq, ((strOf mt.data.toList).toList == tj.toList) = bq := ⟨_, rfl⟩
                          rw [htj] at hcl
                          have hnx : bq = true ∨ ∀ i, i < j + 1 → (ms5.getD i ByteArray.empty).data.toList ≠ mt.data.toList := by
                            cases bq
                            · refine Or.inr (fun i hi => ?_)
                              by_cases hij : i < j
                              · exact hnot i hij
                              · obtain rfl : i = j := by omega
                                rw [htj]
                                intro e
                                rw [ByteArray.toList_eq, ByteArray.toList_eq, e] at hbq
                                simp [strOf] at hbq
                            · exact Or.inl rfl
                          go_wp2_with fail
                          have hS : wr.drew = wr.drew := rfl
                          refine wp_region_held_drew (S := fun w' => w' = wr.drew) mixed hS (fun _ => ?_)
                          show wpAnyH _ _ _ _ _ 15 (Array.replicate 15 false) _ _
                          refine wpAnyH_take_d 0 (some 90) (.bool false) rfl (by kernel_rfl) (by kernel_rfl) (by kernel_rfl) (by kernel_rfl) rfl (fun _ _ _ h => h) (fun _ _ => by kernel_rfl) (by exact hS) ?_
                          simp only [Act.put, List.setIfInBounds_toArray, List.set_cons_succ, List.set_cons_zero]
                          refine wpAnyH_take_d 1 (some 91) (.bool false) rfl (by kernel_rfl) (by kernel_rfl) (by kernel_rfl) (by kernel_rfl) rfl (fun _ _ _ h => h) (fun _ _ => by kernel_rfl) (by exact hS) ?_
                          simp only [Act.put, List.setIfInBounds_toArray, List.set_cons_succ, List.set_cons_zero]
                          refine wpAnyH_take_d 2 (some 92) (.int .i64 0) rfl (by kernel_rfl) (by kernel_rfl) (by kernel_rfl) (by kernel_rfl) rfl (fun _ _ _ h => h) (fun _ _ => by kernel_rfl) (by exact hS) ?_
                          simp only [Act.put, List.setIfInBounds_toArray, List.set_cons_succ, List.set_cons_zero]
                          refine wpAnyH_take_d 3 (some 93) (.bool true) rfl (by kernel_rfl) (by kernel_rfl) (by kernel_rfl) (by kernel_rfl) rfl (fun _ _ _ h => h) (fun _ _ => by kernel_rfl) (by exact hS) ?_
                          simp only [Act.put, List.setIfInBounds_toArray, List.set_cons_succ, List.set_cons_zero]
                          refine wpAnyH_take_d 4 (some 94) (.bool true) rfl (by kernel_rfl) (by kernel_rfl) (by kernel_rfl) (by kernel_rfl) rfl (fun _ _ _ h => h) (fun _ _ => by kernel_rfl) (by exact hS) ?_
                          simp only [Act.put, List.setIfInBounds_toArray, List.set_cons_succ, List.set_cons_zero]
                          refine wpAnyH_take_d 5 (some 95) (v7) rfl (by kernel_rfl) (by kernel_rfl) (by kernel_rfl) (by kernel_rfl) rfl (fun _ _ _ h => h) (fun _ _ => by kernel_rfl) (by exact hS) ?_
                          simp only [Act.put, List.setIfInBounds_toArray, List.set_cons_succ, List.set_cons_zero]
                          refine wpAnyH_take_d 6 (some 96) (.string (strOf mt.data.toList)) rfl (by kernel_rfl) (by kernel_rfl) (by kernel_rfl) (by kernel_rfl) rfl (fun _ _ _ h => h) (fun w' h => by subst h; exact exec_convert rfl rfl hcv) (by exact hS) ?_
                          simp only [Act.put, List.setIfInBounds_toArray, List.set_cons_succ, List.set_cons_zero]
                          refine wpAnyH_take_d 7 (some 97) (.slice (some ⟨bb, boff, none⟩) ms5.length mcap) rfl (by kernel_rfl) (by kernel_rfl) (by kernel_rfl) (by kernel_rfl) rfl (fun _ _ _ h => h) (fun _ _ => by kernel_rfl) (by exact hS) ?_
                          simp only [Act.put, List.setIfInBounds_toArray, List.set_cons_succ, List.set_cons_zero]
                          refine wpAnyH_take_d 8 (some 98) (.int .i64 j) rfl (by kernel_rfl) (by kernel_rfl) (by kernel_rfl) (by kernel_rfl) rfl (fun _ _ _ h => h) (fun _ _ => by kernel_rfl) (by exact hS) ?_
                          simp only [Act.put, List.setIfInBounds_toArray, List.set_cons_succ, List.set_cons_zero]
                          refine wpAnyH_take_d 9 (some 99) (.pointer (some ⟨bb, boff + j, none⟩)) rfl (by kernel_rfl) (by kernel_rfl) (by kernel_rfl) (by kernel_rfl) rfl (fun _ _ _ h => h) (fun w' h => exec_indexAddr rfl rfl rfl hjl Try.underlying27 (by kernel_rfl)) (by exact hS) ?_
                          simp only [Act.put, List.setIfInBounds_toArray, List.set_cons_succ, List.set_cons_zero]
                          refine wpAnyH_take_d 10 (some 100) (.string tj) rfl (by kernel_rfl) (by kernel_rfl) (by kernel_rfl) (by kernel_rfl) rfl (fun _ _ _ h => h) (fun w' h => by subst h; exact exec_load_cell rfl rfl hcl Try.underlying9 rfl) (by exact hS) ?_
                          simp only [Act.put, List.setIfInBounds_toArray, List.set_cons_succ, List.set_cons_zero]
                          refine wpAnyH_take_d 11 (some 101) (.bool bq) rfl (by kernel_rfl) (by kernel_rfl) (by kernel_rfl) (by kernel_rfl) rfl (fun _ _ _ h => h) (fun w' h => exec_streq rfl rfl rfl hbq) (by exact hS) ?_
                          simp only [Act.put, List.setIfInBounds_toArray, List.set_cons_succ, List.set_cons_zero]
                          refine wpAnyH_take_d 12 (some 102) (.bool bq) rfl (by kernel_rfl) (by kernel_rfl) (by kernel_rfl) (by kernel_rfl) rfl (fun _ _ _ h => h) (fun _ _ => by kernel_rfl) (by exact hS) ?_
                          simp only [Act.put, List.setIfInBounds_toArray, List.set_cons_succ, List.set_cons_zero]
                          refine wpAnyH_take_d 13 (some 103) (.bool bq) rfl (by kernel_rfl) (by kernel_rfl) (by kernel_rfl) (by kernel_rfl) rfl (fun _ _ _ h => h) (fun _ _ => by kernel_rfl) (by exact hS) ?_
                          simp only [Act.put, List.setIfInBounds_toArray, List.set_cons_succ, List.set_cons_zero]
                          refine wpAnyH_take_d 14 (some 13) (.bool bq) rfl (by kernel_rfl) (by kernel_rfl) (by kernel_rfl) (by kernel_rfl) rfl (fun _ _ _ h => h) (fun _ _ => by kernel_rfl) (by exact hS) ?_
                          simp only [Act.put, List.setIfInBounds_toArray, List.set_cons_succ, List.set_cons_zero]
                          refine wpAnyH_done (by kernel_rfl) ?_ _
                          have SX := Lib.hid hsx.drew
                          have MX := Lib.hid (hmx.keep (w' := wr.drew) (fun _ _ _ h => h) (fun _ h => h))
                          have YX := Lib.hid (byx.keep (w' := wr.drew) (fun _ _ _ h => h))
                          have BX := Lib.hid bx.drew
                          have NX := Lib.hid hnx
                          clear hsx hmx bx byx hnx hnot hcl hcv hrow hhb hatb hbq htj
                          go_wp2
                          go_roundw
                          case rel => exact ⟨j + 1, by omega, by go_num, bq, rfl, NX.out, SX.out, MX.out, YX.out, BX.out⟩
                          case measure => simp [intOf]; omega
                        · go_wp2_with fail
                          have hS : wr.drew = wr.drew := rfl
                          refine wp_region_held_drew (S := fun w' => w' = wr.drew) mixed hS (fun _ => ?_)
                          show wpAnyH _ _ _ _ _ 15 (Array.replicate 15 false) _ _
                          refine wpAnyH_take_d 0 (some 90) (.bool true) rfl (by kernel_rfl) (by kernel_rfl) (by kernel_rfl) (by kernel_rfl) rfl (fun _ _ _ h => h) (fun _ _ => by kernel_rfl) (by exact hS) ?_
                          simp only [Act.put, List.setIfInBounds_toArray, List.set_cons_succ, List.set_cons_zero]
                          refine wpAnyH_take_d 1 (some 91) (.bool true) rfl (by kernel_rfl) (by kernel_rfl) (by kernel_rfl) (by kernel_rfl) rfl (fun _ _ _ h => h) (fun _ _ => by kernel_rfl) (by exact hS) ?_
                          simp only [Act.put, List.setIfInBounds_toArray, List.set_cons_succ, List.set_cons_zero]
                          refine wpAnyH_skip_d 2 (some 92) rfl (by kernel_rfl) (by kernel_rfl) (by kernel_rfl) (by kernel_rfl) rfl (fun _ _ _ h => h) (by exact hS) ?_
                          simp only [Act.put, List.setIfInBounds_toArray, List.set_cons_succ, List.set_cons_zero]
                          refine wpAnyH_skip_d 3 (some 93) rfl (by kernel_rfl) (by kernel_rfl) (by kernel_rfl) (by kernel_rfl) rfl (fun _ _ _ h => h) (by exact hS) ?_
                          simp only [Act.put, List.setIfInBounds_toArray, List.set_cons_succ, List.set_cons_zero]
                          refine wpAnyH_skip_d 4 (some 94) rfl (by kernel_rfl) (by kernel_rfl) (by kernel_rfl) (by kernel_rfl) rfl (fun _ _ _ h => h) (by exact hS) ?_
                          simp only [Act.put, List.setIfInBounds_toArray, List.set_cons_succ, List.set_cons_zero]
                          refine wpAnyH_skip_d 5 (some 95) rfl (by kernel_rfl) (by kernel_rfl) (by kernel_rfl) (by kernel_rfl) rfl (fun _ _ _ h => h) (by exact hS) ?_
                          simp only [Act.put, List.setIfInBounds_toArray, List.set_cons_succ, List.set_cons_zero]
                          refine wpAnyH_skip_d 6 (some 96) rfl (by kernel_rfl) (by kernel_rfl) (by kernel_rfl) (by kernel_rfl) rfl (fun _ _ _ h => h) (by exact hS) ?_
                          simp only [Act.put, List.setIfInBounds_toArray, List.set_cons_succ, List.set_cons_zero]
                          refine wpAnyH_skip_d 7 (some 97) rfl (by kernel_rfl) (by kernel_rfl) (by kernel_rfl) (by kernel_rfl) rfl (fun _ _ _ h => h) (by exact hS) ?_
                          simp only [Act.put, List.setIfInBounds_toArray, List.set_cons_succ, List.set_cons_zero]
                          refine wpAnyH_skip_d 8 (some 98) rfl (by kernel_rfl) (by kernel_rfl) (by kernel_rfl) (by kernel_rfl) rfl (fun _ _ _ h => h) (by exact hS) ?_
                          simp only [Act.put, List.setIfInBounds_toArray, List.set_cons_succ, List.set_cons_zero]
                          refine wpAnyH_skip_d 9 (some 99) rfl (by kernel_rfl) (by kernel_rfl) (by kernel_rfl) (by kernel_rfl) rfl (fun _ _ _ h => h) (by exact hS) ?_
                          simp only [Act.put, List.setIfInBounds_toArray, List.set_cons_succ, List.set_cons_zero]
                          refine wpAnyH_skip_d 10 (some 100) rfl (by kernel_rfl) (by kernel_rfl) (by kernel_rfl) (by kernel_rfl) rfl (fun _ _ _ h => h) (by exact hS) ?_
                          simp only [Act.put, List.setIfInBounds_toArray, List.set_cons_succ, List.set_cons_zero]
                          refine wpAnyH_skip_d 11 (some 101) rfl (by kernel_rfl) (by kernel_rfl) (by kernel_rfl) (by kernel_rfl) rfl (fun _ _ _ h => h) (by exact hS) ?_
                          simp only [Act.put, List.setIfInBounds_toArray, List.set_cons_succ, List.set_cons_zero]
                          refine wpAnyH_skip_d 12 (some 102) rfl (by kernel_rfl) (by kernel_rfl) (by kernel_rfl) (by kernel_rfl) rfl (fun _ _ _ h => h) (by exact hS) ?_
                          simp only [Act.put, List.setIfInBounds_toArray, List.set_cons_succ, List.set_cons_zero]
                          refine wpAnyH_take_d 13 (some 103) (.bool true) rfl (by kernel_rfl) (by kernel_rfl) (by kernel_rfl) (by kernel_rfl) rfl (fun _ _ _ h => h) (fun _ _ => by kernel_rfl) (by exact hS) ?_
                          simp only [Act.put, List.setIfInBounds_toArray, List.set_cons_succ, List.set_cons_zero]
                          refine wpAnyH_take_d 14 (some 13) (.bool true) rfl (by kernel_rfl) (by kernel_rfl) (by kernel_rfl) (by kernel_rfl) rfl (fun _ _ _ h => h) (fun _ _ => by kernel_rfl) (by exact hS) ?_
                          simp only [Act.put, List.setIfInBounds_toArray, List.set_cons_succ, List.set_cons_zero]
                          refine wpAnyH_done (by kernel_rfl) ?_ _
                          have SX := Lib.hid hsx.drew
                          have MX := Lib.hid (hmx.keep (w' := wr.drew) (fun _ _ _ h => h) (fun _ h => h))
                          have YX := Lib.hid (byx.keep (w' := wr.drew) (fun _ _ _ h => h))
                          have BX := Lib.hid bx.drew
                          clear hsx hmx bx byx hfb
                          go_wp2
                          go_roundw
                          case rel => exact ⟨j + 1, by omega, by go_num, true, rfl, Or.inl rfl, SX.out, MX.out, YX.out, BX.out⟩
                          case measure => simp [intOf]; omega
                      · obtain rfl : j = ms5.length := by omega
                        obtain rfl : fb = true := by
                          rcases hfb with h | h
                          · exact h
                          · obtain ⟨i, hi, e⟩ := List.mem_iff_getElem.1 hmt
                            refine absurd ?_ (h i hi)
                            rw [List.getD_eq_getElem?_getD, List.getElem?_eq_getElem hi, e]; rfl
                        clear byx hfb
                        go_wp2
                        go_roundw
                        case rel => exact ⟨k + 1, by omega, by omega, by go_num, no, ms5, X7, bl6, c + 1 + 1 + 1, rfl, hX7, hmx, by omega, hms5, by omega, hsx.more (by omega), GOOD.out, bx⟩
                        case measure => simp [intOf]; omega

              · skip
                simp only [Act.put, List.setIfInBounds_toArray, List.set_cons_succ, List.set_cons_zero]
                have h67 := may_one (Y := fun k => k = w4.heap.size) w4.drew d rfl
                generalize hwB : w4.drew.alloc (.cells #[.string d] 9) = wB at *
                have hG : Below w4.heap.size w4 (wB.alloc (.cells #[] 9)) := hB.alloc hB.size _
                have hS := hG
                refine wpAnyH_one 0 (some 60) (.slice (some ⟨wB.heap.size, 0, none⟩) 0 0) rfl (by kernel_rfl) (by kernel_rfl) rfl (exec_build0 rfl (build0 wB)) (by exact hS) ?_
                simp only [Act.put, List.setIfInBounds_toArray, List.set_cons_succ, List.set_cons_zero]
                have hszB : w4.heap.size < wB.heap.size := by rw [← hwB]; simp
                have o60 := own_made wB
                have h67b := h67.keep (w' := wB.alloc (.cells #[] 9)) (Y' := fun k => k = w4.heap.size) (fun j o _ ho => ((below_alloc wB _).block j (lt_of_heap ho)).trans ho) (fun _ h => h)
                generalize wB.alloc (.cells #[] 9) = wG at *
                have o60' := ownsRow_base (base' := w4.heap.size) o60 (fun j e => by have hj : j = wB.heap.size := by simpa [Value.ownBlock] using e.symm
                                                                                     omega)
                obtain ⟨v62, wH, hrunH, hoH, hgH⟩ := may_append o60' hG.size (hmB wG hG) (by simp; omega) 27
                have hH : Below w4.heap.size w4 wH := own_below o60' hgH hG hG.size
                have hS := hH
                refine wpAnyH_one 2 (some 62) (v62) rfl (by kernel_rfl) (by kernel_rfl) rfl (exec_append rfl rfl rfl hrunH) (by exact hS) ?_
                simp only [Act.put, List.setIfInBounds_toArray, List.set_cons_succ, List.set_cons_zero]
                have h67' := h67b.keep (w' := wH) (Y' := fun _ => True) (fun j o hj ho => (hgH.block j (lt_of_heap ho) (fun e => by have hj2 : j = wB.heap.size := by simpa [Value.ownBlock] using e
                                                                                                                                    omega)).trans ho) (fun _ _ => trivial)
                rw [Nat.zero_add, List.nil_append] at hoH
                obtain ⟨v68, w5, hrun8, ho8, hg8⟩ := may_append hoH (by exact hH.size) h67' (by simp; omega) 27
                have hb8 : Below w4.heap.size w4 w5 := own_below hoH hg8 hH hH.size
                have hS : Below w4.heap.size w4 w5 := hb8
                refine wpAnyH_one 8 (some 68) (v68) rfl (by kernel_rfl) (by kernel_rfl) rfl (exec_append rfl rfl rfl hrun8) (by exact hS) ?_
                simp only [Act.put, List.setIfInBounds_toArray, List.set_cons_succ, List.set_cons_zero]
                refine wpAnyH_take_d 9 (some 7) (v68) rfl (by kernel_rfl) (by kernel_rfl) (by kernel_rfl) (by kernel_rfl) rfl (fun _ _ _ h => h) (fun _ _ => by kernel_rfl) (by exact hS) ?_
                simp only [Act.put, List.setIfInBounds_toArray, List.set_cons_succ, List.set_cons_zero]
                refine wpAnyH_done (by kernel_rfl) ?_ _
                have ho8' : w5.ownsRow w4.heap.size 9 1 v68 (ms ++ [d]).length ((ms ++ [d]).map sV) := by rw [List.length_append, List.map_append]; exact ho8
                have hs5 := hs4.wd hb8
                have hX5 : ∀ j, j < W.heap.size → Wd X4 w4.heap.size w5.heap.size j := fun j hj => Or.inl (hX4 j hj)
                have hmay5 := (MayIn.of_own ho8').keep (Y' := Wd X4 w4.heap.size w5.heap.size) (w' := w5) (fun _ _ _ h => h) (fun _ h => Or.inr h)
                have b5 : Below W.heap.size W w5 := b4.trans (hb8.mono b4.size)
                generalize Wd X4 w4.heap.size w5.heap.size = X5 at hs5 hX5 hmay5
                obtain ⟨ms5, hms5e⟩ : ∃ x, ms ++ [d] = x := ⟨_, rfl⟩
                obtain ⟨bl5, hbl5⟩ : ∃ x, blx = x := ⟨_, rfl⟩
                have good5 : Good no ms5 (bl5 IT) := by rw [← hms5e, ← hbl5]; exact hgood.add hor
                have hml5 : ms5.length ≤ k + 1 := by rw [← hms5e, List.length_append]; simpa using hml
                have hms5 : ∀ m ∈ ms5, m.size ≤ 5000 := by
                  intro m hm
                  rw [← hms5e] at hm
                  rcases List.mem_append.1 hm with h | h
                  · exact hms m h
                  · rw [List.mem_singleton.1 h]; exact h5
                rw [hms5e] at hmay5
                rw [hbl5] at hs5
                clear hS hb8 hg8 ho8 ho8' hrun8 hA hB hG hH o60 o60' hrunH hoH hgH h67 h67b h67' hcB hmB hszB hwB hs4 hX4 hmay4 hms hml hgood hor hms5e hbl5 b4 hcA

                go_wp2_with fail
                have hp := put_any (hs5.wd (below_alloc w5 (.cells #[byteV 111] 5 (1, 2)))) (by show c + 1 < _; omega) (by unfold maxLen; omega) (ByteArray.mk #[111, 116, 104, 101, 114]) (by decide) (bytes_lit1 w5 111)
                obtain ⟨q1, bl6, q2, q3⟩ := putO (bl := bl5) (c := c + 1)
                rw [q1, q2] at hp
                clear q1 q2
                refine hp.mono ?_
                rintro e w6 ⟨rfl, hs6, kp6⟩
                have b6 : Below W.heap.size W w6 := below_step b5 (below_alloc w5 _) kp6.unwd b5.size hX5
                have hmay6 := (hmay5.keep (fun k o _ ho => ((below_alloc w5 _).block k (lt_of_heap ho)).trans ho) (fun _ h => h)).keep (fun k o hx ho => kp6.unwd.keep k o hx ho) (fun _ h => h)
                replace hs6 := hs6.unwd
                have good6 : Good no ms5 (bl6 IT) := by rw [q3]; exact good5
                clear hp hs5 kp6 b5 hmay5 q3 good5 hcv
                obtain ⟨g1, g2, g3⟩ := getI (bl := bl6) (c := c + 1 + 1)
                have hsz : ∀ t, bl6 IT = some t → t.length ≤ 1000000000000 := fun t ht => by
                  rcases good6 with ⟨h1, _⟩ | ⟨m, hm, h1⟩
                  · rw [h1] at ht; cases ht
                  · rw [h1] at ht; cases ht; have := hms5 m hm; simp; omega
                have hg := get_any hs6 (by show c + 1 + 1 < _; omega) (ByteArray.mk #[105, 116]) (by decide) hsz
                rw [g1] at hg
                go_wp2_with fail
                refine hg.mono ?_
                rintro e w7 ⟨v7, m7, rfl, hm7, hs7, by7, kp7⟩
                have b7 : Below W.heap.size W w7 := below_step b6 (Below.refl _ _) kp7 b6.size hX5
                have hmay7 := hmay6.keep (Y' := Wd X5 m7 w7.heap.size) (fun k o hx ho => kp7.keep k o hx ho) (fun _ h => Or.inl h)
                have hX7 : ∀ j, j < W.heap.size → Wd X5 m7 w7.heap.size j := fun j hj => Or.inl (hX5 j hj)
                generalize Wd X5 m7 w7.heap.size = X7 at hs7 by7 hmay7 hX7
                clear hg hs6 kp7 b6 hmay6 hm7 g1 hsz hX5
                obtain ⟨mo, mcap, rfl, hmrow⟩ := hmay7.form
                rcases good6 with ⟨hn, hno⟩ | ⟨mt, hmt, hn⟩
                · subst hno
                  rw [g2 hn] at *
                  have GOOD := Lib.hid (show Good true ms5 (bl6 IT) from Or.inl ⟨hn, rfl⟩)
                  clear g2 g3 by7
                  go_wp2
                  go_loopw [13, 14] (fun fv jv wx => ∃ j : Nat, j ≤ ms5.length ∧ jv = .int .i64 j ∧ fv = .bool true ∧ StoAt X7 wx wa.heap.size ⟨bl6, 0, ByteArray.empty, [], c + 1 + 1 + 1⟩ (2 * k + 1 + 1) ∧ MayIn X7 wx (.slice mo ms5.length mcap) ms5 ∧ Below W.heap.size W wx) (fun _ jv _ => ms5.length - (intOf jv).toNat)
                  case atStart => exact ⟨0, Nat.zero_le _, rfl, rfl, hs7, hmay7, b7⟩
                  case round =>
                    clear hs7 hmay7 b7
                    obtain ⟨j, hj, rfl, rfl, hsx, hmx, bx⟩ := hrel
                    by_cases hjl : j < ms5.length
                    · go_wp2_with fail
                      have hS : wr.drew = wr.drew := rfl
                      refine wp_region_held_drew (S := fun w' => w' = wr.drew) mixed hS (fun _ => ?_)
                      show wpAnyH _ _ _ _ _ 15 (Array.replicate 15 false) _ _
                      refine wpAnyH_take_d 0 (some 90) (.bool true) rfl (by kernel_rfl) (by kernel_rfl) (by kernel_rfl) (by kernel_rfl) rfl (fun _ _ _ h => h) (fun _ _ => by kernel_rfl) (by exact hS) ?_
                      simp only [Act.put, List.setIfInBounds_toArray, List.set_cons_succ, List.set_cons_zero]
                      refine wpAnyH_take_d 1 (some 91) (.bool true) rfl (by kernel_rfl) (by kernel_rfl) (by kernel_rfl) (by kernel_rfl) rfl (fun _ _ _ h => h) (fun _ _ => by kernel_rfl) (by exact hS) ?_
                      simp only [Act.put, List.setIfInBounds_toArray, List.set_cons_succ, List.set_cons_zero]
                      refine wpAnyH_skip_d 2 (some 92) rfl (by kernel_rfl) (by kernel_rfl) (by kernel_rfl) (by kernel_rfl) rfl (fun _ _ _ h => h) (by exact hS) ?_
                      simp only [Act.put, List.setIfInBounds_toArray, List.set_cons_succ, List.set_cons_zero]
                      refine wpAnyH_skip_d 3 (some 93) rfl (by kernel_rfl) (by kernel_rfl) (by kernel_rfl) (by kernel_rfl) rfl (fun _ _ _ h => h) (by exact hS) ?_
                      simp only [Act.put, List.setIfInBounds_toArray, List.set_cons_succ, List.set_cons_zero]
                      refine wpAnyH_skip_d 4 (some 94) rfl (by kernel_rfl) (by kernel_rfl) (by kernel_rfl) (by kernel_rfl) rfl (fun _ _ _ h => h) (by exact hS) ?_
                      simp only [Act.put, List.setIfInBounds_toArray, List.set_cons_succ, List.set_cons_zero]
                      refine wpAnyH_skip_d 5 (some 95) rfl (by kernel_rfl) (by kernel_rfl) (by kernel_rfl) (by kernel_rfl) rfl (fun _ _ _ h => h) (by exact hS) ?_
                      simp only [Act.put, List.setIfInBounds_toArray, List.set_cons_succ, List.set_cons_zero]
                      refine wpAnyH_skip_d 6 (some 96) rfl (by kernel_rfl) (by kernel_rfl) (by kernel_rfl) (by kernel_rfl) rfl (fun _ _ _ h => h) (by exact hS) ?_
                      simp only [Act.put, List.setIfInBounds_toArray, List.set_cons_succ, List.set_cons_zero]
                      refine wpAnyH_skip_d 7 (some 97) rfl (by kernel_rfl) (by kernel_rfl) (by kernel_rfl) (by kernel_rfl) rfl (fun _ _ _ h => h) (by exact hS) ?_
                      simp only [Act.put, List.setIfInBounds_toArray, List.set_cons_succ, List.set_cons_zero]
                      refine wpAnyH_skip_d 8 (some 98) rfl (by kernel_rfl) (by kernel_rfl) (by kernel_rfl) (by kernel_rfl) rfl (fun _ _ _ h => h) (by exact hS) ?_
                      simp only [Act.put, List.setIfInBounds_toArray, List.set_cons_succ, List.set_cons_zero]
                      refine wpAnyH_skip_d 9 (some 99) rfl (by kernel_rfl) (by kernel_rfl) (by kernel_rfl) (by kernel_rfl) rfl (fun _ _ _ h => h) (by exact hS) ?_
                      simp only [Act.put, List.setIfInBounds_toArray, List.set_cons_succ, List.set_cons_zero]
                      refine wpAnyH_skip_d 10 (some 100) rfl (by kernel_rfl) (by kernel_rfl) (by kernel_rfl) (by kernel_rfl) rfl (fun _ _ _ h => h) (by exact hS) ?_
                      simp only [Act.put, List.setIfInBounds_toArray, List.set_cons_succ, List.set_cons_zero]
                      refine wpAnyH_skip_d 11 (some 101) rfl (by kernel_rfl) (by kernel_rfl) (by kernel_rfl) (by kernel_rfl) rfl (fun _ _ _ h => h) (by exact hS) ?_
                      simp only [Act.put, List.setIfInBounds_toArray, List.set_cons_succ, List.set_cons_zero]
                      refine wpAnyH_skip_d 12 (some 102) rfl (by kernel_rfl) (by kernel_rfl) (by kernel_rfl) (by kernel_rfl) rfl (fun _ _ _ h => h) (by exact hS) ?_
                      simp only [Act.put, List.setIfInBounds_toArray, List.set_cons_succ, List.set_cons_zero]
                      refine wpAnyH_take_d 13 (some 103) (.bool true) rfl (by kernel_rfl) (by kernel_rfl) (by kernel_rfl) (by kernel_rfl) rfl (fun _ _ _ h => h) (fun _ _ => by kernel_rfl) (by exact hS) ?_
                      simp only [Act.put, List.setIfInBounds_toArray, List.set_cons_succ, List.set_cons_zero]
                      refine wpAnyH_take_d 14 (some 13) (.bool true) rfl (by kernel_rfl) (by kernel_rfl) (by kernel_rfl) (by kernel_rfl) rfl (fun _ _ _ h => h) (fun _ _ => by kernel_rfl) (by exact hS) ?_
                      simp only [Act.put, List.setIfInBounds_toArray, List.set_cons_succ, List.set_cons_zero]
                      refine wpAnyH_done (by kernel_rfl) ?_ _
                      have SX := Lib.hid hsx.drew
                      have MX := Lib.hid (hmx.keep (w' := wr.drew) (fun _ _ _ h => h) (fun _ h => h))
                      have BX := Lib.hid bx.drew
                      clear hsx hmx bx
                      go_wp2
                      go_roundw
                      case rel => exact ⟨j + 1, by omega, by go_num, rfl, SX.out, MX.out, BX.out⟩
                      case measure => simp [intOf]; omega
                    · obtain rfl : j = ms5.length := by omega
                      go_wp2
                      go_roundw
                      case rel => exact ⟨k + 1, by omega, by omega, by go_num, true, ms5, X7, bl6, c + 1 + 1 + 1, rfl, hX7, hmx, by omega, hms5, by omega, hsx.more (by omega), GOOD.out, bx⟩
                      case measure => simp [intOf]; omega
                · obtain ⟨g4, g5⟩ := g3 _ hn
                  rw [g4] at *
                  rw [g5] at by7
                  have GOOD := Lib.hid (show Good no ms5 (bl6 IT) from Or.inr ⟨mt, hmt, hn⟩)
                  clear g2 g3 g4 g5
                  go_wp2
                  go_loopw [13, 14] (fun fv jv wx => ∃ j : Nat, j ≤ ms5.length ∧ jv = .int .i64 j ∧ ∃ fb, fv = .bool fb ∧ (fb = true ∨ ∀ i, i < j → (ms5.getD i ByteArray.empty).data.toList ≠ mt.data.toList) ∧ StoAt X7 wx wa.heap.size ⟨bl6, 0, ByteArray.empty, [], c + 1 + 1 + 1⟩ (2 * k + 1 + 1) ∧ MayIn X7 wx (.slice mo ms5.length mcap) ms5 ∧ BytesIn X7 wx v7 mt.data.toList ∧ Below W.heap.size W wx) (fun _ jv _ => ms5.length - (intOf jv).toNat)
                  case atStart => exact ⟨0, Nat.zero_le _, rfl, false, rfl, Or.inr (fun i hi => by omega), hs7, hmay7, by7, b7⟩
                  case round =>
                    clear hs7 hmay7 b7 by7
                    obtain ⟨j, hj, rfl, fb, rfl, hfb, hsx, hmx, byx, bx⟩ := hrel
                    by_cases hjl : j < ms5.length
                    · cases fb
                      · have hnot : ∀ i, i < j → (ms5.getD i ByteArray.empty).data.toList ≠ mt.data.toList := by
                          rcases hfb with h | h
                          · cases h
                          · exact h
                        obtain ⟨mo', mcap', e, hrow⟩ := hmx
                        have hrow' := hrow (by omega)
                        obtain ⟨bb, boff, bcs, bfz, rfl, hyb, hhb, hatb⟩ := hrow'
                        cases e
                        have hmx : MayIn X7 wr (.slice (some ⟨bb, boff, none⟩) ms5.length mcap) ms5 := ⟨_, _, rfl, hrow⟩
                        have hcl : wr.drew.cell? ⟨bb, boff + j, none⟩ = some (.string (ms5.getD j ByteArray.empty)) := cell_row hhb _ (hatb j hjl)
                        have hcv := run_string_at (w := wr.drew) byx.at
                        obtain ⟨tj, htj⟩ : ∃ t, ms5.getD j ByteArray.empty = t := ⟨_, rfl⟩
                        obtain ⟨bq, hbq⟩ : ∃ bq, ((strOf mt.data.toList).toList == tj.toList) = bq := ⟨_, rfl⟩
                        rw [htj] at hcl
                        have hnx : bq = true ∨ ∀ i, i < j + 1 → (ms5.getD i ByteArray.empty).data.toList ≠ mt.data.toList := by
                          cases bq
                          · refine Or.inr (fun i hi => ?_)
                            by_cases hij : i < j
                            · exact hnot i hij
                            · obtain rfl : i = j := by omega
                              rw [htj]
                              intro e
                              rw [ByteArray.toList_eq, ByteArray.toList_eq, e] at hbq
                              simp [strOf] at hbq
                          · exact Or.inl rfl
                        go_wp2_with fail
                        have hS : wr.drew = wr.drew := rfl
                        refine wp_region_held_drew (S := fun w' => w' = wr.drew) mixed hS (fun _ => ?_)
                        show wpAnyH _ _ _ _ _ 15 (Array.replicate 15 false) _ _
                        refine wpAnyH_take_d 0 (some 90) (.bool false) rfl (by kernel_rfl) (by kernel_rfl) (by kernel_rfl) (by kernel_rfl) rfl (fun _ _ _ h => h) (fun _ _ => by kernel_rfl) (by exact hS) ?_
                        simp only [Act.put, List.setIfInBounds_toArray, List.set_cons_succ, List.set_cons_zero]
                        refine wpAnyH_take_d 1 (some 91) (.bool false) rfl (by kernel_rfl) (by kernel_rfl) (by kernel_rfl) (by kernel_rfl) rfl (fun _ _ _ h => h) (fun _ _ => by kernel_rfl) (by exact hS) ?_
                        simp only [Act.put, List.setIfInBounds_toArray, List.set_cons_succ, List.set_cons_zero]
                        refine wpAnyH_take_d 2 (some 92) (.int .i64 0) rfl (by kernel_rfl) (by kernel_rfl) (by kernel_rfl) (by kernel_rfl) rfl (fun _ _ _ h => h) (fun _ _ => by kernel_rfl) (by exact hS) ?_
                        simp only [Act.put, List.setIfInBounds_toArray, List.set_cons_succ, List.set_cons_zero]
                        refine wpAnyH_take_d 3 (some 93) (.bool true) rfl (by kernel_rfl) (by kernel_rfl) (by kernel_rfl) (by kernel_rfl) rfl (fun _ _ _ h => h) (fun _ _ => by kernel_rfl) (by exact hS) ?_
                        simp only [Act.put, List.setIfInBounds_toArray, List.set_cons_succ, List.set_cons_zero]
                        refine wpAnyH_take_d 4 (some 94) (.bool true) rfl (by kernel_rfl) (by kernel_rfl) (by kernel_rfl) (by kernel_rfl) rfl (fun _ _ _ h => h) (fun _ _ => by kernel_rfl) (by exact hS) ?_
                        simp only [Act.put, List.setIfInBounds_toArray, List.set_cons_succ, List.set_cons_zero]
                        refine wpAnyH_take_d 5 (some 95) (v7) rfl (by kernel_rfl) (by kernel_rfl) (by kernel_rfl) (by kernel_rfl) rfl (fun _ _ _ h => h) (fun _ _ => by kernel_rfl) (by exact hS) ?_
                        simp only [Act.put, List.setIfInBounds_toArray, List.set_cons_succ, List.set_cons_zero]
                        refine wpAnyH_take_d 6 (some 96) (.string (strOf mt.data.toList)) rfl (by kernel_rfl) (by kernel_rfl) (by kernel_rfl) (by kernel_rfl) rfl (fun _ _ _ h => h) (fun w' h => by subst h; exact exec_convert rfl rfl hcv) (by exact hS) ?_
                        simp only [Act.put, List.setIfInBounds_toArray, List.set_cons_succ, List.set_cons_zero]
                        refine wpAnyH_take_d 7 (some 97) (.slice (some ⟨bb, boff, none⟩) ms5.length mcap) rfl (by kernel_rfl) (by kernel_rfl) (by kernel_rfl) (by kernel_rfl) rfl (fun _ _ _ h => h) (fun _ _ => by kernel_rfl) (by exact hS) ?_
                        simp only [Act.put, List.setIfInBounds_toArray, List.set_cons_succ, List.set_cons_zero]
                        refine wpAnyH_take_d 8 (some 98) (.int .i64 j) rfl (by kernel_rfl) (by kernel_rfl) (by kernel_rfl) (by kernel_rfl) rfl (fun _ _ _ h => h) (fun _ _ => by kernel_rfl) (by exact hS) ?_
                        simp only [Act.put, List.setIfInBounds_toArray, List.set_cons_succ, List.set_cons_zero]
                        refine wpAnyH_take_d 9 (some 99) (.pointer (some ⟨bb, boff + j, none⟩)) rfl (by kernel_rfl) (by kernel_rfl) (by kernel_rfl) (by kernel_rfl) rfl (fun _ _ _ h => h) (fun w' h => exec_indexAddr rfl rfl rfl hjl Try.underlying27 (by kernel_rfl)) (by exact hS) ?_
                        simp only [Act.put, List.setIfInBounds_toArray, List.set_cons_succ, List.set_cons_zero]
                        refine wpAnyH_take_d 10 (some 100) (.string tj) rfl (by kernel_rfl) (by kernel_rfl) (by kernel_rfl) (by kernel_rfl) rfl (fun _ _ _ h => h) (fun w' h => by subst h; exact exec_load_cell rfl rfl hcl Try.underlying9 rfl) (by exact hS) ?_
                        simp only [Act.put, List.setIfInBounds_toArray, List.set_cons_succ, List.set_cons_zero]
                        refine wpAnyH_take_d 11 (some 101) (.bool bq) rfl (by kernel_rfl) (by kernel_rfl) (by kernel_rfl) (by kernel_rfl) rfl (fun _ _ _ h => h) (fun w' h => exec_streq rfl rfl rfl hbq) (by exact hS) ?_
                        simp only [Act.put, List.setIfInBounds_toArray, List.set_cons_succ, List.set_cons_zero]
                        refine wpAnyH_take_d 12 (some 102) (.bool bq) rfl (by kernel_rfl) (by kernel_rfl) (by kernel_rfl) (by kernel_rfl) rfl (fun _ _ _ h => h) (fun _ _ => by kernel_rfl) (by exact hS) ?_
                        simp only [Act.put, List.setIfInBounds_toArray, List.set_cons_succ, List.set_cons_zero]
                        refine wpAnyH_take_d 13 (some 103) (.bool bq) rfl (by kernel_rfl) (by kernel_rfl) (by kernel_rfl) (by kernel_rfl) rfl (fun _ _ _ h => h) (fun _ _ => by kernel_rfl) (by exact hS) ?_
                        simp only [Act.put, List.setIfInBounds_toArray, List.set_cons_succ, List.set_cons_zero]
                        refine wpAnyH_take_d 14 (some 13) (.bool bq) rfl (by kernel_rfl) (by kernel_rfl) (by kernel_rfl) (by kernel_rfl) rfl (fun _ _ _ h => h) (fun _ _ => by kernel_rfl) (by exact hS) ?_
                        simp only [Act.put, List.setIfInBounds_toArray, List.set_cons_succ, List.set_cons_zero]
                        refine wpAnyH_done (by kernel_rfl) ?_ _
                        have SX := Lib.hid hsx.drew
                        have MX := Lib.hid (hmx.keep (w' := wr.drew) (fun _ _ _ h => h) (fun _ h => h))
                        have YX := Lib.hid (byx.keep (w' := wr.drew) (fun _ _ _ h => h))
                        have BX := Lib.hid bx.drew
                        have NX := Lib.hid hnx
                        clear hsx hmx bx byx hnx hnot hcl hcv hrow hhb hatb hbq htj
                        go_wp2
                        go_roundw
                        case rel => exact ⟨j + 1, by omega, by go_num, bq, rfl, NX.out, SX.out, MX.out, YX.out, BX.out⟩
                        case measure => simp [intOf]; omega
                      · go_wp2_with fail
                        have hS : wr.drew = wr.drew := rfl
                        refine wp_region_held_drew (S := fun w' => w' = wr.drew) mixed hS (fun _ => ?_)
                        show wpAnyH _ _ _ _ _ 15 (Array.replicate 15 false) _ _
                        refine wpAnyH_take_d 0 (some 90) (.bool true) rfl (by kernel_rfl) (by kernel_rfl) (by kernel_rfl) (by kernel_rfl) rfl (fun _ _ _ h => h) (fun _ _ => by kernel_rfl) (by exact hS) ?_
                        simp only [Act.put, List.setIfInBounds_toArray, List.set_cons_succ, List.set_cons_zero]
                        refine wpAnyH_take_d 1 (some 91) (.bool true) rfl (by kernel_rfl) (by kernel_rfl) (by kernel_rfl) (by kernel_rfl) rfl (fun _ _ _ h => h) (fun _ _ => by kernel_rfl) (by exact hS) ?_
                        simp only [Act.put, List.setIfInBounds_toArray, List.set_cons_succ, List.set_cons_zero]
                        refine wpAnyH_skip_d 2 (some 92) rfl (by kernel_rfl) (by kernel_rfl) (by kernel_rfl) (by kernel_rfl) rfl (fun _ _ _ h => h) (by exact hS) ?_
                        simp only [Act.put, List.setIfInBounds_toArray, List.set_cons_succ, List.set_cons_zero]
                        refine wpAnyH_skip_d 3 (some 93) rfl (by kernel_rfl) (by kernel_rfl) (by kernel_rfl) (by kernel_rfl) rfl (fun _ _ _ h => h) (by exact hS) ?_
                        simp only [Act.put, List.setIfInBounds_toArray, List.set_cons_succ, List.set_cons_zero]
                        refine wpAnyH_skip_d 4 (some 94) rfl (by kernel_rfl) (by kernel_rfl) (by kernel_rfl) (by kernel_rfl) rfl (fun _ _ _ h => h) (by exact hS) ?_
                        simp only [Act.put, List.setIfInBounds_toArray, List.set_cons_succ, List.set_cons_zero]
                        refine wpAnyH_skip_d 5 (some 95) rfl (by kernel_rfl) (by kernel_rfl) (by kernel_rfl) (by kernel_rfl) rfl (fun _ _ _ h => h) (by exact hS) ?_
                        simp only [Act.put, List.setIfInBounds_toArray, List.set_cons_succ, List.set_cons_zero]
                        refine wpAnyH_skip_d 6 (some 96) rfl (by kernel_rfl) (by kernel_rfl) (by kernel_rfl) (by kernel_rfl) rfl (fun _ _ _ h => h) (by exact hS) ?_
                        simp only [Act.put, List.setIfInBounds_toArray, List.set_cons_succ, List.set_cons_zero]
                        refine wpAnyH_skip_d 7 (some 97) rfl (by kernel_rfl) (by kernel_rfl) (by kernel_rfl) (by kernel_rfl) rfl (fun _ _ _ h => h) (by exact hS) ?_
                        simp only [Act.put, List.setIfInBounds_toArray, List.set_cons_succ, List.set_cons_zero]
                        refine wpAnyH_skip_d 8 (some 98) rfl (by kernel_rfl) (by kernel_rfl) (by kernel_rfl) (by kernel_rfl) rfl (fun _ _ _ h => h) (by exact hS) ?_
                        simp only [Act.put, List.setIfInBounds_toArray, List.set_cons_succ, List.set_cons_zero]
                        refine wpAnyH_skip_d 9 (some 99) rfl (by kernel_rfl) (by kernel_rfl) (by kernel_rfl) (by kernel_rfl) rfl (fun _ _ _ h => h) (by exact hS) ?_
                        simp only [Act.put, List.setIfInBounds_toArray, List.set_cons_succ, List.set_cons_zero]
                        refine wpAnyH_skip_d 10 (some 100) rfl (by kernel_rfl) (by kernel_rfl) (by kernel_rfl) (by kernel_rfl) rfl (fun _ _ _ h => h) (by exact hS) ?_
                        simp only [Act.put, List.setIfInBounds_toArray, List.set_cons_succ, List.set_cons_zero]
                        refine wpAnyH_skip_d 11 (some 101) rfl (by kernel_rfl) (by kernel_rfl) (by kernel_rfl) (by kernel_rfl) rfl (fun _ _ _ h => h) (by exact hS) ?_
                        simp only [Act.put, List.setIfInBounds_toArray, List.set_cons_succ, List.set_cons_zero]
                        refine wpAnyH_skip_d 12 (some 102) rfl (by kernel_rfl) (by kernel_rfl) (by kernel_rfl) (by kernel_rfl) rfl (fun _ _ _ h => h) (by exact hS) ?_
                        simp only [Act.put, List.setIfInBounds_toArray, List.set_cons_succ, List.set_cons_zero]
                        refine wpAnyH_take_d 13 (some 103) (.bool true) rfl (by kernel_rfl) (by kernel_rfl) (by kernel_rfl) (by kernel_rfl) rfl (fun _ _ _ h => h) (fun _ _ => by kernel_rfl) (by exact hS) ?_
                        simp only [Act.put, List.setIfInBounds_toArray, List.set_cons_succ, List.set_cons_zero]
                        refine wpAnyH_take_d 14 (some 13) (.bool true) rfl (by kernel_rfl) (by kernel_rfl) (by kernel_rfl) (by kernel_rfl) rfl (fun _ _ _ h => h) (fun _ _ => by kernel_rfl) (by exact hS) ?_
                        simp only [Act.put, List.setIfInBounds_toArray, List.set_cons_succ, List.set_cons_zero]
                        refine wpAnyH_done (by kernel_rfl) ?_ _
                        have SX := Lib.hid hsx.drew
                        have MX := Lib.hid (hmx.keep (w' := wr.drew) (fun _ _ _ h => h) (fun _ h => h))
                        have YX := Lib.hid (byx.keep (w' := wr.drew) (fun _ _ _ h => h))
                        have BX := Lib.hid bx.drew
                        clear hsx hmx bx byx hfb
                        go_wp2
                        go_roundw
                        case rel => exact ⟨j + 1, by omega, by go_num, true, rfl, Or.inl rfl, SX.out, MX.out, YX.out, BX.out⟩
                        case measure => simp [intOf]; omega
                    · obtain rfl : j = ms5.length := by omega
                      obtain rfl : fb = true := by
                        rcases hfb with h | h
                        · exact h
                        · obtain ⟨i, hi, e⟩ := List.mem_iff_getElem.1 hmt
                          refine absurd ?_ (h i hi)
                          rw [List.getD_eq_getElem?_getD, List.getElem?_eq_getElem hi, e]; rfl
                      clear byx hfb
                      go_wp2
                      go_roundw
                      case rel => exact ⟨k + 1, by omega, by omega, by go_num, no, ms5, X7, bl6, c + 1 + 1 + 1, rfl, hX7, hmx, by omega, hms5, by omega, hsx.more (by omega), GOOD.out, bx⟩
                      case measure => simp [intOf]; omega
          · go_wp2_with fail
            have hq0 := script_any (hs.below (below_alloc wr (.cells #[.int .i64 0] 3))) (ints_lit1 wr 0 (by decide)) (by show (0 + 1) * 8 ≤ 140737488355328; decide)
            refine hq0.mono ?_
            rintro e w2 ⟨rfl, hs2, kp2⟩
            have b2 : Below W.heap.size W w2 := below_step bk (below_alloc wr _) kp2 bk.size hX
            replace hs2 : StoAt X w2 wa.heap.size ⟨bl, 0, ByteArray.empty, [0], c⟩ (2 * k) := hs2
            have hmay2 := (hmay.keep (fun k o _ ho => ((below_alloc wr _).block k (lt_of_heap ho)).trans ho) (fun _ h => h)).keep (fun k o hx ho => kp2.keep k o hx ho) (fun _ h => h)
            have hcl2 := hcA w2 b2
            obtain ⟨vb, w3, hrun3, by3, bl3⟩ := run_bytes_of w2 d hds
            have RUN3 := Lib.hid hrun3
            clear hq0 hs kp2 hmay bk hrun3
            go_wp2_with (with_reducible refine wpList_convert_eq rfl 9 36 (.tmp 50) rfl (.string d) vb rfl RUN3.out ?_)
            clear hcl2
            have hs3 := hs2.wd bl3
            have hmay3 := hmay2.keep (Y' := Wd X w2.heap.size w3.heap.size) (fun k o _ ho => (bl3.block k (lt_of_heap ho)).trans ho) (fun _ h => Or.inl h)
            have by3' := by3.mono (Y' := Wd X w2.heap.size w3.heap.size) (fun _ _ h => Or.inr h)
            have hX3 : ∀ j, j < W.heap.size → Wd X w2.heap.size w3.heap.size j := fun j hj => Or.inl (hX j hj)
            have b3 : Below W.heap.size W w3 := b2.trans (bl3.mono b2.size)
            generalize Wd X w2.heap.size w3.heap.size = X4 at hs3 hmay3 by3' hX3
            have hX4 := hX3
            have hp := put_any hs3 (by show c < _; omega) (by unfold maxLen; omega) (ByteArray.mk #[105, 116]) (by decide) by3'
            have hbs : d.data.toList.length ≤ 60000 := by simp; omega
            by_cases hq : rest3 0 = 0
            · obtain ⟨q1, q2⟩ := put0 (bl := bl) (c := c) hq hbs
              rw [q1, q2] at hp
              clear q1 q2 hq hbs
              refine hp.mono ?_
              rintro e w4 ⟨rfl, hs4, kp4⟩
              have b4 : Below W.heap.size W w4 := below_step b3 (Below.refl _ _) kp4 b3.size hX4
              clear hp hs3 kp4 b3 hmay3 by3 by3' bl3 hs2 hmay2 b2 hX hX3 RUN3
              go_wp2_with fail
              have hS : Below w4.heap.size w4 w4.drew := (Below.refl _ _).drew
              have hcB : ∀ w', Below w4.heap.size w4 w' → w'.cell? ⟨b, off + k, none⟩ = some (.string d) := fun w' h => hcA w' (b4.trans (h.mono b4.size))
              refine wp_region_held_drew (S := fun w' => Below w4.heap.size w4 w') mixed hS (fun _ => ?_)
              show wpAnyH _ _ _ _ _ 7 (Array.replicate 7 false) _ _
              refine wpAnyH_take_d 0 (some 55) (.slice (some ⟨b, off, none⟩) z0.length cap) rfl (by kernel_rfl) (by kernel_rfl) (by kernel_rfl) (by kernel_rfl) rfl (fun _ _ _ h => h) (fun _ _ => by kernel_rfl) (by exact hS) ?_
              simp only [Act.put, List.setIfInBounds_toArray, List.set_cons_succ, List.set_cons_zero]
              refine wpAnyH_take_d 1 (some 56) (.int .i64 k) rfl (by kernel_rfl) (by kernel_rfl) (by kernel_rfl) (by kernel_rfl) rfl (fun _ _ _ h => h) (fun _ _ => by kernel_rfl) (by exact hS) ?_
              simp only [Act.put, List.setIfInBounds_toArray, List.set_cons_succ, List.set_cons_zero]
              refine wpAnyH_take_d 2 (some 57) (.pointer (some ⟨b, off + k, none⟩)) rfl (by kernel_rfl) (by kernel_rfl) (by kernel_rfl) (by kernel_rfl) rfl (fun _ _ _ h => h) (fun w' h => exec_indexAddr rfl rfl rfl hlt Try.underlying27 (by kernel_rfl)) (by exact hS) ?_
              simp only [Act.put, List.setIfInBounds_toArray, List.set_cons_succ, List.set_cons_zero]
              refine wpAnyH_take_d 3 (some 58) (.string d) rfl (by kernel_rfl) (by kernel_rfl) (by kernel_rfl) (by kernel_rfl) rfl (fun _ _ _ h => h) (fun w' h => exec_load_cell rfl rfl (hcB w' h) Try.underlying9 rfl) (by exact hS) ?_
              simp only [Act.put, List.setIfInBounds_toArray, List.set_cons_succ, List.set_cons_zero]
              refine wpAnyH_take_d 5 (some 6) (.bool false) rfl (by kernel_rfl) (by kernel_rfl) (by kernel_rfl) (by kernel_rfl) rfl (fun _ _ _ h => h) (fun _ _ => by kernel_rfl) (by exact hS) ?_
              simp only [Act.put, List.setIfInBounds_toArray, List.set_cons_succ, List.set_cons_zero]
              have hb5 : Below w4.heap.size w4 (w4.drew.alloc (.cells #[.string d] 9)) := ((Below.refl _ _).drew).alloc (by simp) _
              have hS : Below w4.heap.size w4 (w4.drew.alloc (.cells #[.string d] 9)) := hb5
              refine wpAnyH_one 4 (some 59) (.slice (some ⟨w4.heap.size, 0, none⟩) 1 1) rfl (by kernel_rfl) (by kernel_rfl) rfl (exec_build1 rfl rfl (build1 w4.drew d)) (by exact hS) ?_
              simp only [Act.put, List.setIfInBounds_toArray, List.set_cons_succ, List.set_cons_zero]
              refine wpAnyH_take_d 6 (some 7) (.slice (some ⟨w4.heap.size, 0, none⟩) 1 1) rfl (by kernel_rfl) (by kernel_rfl) (by kernel_rfl) (by kernel_rfl) rfl (fun _ _ _ h => h) (fun _ _ => by kernel_rfl) (by exact hS) ?_
              simp only [Act.put, List.setIfInBounds_toArray, List.set_cons_succ, List.set_cons_zero]
              refine wpAnyH_done (by kernel_rfl) ?_ _
              have hmay5 : MayIn (Wd X4 w4.heap.size (w4.drew.alloc (.cells #[.string d] 9)).heap.size) (w4.drew.alloc (.cells #[.string d] 9)) (.slice (some ⟨w4.heap.size, 0, none⟩) 1 1) [d] := may_one w4.drew d (wd_in (Nat.le_refl _) (by simp))
              generalize w4.drew.alloc (.cells #[.string d] 9) = w5 at *
              have hs5 := hs4.wd hb5
              have hX5 : ∀ j, j < W.heap.size → Wd X4 w4.heap.size w5.heap.size j := fun j hj => Or.inl (hX4 j hj)
              have b5 : Below W.heap.size W w5 := b4.trans (hb5.mono b4.size)
              generalize Wd X4 w4.heap.size w5.heap.size = X5 at hs5 hX5 hmay5
              obtain ⟨ms5, hms5e⟩ : ∃ x, [d] = x := ⟨_, rfl⟩
              obtain ⟨bl5, hbl5⟩ : ∃ x, putF bl IT d.data.toList = x := ⟨_, rfl⟩
              have good5 : Good false ms5 (bl5 IT) := by rw [← hms5e, ← hbl5]; exact Or.inr ⟨d, List.mem_singleton.2 rfl, by simp [putF]⟩
              have hml5 : ms5.length ≤ k + 1 := by rw [← hms5e]; simp
              have hms5 : ∀ m ∈ ms5, m.size ≤ 5000 := by
                intro m hm
                rw [← hms5e] at hm
                rw [List.mem_singleton.1 hm]; exact h5
              obtain ⟨mv5, hmv5⟩ : ∃ x, Value.slice (some ⟨w4.heap.size, 0, none⟩) 1 1 = x := ⟨_, rfl⟩
              rw [hmv5] at hmay5 ⊢
              rw [hms5e] at hmay5
              rw [hbl5] at hs5
              clear hS hb5 hs4 hX4 hms hml hgood hms5e hbl5 b4 hcA hcB hmv5
              go_wp2_with fail
              have hp := put_any (hs5.wd (below_alloc w5 (.cells #[byteV 111] 5 (1, 2)))) (by show c + 1 < _; omega) (by unfold maxLen; omega) (ByteArray.mk #[111, 116, 104, 101, 114]) (by decide) (bytes_lit1 w5 111)
              obtain ⟨q1, bl6, q2, q3⟩ := putO (bl := bl5) (c := c + 1)
              rw [q1, q2] at hp
              clear q1 q2
              refine hp.mono ?_
              rintro e w6 ⟨rfl, hs6, kp6⟩
              have b6 : Below W.heap.size W w6 := below_step b5 (below_alloc w5 _) kp6.unwd b5.size hX5
              have hmay6 := (hmay5.keep (fun k o _ ho => ((below_alloc w5 _).block k (lt_of_heap ho)).trans ho) (fun _ h => h)).keep (fun k o hx ho => kp6.unwd.keep k o hx ho) (fun _ h => h)
              replace hs6 := hs6.unwd
              have good6 : Good false ms5 (bl6 IT) := by rw [q3]; exact good5
              clear hp hs5 kp6 b5 hmay5 q3 good5 hcv
              obtain ⟨g1, g2, g3⟩ := getI (bl := bl6) (c := c + 1 + 1)
              have hsz : ∀ t, bl6 IT = some t → t.length ≤ 1000000000000 := fun t ht => by
                rcases good6 with ⟨h1, _⟩ | ⟨m, hm, h1⟩
                · rw [h1] at ht; cases ht
                · rw [h1] at ht; cases ht; have := hms5 m hm; simp; omega
              have hg := get_any hs6 (by show c + 1 + 1 < _; omega) (ByteArray.mk #[105, 116]) (by decide) hsz
              rw [g1] at hg
              go_wp2_with fail
              refine hg.mono ?_
              rintro e w7 ⟨v7, m7, rfl, hm7, hs7, by7, kp7⟩
              have b7 : Below W.heap.size W w7 := below_step b6 (Below.refl _ _) kp7 b6.size hX5
              have hmay7 := hmay6.keep (Y' := Wd X5 m7 w7.heap.size) (fun k o hx ho => kp7.keep k o hx ho) (fun _ h => Or.inl h)
              have hX7 : ∀ j, j < W.heap.size → Wd X5 m7 w7.heap.size j := fun j hj => Or.inl (hX5 j hj)
              generalize Wd X5 m7 w7.heap.size = X7 at hs7 by7 hmay7 hX7
              clear hg hs6 kp7 b6 hmay6 hm7 g1 hsz hX5
              obtain ⟨mo, mcap, rfl, hmrow⟩ := hmay7.form
              rcases good6 with ⟨hn, hno⟩ | ⟨mt, hmt, hn⟩
              · cases hno
              · obtain ⟨g4, g5⟩ := g3 _ hn
                rw [g4] at *
                rw [g5] at by7
                have GOOD := Lib.hid (show Good false ms5 (bl6 IT) from Or.inr ⟨mt, hmt, hn⟩)
                clear g2 g3 g4 g5
                go_wp2
                go_loopw [13, 14] (fun fv jv wx => ∃ j : Nat, j ≤ ms5.length ∧ jv = .int .i64 j ∧ ∃ fb, fv = .bool fb ∧ (fb = true ∨ ∀ i, i < j → (ms5.getD i ByteArray.empty).data.toList ≠ mt.data.toList) ∧ StoAt X7 wx wa.heap.size ⟨bl6, 0, ByteArray.empty, [], c + 1 + 1 + 1⟩ (2 * k + 1 + 1) ∧ MayIn X7 wx (.slice mo ms5.length mcap) ms5 ∧ BytesIn X7 wx v7 mt.data.toList ∧ Below W.heap.size W wx) (fun _ jv _ => ms5.length - (intOf jv).toNat)
                case atStart => exact ⟨0, Nat.zero_le _, rfl, false, rfl, Or.inr (fun i hi => by omega), hs7, hmay7, by7, b7⟩
                case round =>
                  clear hs7 hmay7 b7 by7
                  obtain ⟨j, hj, rfl, fb, rfl, hfb, hsx, hmx, byx, bx⟩ := hrel
                  by_cases hjl : j < ms5.length
                  · cases fb
                    · have hnot : ∀ i, i < j → (ms5.getD i ByteArray.empty).data.toList ≠ mt.data.toList := by
                        rcases hfb with h | h
                        · cases h
                        · exact h
                      obtain ⟨mo', mcap', e, hrow⟩ := hmx
                      have hrow' := hrow (by omega)
                      obtain ⟨bb, boff, bcs, bfz, rfl, hyb, hhb, hatb⟩ := hrow'
                      cases e
                      have hmx : MayIn X7 wr (.slice (some ⟨bb, boff, none⟩) ms5.length mcap) ms5 := ⟨_, _, rfl, hrow⟩
                      have hcl : wr.drew.cell? ⟨bb, boff + j, none⟩ = some (.string (ms5.getD j ByteArray.empty)) := cell_row hhb _ (hatb j hjl)
                      have hcv := run_string_at (w := wr.drew) byx.at
                      obtain ⟨tj, htj⟩ : ∃ t, ms5.getD j ByteArray.empty = t := ⟨_, rfl⟩
                      obtain ⟨bq, hbq⟩ : ∃ bq, ((strOf mt.data.toList).toList == tj.toList) = bq := ⟨_, rfl⟩
                      rw [htj] at hcl
                      have hnx : bq = true ∨ ∀ i, i < j + 1 → (ms5.getD i ByteArray.empty).data.toList ≠ mt.data.toList := by
                        cases bq
                        · refine Or.inr (fun i hi => ?_)
                          by_cases hij : i < j
                          · exact hnot i hij
                          · obtain rfl : i = j := by omega
                            rw [htj]
                            intro e
                            rw [ByteArray.toList_eq, ByteArray.toList_eq, e] at hbq
                            simp [strOf] at hbq
                        · exact Or.inl rfl
                      go_wp2_with fail
                      have hS : wr.drew = wr.drew := rfl
                      refine wp_region_held_drew (S := fun w' => w' = wr.drew) mixed hS (fun _ => ?_)
                      show wpAnyH _ _ _ _ _ 15 (Array.replicate 15 false) _ _
                      refine wpAnyH_take_d 0 (some 90) (.bool false) rfl (by kernel_rfl) (by kernel_rfl) (by kernel_rfl) (by kernel_rfl) rfl (fun _ _ _ h => h) (fun _ _ => by kernel_rfl) (by exact hS) ?_
                      simp only [Act.put, List.setIfInBounds_toArray, List.set_cons_succ, List.set_cons_zero]
                      refine wpAnyH_take_d 1 (some 91) (.bool false) rfl (by kernel_rfl) (by kernel_rfl) (by kernel_rfl) (by kernel_rfl) rfl (fun _ _ _ h => h) (fun _ _ => by kernel_rfl) (by exact hS) ?_
                      simp only [Act.put, List.setIfInBounds_toArray, List.set_cons_succ, List.set_cons_zero]
                      refine wpAnyH_take_d 2 (some 92) (.int .i64 0) rfl (by kernel_rfl) (by kernel_rfl) (by kernel_rfl) (by kernel_rfl) rfl (fun _ _ _ h => h) (fun _ _ => by kernel_rfl) (by exact hS) ?_
                      simp only [Act.put, List.setIfInBounds_toArray, List.set_cons_succ, List.set_cons_zero]
                      refine wpAnyH_take_d 3 (some 93) (.bool true) rfl (by kernel_rfl) (by kernel_rfl) (by kernel_rfl) (by kernel_rfl) rfl (fun _ _ _ h => h) (fun _ _ => by kernel_rfl) (by exact hS) ?_
                      simp only [Act.put, List.setIfInBounds_toArray, List.set_cons_succ, List.set_cons_zero]
                      refine wpAnyH_take_d 4 (some 94) (.bool true) rfl (by kernel_rfl) (by kernel_rfl) (by kernel_rfl) (by kernel_rfl) rfl (fun _ _ _ h => h) (fun _ _ => by kernel_rfl) (by exact hS) ?_
                      simp only [Act.put, List.setIfInBounds_toArray, List.set_cons_succ, List.set_cons_zero]
                      refine wpAnyH_take_d 5 (some 95) (v7) rfl (by kernel_rfl) (by kernel_rfl) (by kernel_rfl) (by kernel_rfl) rfl (fun _ _ _ h => h) (fun _ _ => by kernel_rfl) (by exact hS) ?_
                      simp only [Act.put, List.setIfInBounds_toArray, List.set_cons_succ, List.set_cons_zero]
                      refine wpAnyH_take_d 6 (some 96) (.string (strOf mt.data.toList)) rfl (by kernel_rfl) (by kernel_rfl) (by kernel_rfl) (by kernel_rfl) rfl (fun _ _ _ h => h) (fun w' h => by subst h; exact exec_convert rfl rfl hcv) (by exact hS) ?_
                      simp only [Act.put, List.setIfInBounds_toArray, List.set_cons_succ, List.set_cons_zero]
                      refine wpAnyH_take_d 7 (some 97) (.slice (some ⟨bb, boff, none⟩) ms5.length mcap) rfl (by kernel_rfl) (by kernel_rfl) (by kernel_rfl) (by kernel_rfl) rfl (fun _ _ _ h => h) (fun _ _ => by kernel_rfl) (by exact hS) ?_
                      simp only [Act.put, List.setIfInBounds_toArray, List.set_cons_succ, List.set_cons_zero]
                      refine wpAnyH_take_d 8 (some 98) (.int .i64 j) rfl (by kernel_rfl) (by kernel_rfl) (by kernel_rfl) (by kernel_rfl) rfl (fun _ _ _ h => h) (fun _ _ => by kernel_rfl) (by exact hS) ?_
                      simp only [Act.put, List.setIfInBounds_toArray, List.set_cons_succ, List.set_cons_zero]
                      refine wpAnyH_take_d 9 (some 99) (.pointer (some ⟨bb, boff + j, none⟩)) rfl (by kernel_rfl) (by kernel_rfl) (by kernel_rfl) (by kernel_rfl) rfl (fun _ _ _ h => h) (fun w' h => exec_indexAddr rfl rfl rfl hjl Try.underlying27 (by kernel_rfl)) (by exact hS) ?_
                      simp only [Act.put, List.setIfInBounds_toArray, List.set_cons_succ, List.set_cons_zero]
                      refine wpAnyH_take_d 10 (some 100) (.string tj) rfl (by kernel_rfl) (by kernel_rfl) (by kernel_rfl) (by kernel_rfl) rfl (fun _ _ _ h => h) (fun w' h => by subst h; exact exec_load_cell rfl rfl hcl Try.underlying9 rfl) (by exact hS) ?_
                      simp only [Act.put, List.setIfInBounds_toArray, List.set_cons_succ, List.set_cons_zero]
                      refine wpAnyH_take_d 11 (some 101) (.bool bq) rfl (by kernel_rfl) (by kernel_rfl) (by kernel_rfl) (by kernel_rfl) rfl (fun _ _ _ h => h) (fun w' h => exec_streq rfl rfl rfl hbq) (by exact hS) ?_
                      simp only [Act.put, List.setIfInBounds_toArray, List.set_cons_succ, List.set_cons_zero]
                      refine wpAnyH_take_d 12 (some 102) (.bool bq) rfl (by kernel_rfl) (by kernel_rfl) (by kernel_rfl) (by kernel_rfl) rfl (fun _ _ _ h => h) (fun _ _ => by kernel_rfl) (by exact hS) ?_
                      simp only [Act.put, List.setIfInBounds_toArray, List.set_cons_succ, List.set_cons_zero]
                      refine wpAnyH_take_d 13 (some 103) (.bool bq) rfl (by kernel_rfl) (by kernel_rfl) (by kernel_rfl) (by kernel_rfl) rfl (fun _ _ _ h => h) (fun _ _ => by kernel_rfl) (by exact hS) ?_
                      simp only [Act.put, List.setIfInBounds_toArray, List.set_cons_succ, List.set_cons_zero]
                      refine wpAnyH_take_d 14 (some 13) (.bool bq) rfl (by kernel_rfl) (by kernel_rfl) (by kernel_rfl) (by kernel_rfl) rfl (fun _ _ _ h => h) (fun _ _ => by kernel_rfl) (by exact hS) ?_
                      simp only [Act.put, List.setIfInBounds_toArray, List.set_cons_succ, List.set_cons_zero]
                      refine wpAnyH_done (by kernel_rfl) ?_ _
                      have SX := Lib.hid hsx.drew
                      have MX := Lib.hid (hmx.keep (w' := wr.drew) (fun _ _ _ h => h) (fun _ h => h))
                      have YX := Lib.hid (byx.keep (w' := wr.drew) (fun _ _ _ h => h))
                      have BX := Lib.hid bx.drew
                      have NX := Lib.hid hnx
                      clear hsx hmx bx byx hnx hnot hcl hcv hrow hhb hatb hbq htj
                      go_wp2
                      go_roundw
                      case rel => exact ⟨j + 1, by omega, by go_num, bq, rfl, NX.out, SX.out, MX.out, YX.out, BX.out⟩
                      case measure => simp [intOf]; omega
                    · go_wp2_with fail
                      have hS : wr.drew = wr.drew := rfl
                      refine wp_region_held_drew (S := fun w' => w' = wr.drew) mixed hS (fun _ => ?_)
                      show wpAnyH _ _ _ _ _ 15 (Array.replicate 15 false) _ _
                      refine wpAnyH_take_d 0 (some 90) (.bool true) rfl (by kernel_rfl) (by kernel_rfl) (by kernel_rfl) (by kernel_rfl) rfl (fun _ _ _ h => h) (fun _ _ => by kernel_rfl) (by exact hS) ?_
                      simp only [Act.put, List.setIfInBounds_toArray, List.set_cons_succ, List.set_cons_zero]
                      refine wpAnyH_take_d 1 (some 91) (.bool true) rfl (by kernel_rfl) (by kernel_rfl) (by kernel_rfl) (by kernel_rfl) rfl (fun _ _ _ h => h) (fun _ _ => by kernel_rfl) (by exact hS) ?_
                      simp only [Act.put, List.setIfInBounds_toArray, List.set_cons_succ, List.set_cons_zero]
                      refine wpAnyH_skip_d 2 (some 92) rfl (by kernel_rfl) (by kernel_rfl) (by kernel_rfl) (by kernel_rfl) rfl (fun _ _ _ h => h) (by exact hS) ?_
                      simp only [Act.put, List.setIfInBounds_toArray, List.set_cons_succ, List.set_cons_zero]
                      refine wpAnyH_skip_d 3 (some 93) rfl (by kernel_rfl) (by kernel_rfl) (by kernel_rfl) (by kernel_rfl) rfl (fun _ _ _ h => h) (by exact hS) ?_
                      simp only [Act.put, List.setIfInBounds_toArray, List.set_cons_succ, List.set_cons_zero]
                      refine wpAnyH_skip_d 4 (some 94) rfl (by kernel_rfl) (by kernel_rfl) (by kernel_rfl) (by kernel_rfl) rfl (fun _ _ _ h => h) (by exact hS) ?_
                      simp only [Act.put, List.setIfInBounds_toArray, List.set_cons_succ, List.set_cons_zero]
                      refine wpAnyH_skip_d 5 (some 95) rfl (by kernel_rfl) (by kernel_rfl) (by kernel_rfl) (by kernel_rfl) rfl (fun _ _ _ h => h) (by exact hS) ?_
                      simp only [Act.put, List.setIfInBounds_toArray, List.set_cons_succ, List.set_cons_zero]
                      refine wpAnyH_skip_d 6 (some 96) rfl (by kernel_rfl) (by kernel_rfl) (by kernel_rfl) (by kernel_rfl) rfl (fun _ _ _ h => h) (by exact hS) ?_
                      simp only [Act.put, List.setIfInBounds_toArray, List.set_cons_succ, List.set_cons_zero]
                      refine wpAnyH_skip_d 7 (some 97) rfl (by kernel_rfl) (by kernel_rfl) (by kernel_rfl) (by kernel_rfl) rfl (fun _ _ _ h => h) (by exact hS) ?_
                      simp only [Act.put, List.setIfInBounds_toArray, List.set_cons_succ, List.set_cons_zero]
                      refine wpAnyH_skip_d 8 (some 98) rfl (by kernel_rfl) (by kernel_rfl) (by kernel_rfl) (by kernel_rfl) rfl (fun _ _ _ h => h) (by exact hS) ?_
                      simp only [Act.put, List.setIfInBounds_toArray, List.set_cons_succ, List.set_cons_zero]
                      refine wpAnyH_skip_d 9 (some 99) rfl (by kernel_rfl) (by kernel_rfl) (by kernel_rfl) (by kernel_rfl) rfl (fun _ _ _ h => h) (by exact hS) ?_
                      simp only [Act.put, List.setIfInBounds_toArray, List.set_cons_succ, List.set_cons_zero]
                      refine wpAnyH_skip_d 10 (some 100) rfl (by kernel_rfl) (by kernel_rfl) (by kernel_rfl) (by kernel_rfl) rfl (fun _ _ _ h => h) (by exact hS) ?_
                      simp only [Act.put, List.setIfInBounds_toArray, List.set_cons_succ, List.set_cons_zero]
                      refine wpAnyH_skip_d 11 (some 101) rfl (by kernel_rfl) (by kernel_rfl) (by kernel_rfl) (by kernel_rfl) rfl (fun _ _ _ h => h) (by exact hS) ?_
                      simp only [Act.put, List.setIfInBounds_toArray, List.set_cons_succ, List.set_cons_zero]
                      refine wpAnyH_skip_d 12 (some 102) rfl (by kernel_rfl) (by kernel_rfl) (by kernel_rfl) (by kernel_rfl) rfl (fun _ _ _ h => h) (by exact hS) ?_
                      simp only [Act.put, List.setIfInBounds_toArray, List.set_cons_succ, List.set_cons_zero]
                      refine wpAnyH_take_d 13 (some 103) (.bool true) rfl (by kernel_rfl) (by kernel_rfl) (by kernel_rfl) (by kernel_rfl) rfl (fun _ _ _ h => h) (fun _ _ => by kernel_rfl) (by exact hS) ?_
                      simp only [Act.put, List.setIfInBounds_toArray, List.set_cons_succ, List.set_cons_zero]
                      refine wpAnyH_take_d 14 (some 13) (.bool true) rfl (by kernel_rfl) (by kernel_rfl) (by kernel_rfl) (by kernel_rfl) rfl (fun _ _ _ h => h) (fun _ _ => by kernel_rfl) (by exact hS) ?_
                      simp only [Act.put, List.setIfInBounds_toArray, List.set_cons_succ, List.set_cons_zero]
                      refine wpAnyH_done (by kernel_rfl) ?_ _
                      have SX := Lib.hid hsx.drew
                      have MX := Lib.hid (hmx.keep (w' := wr.drew) (fun _ _ _ h => h) (fun _ h => h))
                      have YX := Lib.hid (byx.keep (w' := wr.drew) (fun _ _ _ h => h))
                      have BX := Lib.hid bx.drew
                      clear hsx hmx bx byx hfb
                      go_wp2
                      go_roundw
                      case rel => exact ⟨j + 1, by omega, by go_num, true, rfl, Or.inl rfl, SX.out, MX.out, YX.out, BX.out⟩
                      case measure => simp [intOf]; omega
                  · obtain rfl : j = ms5.length := by omega
                    obtain rfl : fb = true := by
                      rcases hfb with h | h
                      · exact h
                      · obtain ⟨i, hi, e⟩ := List.mem_iff_getElem.1 hmt
                        refine absurd ?_ (h i hi)
                        rw [List.getD_eq_getElem?_getD, List.getElem?_eq_getElem hi, e]; rfl
                    clear byx hfb
                    go_wp2
                    go_roundw
                    case rel => exact ⟨k + 1, by omega, by omega, by go_num, false, ms5, X7, bl6, c + 1 + 1 + 1, rfl, hX7, hmx, by omega, hms5, by omega, hsx.more (by omega), GOOD.out, bx⟩
                    case measure => simp [intOf]; omega

            · obtain ⟨q1, blx, q2, hor⟩ := put1 (bl := bl) (c := c) hq hbs
              rw [q1, q2] at hp
              clear q1 q2 hq hbs
              refine hp.mono ?_
              rintro e w4 ⟨rfl, hs4, kp4⟩
              have b4 : Below W.heap.size W w4 := below_step b3 (Below.refl _ _) kp4 b3.size hX4
              have hmay4 := hmay3.keep (fun k o hx ho => kp4.keep k o hx ho) (fun _ h => h)
              clear hp hs3 kp4 b3 hmay3 by3 by3' bl3 hs2 hmay2 b2 hX hX3 RUN3
              go_wp2_with fail
              have hS : Below w4.heap.size w4 w4.drew := (Below.refl _ _).drew
              have hcB : ∀ w', Below w4.heap.size w4 w' → w'.cell? ⟨b, off + k, none⟩ = some (.string d) := fun w' h => hcA w' (b4.trans (h.mono b4.size))
              have hmB : ∀ w', Below w4.heap.size w4 w' → MayIn X4 w' u7 ms := fun w' h => hmay4.keep (fun k o _ ho => (h.block k (lt_of_heap ho)).trans ho) (fun _ h => h)
              refine wp_region_held_drew (S := fun w' => Below w4.heap.size w4 w') mixed hS (fun _ => ?_)
              show wpAnyH _ _ _ _ _ 10 (Array.replicate 10 false) _ _
              refine wpAnyH_take_d 1 (some 61) (u7) rfl (by kernel_rfl) (by kernel_rfl) (by kernel_rfl) (by kernel_rfl) rfl (fun _ _ _ h => h) (fun _ _ => by kernel_rfl) (by exact hS) ?_
              simp only [Act.put, List.setIfInBounds_toArray, List.set_cons_succ, List.set_cons_zero]
              refine wpAnyH_take_d 3 (some 63) (.slice (some ⟨b, off, none⟩) z0.length cap) rfl (by kernel_rfl) (by kernel_rfl) (by kernel_rfl) (by kernel_rfl) rfl (fun _ _ _ h => h) (fun _ _ => by kernel_rfl) (by exact hS) ?_
              simp only [Act.put, List.setIfInBounds_toArray, List.set_cons_succ, List.set_cons_zero]
              refine wpAnyH_take_d 4 (some 64) (.int .i64 k) rfl (by kernel_rfl) (by kernel_rfl) (by kernel_rfl) (by kernel_rfl) rfl (fun _ _ _ h => h) (fun _ _ => by kernel_rfl) (by exact hS) ?_
              simp only [Act.put, List.setIfInBounds_toArray, List.set_cons_succ, List.set_cons_zero]
              refine wpAnyH_take_d 5 (some 65) (.pointer (some ⟨b, off + k, none⟩)) rfl (by kernel_rfl) (by kernel_rfl) (by kernel_rfl) (by kernel_rfl) rfl (fun _ _ _ h => h) (fun w' h => exec_indexAddr rfl rfl rfl hlt Try.underlying27 (by kernel_rfl)) (by exact hS) ?_
              simp only [Act.put, List.setIfInBounds_toArray, List.set_cons_succ, List.set_cons_zero]
              refine wpAnyH_take_d 6 (some 66) (.string d) rfl (by kernel_rfl) (by kernel_rfl) (by kernel_rfl) (by kernel_rfl) rfl (fun _ _ _ h => h) (fun w' h => exec_load_cell rfl rfl (hcB w' h) Try.underlying9 rfl) (by exact hS) ?_
              simp only [Act.put, List.setIfInBounds_toArray, List.set_cons_succ, List.set_cons_zero]
              have hA : Below w4.heap.size w4 (w4.drew.alloc (.cells #[] 9)) := ((Below.refl _ _).drew).alloc (by simp) _
              have hB : Below w4.heap.size w4 (w4.drew.alloc (.cells #[.string d] 9)) := ((Below.refl _ _).drew).alloc (by simp) _
              refine wpAnyH_two 0 7 (some 60) (some 67) (.slice (some ⟨w4.heap.size, 0, none⟩) 0 0) (.slice (some ⟨w4.heap.size, 0, none⟩) 1 1) rfl rfl (by kernel_rfl) (by kernel_rfl) (by kernel_rfl) rfl rfl (exec_build0 rfl (build0 w4.drew)) (exec_build1 rfl rfl (build1 w4.drew d)) hA hB ?_ ?_
              · skip
                simp only [Act.put, List.setIfInBounds_toArray, List.set_cons_succ, List.set_cons_zero]
                have o60 := own_made w4.drew
                have hA0 : w4.heap.size < (w4.drew.alloc (.cells #[] 9)).heap.size := by simp
                generalize w4.drew.alloc (.cells #[] 9) = wA at *
                obtain ⟨v62, wC, hrunC, hoC, hgC⟩ := may_append o60 hA.size (hmB wA hA) (by simp; omega) 27
                have hC : Below w4.heap.size w4 wC := own_below o60 hgC hA hA.size
                have hD : Below w4.heap.size w4 (wA.alloc (.cells #[.string d] 9)) := hA.alloc hA.size _
                refine wpAnyH_two 2 7 (some 62) (some 67) v62 (.slice (some ⟨wA.heap.size, 0, none⟩) 1 1) rfl rfl (by kernel_rfl) (by kernel_rfl) (by kernel_rfl) rfl rfl (exec_append rfl rfl rfl hrunC) (exec_build1 rfl rfl (build1 wA d)) hC hD ?_ ?_
                · skip
                  simp only [Act.put, List.setIfInBounds_toArray, List.set_cons_succ, List.set_cons_zero]
                  have hE : Below w4.heap.size w4 (wC.alloc (.cells #[.string d] 9)) := hC.alloc hC.size _
                  have hS := hE
                  refine wpAnyH_one 7 (some 67) (.slice (some ⟨wC.heap.size, 0, none⟩) 1 1) rfl (by kernel_rfl) (by kernel_rfl) rfl (exec_build1 rfl rfl (build1 wC d)) (by exact hS) ?_
                  simp only [Act.put, List.setIfInBounds_toArray, List.set_cons_succ, List.set_cons_zero]
                  have h67 := may_one (Y := fun _ => True) wC d trivial
                  have h62 := hoC.alloc (.cells #[.string d] 9)
                  rw [Nat.zero_add, List.nil_append] at h62
                  generalize wC.alloc (.cells #[.string d] 9) = wE at *
                  obtain ⟨v68, w5, hrun8, ho8, hg8⟩ := may_append h62 (by exact hE.size) h67 (by simp; omega) 27
                  have hb8 : Below w4.heap.size w4 w5 := own_below h62 hg8 hE hE.size
                  have hS : Below w4.heap.size w4 w5 := hb8
                  refine wpAnyH_one 8 (some 68) (v68) rfl (by kernel_rfl) (by kernel_rfl) rfl (exec_append rfl rfl rfl hrun8) (by exact hS) ?_
                  simp only [Act.put, List.setIfInBounds_toArray, List.set_cons_succ, List.set_cons_zero]
                  refine wpAnyH_take_d 9 (some 7) (v68) rfl (by kernel_rfl) (by kernel_rfl) (by kernel_rfl) (by kernel_rfl) rfl (fun _ _ _ h => h) (fun _ _ => by kernel_rfl) (by exact hS) ?_
                  simp only [Act.put, List.setIfInBounds_toArray, List.set_cons_succ, List.set_cons_zero]
                  refine wpAnyH_done (by kernel_rfl) ?_ _
                  have ho8' : w5.ownsRow w4.heap.size 9 1 v68 (ms ++ [d]).length ((ms ++ [d]).map sV) := by rw [List.length_append, List.map_append]; exact ho8
                  have hs5 := hs4.wd hb8
                  have hX5 : ∀ j, j < W.heap.size → Wd X4 w4.heap.size w5.heap.size j := fun j hj => Or.inl (hX4 j hj)
                  have hmay5 := (MayIn.of_own ho8').keep (Y' := Wd X4 w4.heap.size w5.heap.size) (w' := w5) (fun _ _ _ h => h) (fun _ h => Or.inr h)
                  have b5 : Below W.heap.size W w5 := b4.trans (hb8.mono b4.size)
                  generalize Wd X4 w4.heap.size w5.heap.size = X5 at hs5 hX5 hmay5
                  obtain ⟨ms5, hms5e⟩ : ∃ x, ms ++ [d] = x := ⟨_, rfl⟩
                  obtain ⟨bl5, hbl5⟩ : ∃ x, blx = x := ⟨_, rfl⟩
                  have good5 : Good no ms5 (bl5 IT) := by rw [← hms5e, ← hbl5]; exact hgood.add hor
                  have hml5 : ms5.length ≤ k + 1 := by rw [← hms5e, List.length_append]; simpa using hml
                  have hms5 : ∀ m ∈ ms5, m.size ≤ 5000 := by
                    intro m hm
                    rw [← hms5e] at hm
                    rcases List.mem_append.1 hm with h | h
                    · exact hms m h
                    · rw [List.mem_singleton.1 h]; exact h5
                  rw [hms5e] at hmay5
                  rw [hbl5] at hs5
                  clear hS hb8 hg8 ho8 ho8' hrun8 hA hB hC hD hE o60 hrunC hoC hgC h67 h62 hcB hmB hs4 hX4 hmay4 hms hml hgood hor hms5e hbl5 b4 hcA

                  go_wp2_with fail
                  have hp := put_any (hs5.wd (below_alloc w5 (.cells #[byteV 111] 5 (1, 2)))) (by show c + 1 < _; omega) (by unfold maxLen; omega) (ByteArray.mk #[111, 116, 104, 101, 114]) (by decide) (bytes_lit1 w5 111)
                  obtain ⟨q1, bl6, q2, q3⟩ := putO (bl := bl5) (c := c + 1)
                  rw [q1, q2] at hp
                  clear q1 q2
                  refine hp.mono ?_
                  rintro e w6 ⟨rfl, hs6, kp6⟩
                  have b6 : Below W.heap.size W w6 := below_step b5 (below_alloc w5 _) kp6.unwd b5.size hX5
                  have hmay6 := (hmay5.keep (fun k o _ ho => ((below_alloc w5 _).block k (lt_of_heap ho)).trans ho) (fun _ h => h)).keep (fun k o hx ho => kp6.unwd.keep k o hx ho) (fun _ h => h)
                  replace hs6 := hs6.unwd
                  have good6 : Good no ms5 (bl6 IT) := by rw [q3]; exact good5
                  clear hp hs5 kp6 b5 hmay5 q3 good5 hcv
                  obtain ⟨g1, g2, g3⟩ := getI (bl := bl6) (c := c + 1 + 1)
                  have hsz : ∀ t, bl6 IT = some t → t.length ≤ 1000000000000 := fun t ht => by
                    rcases good6 with ⟨h1, _⟩ | ⟨m, hm, h1⟩
                    · rw [h1] at ht; cases ht
                    · rw [h1] at ht; cases ht; have := hms5 m hm; simp; omega
                  have hg := get_any hs6 (by show c + 1 + 1 < _; omega) (ByteArray.mk #[105, 116]) (by decide) hsz
                  rw [g1] at hg
                  go_wp2_with fail
                  refine hg.mono ?_
                  rintro e w7 ⟨v7, m7, rfl, hm7, hs7, by7, kp7⟩
                  have b7 : Below W.heap.size W w7 := below_step b6 (Below.refl _ _) kp7 b6.size hX5
                  have hmay7 := hmay6.keep (Y' := Wd X5 m7 w7.heap.size) (fun k o hx ho => kp7.keep k o hx ho) (fun _ h => Or.inl h)
                  have hX7 : ∀ j, j < W.heap.size → Wd X5 m7 w7.heap.size j := fun j hj => Or.inl (hX5 j hj)
                  generalize Wd X5 m7 w7.heap.size = X7 at hs7 by7 hmay7 hX7
                  clear hg hs6 kp7 b6 hmay6 hm7 g1 hsz hX5
                  obtain ⟨mo, mcap, rfl, hmrow⟩ := hmay7.form
                  rcases good6 with ⟨hn, hno⟩ | ⟨mt, hmt, hn⟩
                  · subst hno
                    rw [g2 hn] at *
                    have GOOD := Lib.hid (show Good true ms5 (bl6 IT) from Or.inl ⟨hn, rfl⟩)
                    clear g2 g3 by7
                    go_wp2
                    go_loopw [13, 14] (fun fv jv wx => ∃ j : Nat, j ≤ ms5.length ∧ jv = .int .i64 j ∧ fv = .bool true ∧ StoAt X7 wx wa.heap.size ⟨bl6, 0, ByteArray.empty, [], c + 1 + 1 + 1⟩ (2 * k + 1 + 1) ∧ MayIn X7 wx (.slice mo ms5.length mcap) ms5 ∧ Below W.heap.size W wx) (fun _ jv _ => ms5.length - (intOf jv).toNat)
                    case atStart => exact ⟨0, Nat.zero_le _, rfl, rfl, hs7, hmay7, b7⟩
                    case round =>
                      clear hs7 hmay7 b7
                      obtain ⟨j, hj, rfl, rfl, hsx, hmx, bx⟩ := hrel
                      by_cases hjl : j < ms5.length
                      · go_wp2_with fail
                        have hS : wr.drew = wr.drew := rfl
                        refine wp_region_held_drew (S := fun w' => w' = wr.drew) mixed hS (fun _ => ?_)
                        show wpAnyH _ _ _ _ _ 15 (Array.replicate 15 false) _ _
                        refine wpAnyH_take_d 0 (some 90) (.bool true) rfl (by kernel_rfl) (by kernel_rfl) (by kernel_rfl) (by kernel_rfl) rfl (fun _ _ _ h => h) (fun _ _ => by kernel_rfl) (by exact hS) ?_
                        simp only [Act.put, List.setIfInBounds_toArray, List.set_cons_succ, List.set_cons_zero]
                        refine wpAnyH_take_d 1 (some 91) (.bool true) rfl (by kernel_rfl) (by kernel_rfl) (by kernel_rfl) (by kernel_rfl) rfl (fun _ _ _ h => h) (fun _ _ => by kernel_rfl) (by exact hS) ?_
                        simp only [Act.put, List.setIfInBounds_toArray, List.set_cons_succ, List.set_cons_zero]
                        refine wpAnyH_skip_d 2 (some 92) rfl (by kernel_rfl) (by kernel_rfl) (by kernel_rfl) (by kernel_rfl) rfl (fun _ _ _ h => h) (by exact hS) ?_
                        simp only [Act.put, List.setIfInBounds_toArray, List.set_cons_succ, List.set_cons_zero]
                        refine wpAnyH_skip_d 3 (some 93) rfl (by kernel_rfl) (by kernel_rfl) (by kernel_rfl) (by kernel_rfl) rfl (fun _ _ _ h => h) (by exact hS) ?_
                        simp only [Act.put, List.setIfInBounds_toArray, List.set_cons_succ, List.set_cons_zero]
                        refine wpAnyH_skip_d 4 (some 94) rfl (by kernel_rfl) (by kernel_rfl) (by kernel_rfl) (by kernel_rfl) rfl (fun _ _ _ h => h) (by exact hS) ?_
                        simp only [Act.put, List.setIfInBounds_toArray, List.set_cons_succ, List.set_cons_zero]
                        refine wpAnyH_skip_d 5 (some 95) rfl (by kernel_rfl) (by kernel_rfl) (by kernel_rfl) (by kernel_rfl) rfl (fun _ _ _ h => h) (by exact hS) ?_
                        simp only [Act.put, List.setIfInBounds_toArray, List.set_cons_succ, List.set_cons_zero]
                        refine wpAnyH_skip_d 6 (some 96) rfl (by kernel_rfl) (by kernel_rfl) (by kernel_rfl) (by kernel_rfl) rfl (fun _ _ _ h => h) (by exact hS) ?_
                        simp only [Act.put, List.setIfInBounds_toArray, List.set_cons_succ, List.set_cons_zero]
                        refine wpAnyH_skip_d 7 (some 97) rfl (by kernel_rfl) (by kernel_rfl) (by kernel_rfl) (by kernel_rfl) rfl (fun _ _ _ h => h) (by exact hS) ?_
                        simp only [Act.put, List.setIfInBounds_toArray, List.set_cons_succ, List.set_cons_zero]
                        refine wpAnyH_skip_d 8 (some 98) rfl (by kernel_rfl) (by kernel_rfl) (by kernel_rfl) (by kernel_rfl) rfl (fun _ _ _ h => h) (by exact hS) ?_
                        simp only [Act.put, List.setIfInBounds_toArray, List.set_cons_succ, List.set_cons_zero]
                        refine wpAnyH_skip_d 9 (some 99) rfl (by kernel_rfl) (by kernel_rfl) (by kernel_rfl) (by kernel_rfl) rfl (fun _ _ _ h => h) (by exact hS) ?_
                        simp only [Act.put, List.setIfInBounds_toArray, List.set_cons_succ, List.set_cons_zero]
                        refine wpAnyH_skip_d 10 (some 100) rfl (by kernel_rfl) (by kernel_rfl) (by kernel_rfl) (by kernel_rfl) rfl (fun _ _ _ h => h) (by exact hS) ?_
                        simp only [Act.put, List.setIfInBounds_toArray, List.set_cons_succ, List.set_cons_zero]
                        refine wpAnyH_skip_d 11 (some 101) rfl (by kernel_rfl) (by kernel_rfl) (by kernel_rfl) (by kernel_rfl) rfl (fun _ _ _ h => h) (by exact hS) ?_
                        simp only [Act.put, List.setIfInBounds_toArray, List.set_cons_succ, List.set_cons_zero]
                        refine wpAnyH_skip_d 12 (some 102) rfl (by kernel_rfl) (by kernel_rfl) (by kernel_rfl) (by kernel_rfl) rfl (fun _ _ _ h => h) (by exact hS) ?_
                        simp only [Act.put, List.setIfInBounds_toArray, List.set_cons_succ, List.set_cons_zero]
                        refine wpAnyH_take_d 13 (some 103) (.bool true) rfl (by kernel_rfl) (by kernel_rfl) (by kernel_rfl) (by kernel_rfl) rfl (fun _ _ _ h => h) (fun _ _ => by kernel_rfl) (by exact hS) ?_
                        simp only [Act.put, List.setIfInBounds_toArray, List.set_cons_succ, List.set_cons_zero]
                        refine wpAnyH_take_d 14 (some 13) (.bool true) rfl (by kernel_rfl) (by kernel_rfl) (by kernel_rfl) (by kernel_rfl) rfl (fun _ _ _ h => h) (fun _ _ => by kernel_rfl) (by exact hS) ?_
                        simp only [Act.put, List.setIfInBounds_toArray, List.set_cons_succ, List.set_cons_zero]
                        refine wpAnyH_done (by kernel_rfl) ?_ _
                        have SX := Lib.hid hsx.drew
                        have MX := Lib.hid (hmx.keep (w' := wr.drew) (fun _ _ _ h => h) (fun _ h => h))
                        have BX := Lib.hid bx.drew
                        clear hsx hmx bx
                        go_wp2
                        go_roundw
                        case rel => exact ⟨j + 1, by omega, by go_num, rfl, SX.out, MX.out, BX.out⟩
                        case measure => simp [intOf]; omega
                      · obtain rfl : j = ms5.length := by omega
                        go_wp2
                        go_roundw
                        case rel => exact ⟨k + 1, by omega, by omega, by go_num, true, ms5, X7, bl6, c + 1 + 1 + 1, rfl, hX7, hmx, by omega, hms5, by omega, hsx.more (by omega), GOOD.out, bx⟩
                        case measure => simp [intOf]; omega
                  · obtain ⟨g4, g5⟩ := g3 _ hn
                    rw [g4] at *
                    rw [g5] at by7
                    have GOOD := Lib.hid (show Good no ms5 (bl6 IT) from Or.inr ⟨mt, hmt, hn⟩)
                    clear g2 g3 g4 g5
                    go_wp2
                    go_loopw [13, 14] (fun fv jv wx => ∃ j : Nat, j ≤ ms5.length ∧ jv = .int .i64 j ∧ ∃ fb, fv = .bool fb ∧ (fb = true ∨ ∀ i, i < j → (ms5.getD i ByteArray.empty).data.toList ≠ mt.data.toList) ∧ StoAt X7 wx wa.heap.size ⟨bl6, 0, ByteArray.empty, [], c + 1 + 1 + 1⟩ (2 * k + 1 + 1) ∧ MayIn X7 wx (.slice mo ms5.length mcap) ms5 ∧ BytesIn X7 wx v7 mt.data.toList ∧ Below W.heap.size W wx) (fun _ jv _ => ms5.length - (intOf jv).toNat)
                    case atStart => exact ⟨0, Nat.zero_le _, rfl, false, rfl, Or.inr (fun i hi => by omega), hs7, hmay7, by7, b7⟩
                    case round =>
                      clear hs7 hmay7 b7 by7
                      obtain ⟨j, hj, rfl, fb, rfl, hfb, hsx, hmx, byx, bx⟩ := hrel
                      by_cases hjl : j < ms5.length
                      · cases fb
                        · have hnot : ∀ i, i < j → (ms5.getD i ByteArray.empty).data.toList ≠ mt.data.toList := by
                            rcases hfb with h | h
                            · cases h
                            · exact h
                          obtain ⟨mo', mcap', e, hrow⟩ := hmx
                          have hrow' := hrow (by omega)
                          obtain ⟨bb, boff, bcs, bfz, rfl, hyb, hhb, hatb⟩ := hrow'
                          cases e
                          have hmx : MayIn X7 wr (.slice (some ⟨bb, boff, none⟩) ms5.length mcap) ms5 := ⟨_, _, rfl, hrow⟩
                          have hcl : wr.drew.cell? ⟨bb, boff + j, none⟩ = some (.string (ms5.getD j ByteArray.empty)) := cell_row hhb _ (hatb j hjl)
                          have hcv := run_string_at (w := wr.drew) byx.at
                          obtain ⟨tj, htj⟩ : ∃ t, ms5.getD j ByteArray.empty = t := ⟨_, rfl⟩
                          obtain ⟨bq, hbq⟩ : ∃ bq, ((strOf mt.data.toList).toList == tj.toList) = bq := ⟨_, rfl⟩
                          rw [htj] at hcl
                          have hnx : bq = true ∨ ∀ i, i < j + 1 → (ms5.getD i ByteArray.empty).data.toList ≠ mt.data.toList := by
                            cases bq
                            · refine Or.inr (fun i hi => ?_)
                              by_cases hij : i < j
                              · exact hnot i hij
                              · obtain rfl : i = j := by omega
                                rw [htj]
                                intro e
                                rw [ByteArray.toList_eq, ByteArray.toList_eq, e] at hbq
                                simp [strOf] at hbq
                            · exact Or.inl rfl
                          go_wp2_with fail
                          have hS : wr.drew = wr.drew := rfl
                          refine wp_region_held_drew (S := fun w' => w' = wr.drew) mixed hS (fun _ => ?_)
                          show wpAnyH _ _ _ _ _ 15 (Array.replicate 15 false) _ _
                          refine wpAnyH_take_d 0 (some 90) (.bool false) rfl (by kernel_rfl) (by kernel_rfl) (by kernel_rfl) (by kernel_rfl) rfl (fun _ _ _ h => h) (fun _ _ => by kernel_rfl) (by exact hS) ?_
                          simp only [Act.put, List.setIfInBounds_toArray, List.set_cons_succ, List.set_cons_zero]
                          refine wpAnyH_take_d 1 (some 91) (.bool false) rfl (by kernel_rfl) (by kernel_rfl) (by kernel_rfl) (by kernel_rfl) rfl (fun _ _ _ h => h) (fun _ _ => by kernel_rfl) (by exact hS) ?_
                          simp only [Act.put, List.setIfInBounds_toArray, List.set_cons_succ, List.set_cons_zero]
                          refine wpAnyH_take_d 2 (some 92) (.int .i64 0) rfl (by kernel_rfl) (by kernel_rfl) (by kernel_rfl) (by kernel_rfl) rfl (fun _ _ _ h => h) (fun _ _ => by kernel_rfl) (by exact hS) ?_
                          simp only [Act.put, List.setIfInBounds_toArray, List.set_cons_succ, List.set_cons_zero]
                          refine wpAnyH_take_d 3 (some 93) (.bool true) rfl (by kernel_rfl) (by kernel_rfl) (by kernel_rfl) (by kernel_rfl) rfl (fun _ _ _ h => h) (fun _ _ => by kernel_rfl) (by exact hS) ?_
                          simp only [Act.put, List.setIfInBounds_toArray, List.set_cons_succ, List.set_cons_zero]
                          refine wpAnyH_take_d 4 (some 94) (.bool true) rfl (by kernel_rfl) (by kernel_rfl) (by kernel_rfl) (by kernel_rfl) rfl (fun _ _ _ h => h) (fun _ _ => by kernel_rfl) (by exact hS) ?_
                          simp only [Act.put, List.setIfInBounds_toArray, List.set_cons_succ, List.set_cons_zero]
                          refine wpAnyH_take_d 5 (some 95) (v7) rfl (by kernel_rfl) (by kernel_rfl) (by kernel_rfl) (by kernel_rfl) rfl (fun _ _ _ h => h) (fun _ _ => by kernel_rfl) (by exact hS) ?_
                          simp only [Act.put, List.setIfInBounds_toArray, List.set_cons_succ, List.set_cons_zero]
                          refine wpAnyH_take_d 6 (some 96) (.string (strOf mt.data.toList)) rfl (by kernel_rfl) (by kernel_rfl) (by kernel_rfl) (by kernel_rfl) rfl (fun _ _ _ h => h) (fun w' h => by subst h; exact exec_convert rfl rfl hcv) (by exact hS) ?_
                          simp only [Act.put, List.setIfInBounds_toArray, List.set_cons_succ, List.set_cons_zero]
                          refine wpAnyH_take_d 7 (some 97) (.slice (some ⟨bb, boff, none⟩) ms5.length mcap) rfl (by kernel_rfl) (by kernel_rfl) (by kernel_rfl) (by kernel_rfl) rfl (fun _ _ _ h => h) (fun _ _ => by kernel_rfl) (by exact hS) ?_
                          simp only [Act.put, List.setIfInBounds_toArray, List.set_cons_succ, List.set_cons_zero]
                          refine wpAnyH_take_d 8 (some 98) (.int .i64 j) rfl (by kernel_rfl) (by kernel_rfl) (by kernel_rfl) (by kernel_rfl) rfl (fun _ _ _ h => h) (fun _ _ => by kernel_rfl) (by exact hS) ?_
                          simp only [Act.put, List.setIfInBounds_toArray, List.set_cons_succ, List.set_cons_zero]
                          refine wpAnyH_take_d 9 (some 99) (.pointer (some ⟨bb, boff + j, none⟩)) rfl (by kernel_rfl) (by kernel_rfl) (by kernel_rfl) (by kernel_rfl) rfl (fun _ _ _ h => h) (fun w' h => exec_indexAddr rfl rfl rfl hjl Try.underlying27 (by kernel_rfl)) (by exact hS) ?_
                          simp only [Act.put, List.setIfInBounds_toArray, List.set_cons_succ, List.set_cons_zero]
                          refine wpAnyH_take_d 10 (some 100) (.string tj) rfl (by kernel_rfl) (by kernel_rfl) (by kernel_rfl) (by kernel_rfl) rfl (fun _ _ _ h => h) (fun w' h => by subst h; exact exec_load_cell rfl rfl hcl Try.underlying9 rfl) (by exact hS) ?_
                          simp only [Act.put, List.setIfInBounds_toArray, List.set_cons_succ, List.set_cons_zero]
                          refine wpAnyH_take_d 11 (some 101) (.bool bq) rfl (by kernel_rfl) (by kernel_rfl) (by kernel_rfl) (by kernel_rfl) rfl (fun _ _ _ h => h) (fun w' h => exec_streq rfl rfl rfl hbq) (by exact hS) ?_
                          simp only [Act.put, List.setIfInBounds_toArray, List.set_cons_succ, List.set_cons_zero]
                          refine wpAnyH_take_d 12 (some 102) (.bool bq) rfl (by kernel_rfl) (by kernel_rfl) (by kernel_rfl) (by kernel_rfl) rfl (fun _ _ _ h => h) (fun _ _ => by kernel_rfl) (by exact hS) ?_
                          simp only [Act.put, List.setIfInBounds_toArray, List.set_cons_succ, List.set_cons_zero]
                          refine wpAnyH_take_d 13 (some 103) (.bool bq) rfl (by kernel_rfl) (by kernel_rfl) (by kernel_rfl) (by kernel_rfl) rfl (fun _ _ _ h => h) (fun _ _ => by kernel_rfl) (by exact hS) ?_
                          simp only [Act.put, List.setIfInBounds_toArray, List.set_cons_succ, List.set_cons_zero]
                          refine wpAnyH_take_d 14 (some 13) (.bool bq) rfl (by kernel_rfl) (by kernel_rfl) (by kernel_rfl) (by kernel_rfl) rfl (fun _ _ _ h => h) (fun _ _ => by kernel_rfl) (by exact hS) ?_
                          simp only [Act.put, List.setIfInBounds_toArray, List.set_cons_succ, List.set_cons_zero]
                          refine wpAnyH_done (by kernel_rfl) ?_ _
                          have SX := Lib.hid hsx.drew
                          have MX := Lib.hid (hmx.keep (w' := wr.drew) (fun _ _ _ h => h) (fun _ h => h))
                          have YX := Lib.hid (byx.keep (w' := wr.drew) (fun _ _ _ h => h))
                          have BX := Lib.hid bx.drew
                          have NX := Lib.hid hnx
                          clear hsx hmx bx byx hnx hnot hcl hcv hrow hhb hatb hbq htj
                          go_wp2
                          go_roundw
                          case rel => exact ⟨j + 1, by omega, by go_num, bq, rfl, NX.out, SX.out, MX.out, YX.out, BX.out⟩
                          case measure => simp [intOf]; omega
                        · go_wp2_with fail
                          have hS : wr.drew = wr.drew := rfl
                          refine wp_region_held_drew (S := fun w' => w' = wr.drew) mixed hS (fun _ => ?_)
                          show wpAnyH _ _ _ _ _ 15 (Array.replicate 15 false) _ _
                          refine wpAnyH_take_d 0 (some 90) (.bool true) rfl (by kernel_rfl) (by kernel_rfl) (by kernel_rfl) (by kernel_rfl) rfl (fun _ _ _ h => h) (fun _ _ => by kernel_rfl) (by exact hS) ?_
                          simp only [Act.put, List.setIfInBounds_toArray, List.set_cons_succ, List.set_cons_zero]
                          refine wpAnyH_take_d 1 (some 91) (.bool true) rfl (by kernel_rfl) (by kernel_rfl) (by kernel_rfl) (by kernel_rfl) rfl (fun _ _ _ h => h) (fun _ _ => by kernel_rfl) (by exact hS) ?_
                          simp only [Act.put, List.setIfInBounds_toArray, List.set_cons_succ, List.set_cons_zero]
                          refine wpAnyH_skip_d 2 (some 92) rfl (by kernel_rfl) (by kernel_rfl) (by kernel_rfl) (by kernel_rfl) rfl (fun _ _ _ h => h) (by exact hS) ?_
                          simp only [Act.put, List.setIfInBounds_toArray, List.set_cons_succ, List.set_cons_zero]
                          refine wpAnyH_skip_d 3 (some 93) rfl (by kernel_rfl) (by kernel_rfl) (by kernel_rfl) (by kernel_rfl) rfl (fun _ _ _ h => h) (by exact hS) ?_
                          simp only [Act.put, List.setIfInBounds_toArray, List.set_cons_succ, List.set_cons_zero]
                          refine wpAnyH_skip_d 4 (some 94) rfl (by kernel_rfl) (by kernel_rfl) (by kernel_rfl) (by kernel_rfl) rfl (fun _ _ _ h => h) (by exact hS) ?_
                          simp only [Act.put, List.setIfInBounds_toArray, List.set_cons_succ, List.set_cons_zero]
                          refine wpAnyH_skip_d 5 (some 95) rfl (by kernel_rfl) (by kernel_rfl) (by kernel_rfl) (by kernel_rfl) rfl (fun _ _ _ h => h) (by exact hS) ?_
                          simp only [Act.put, List.setIfInBounds_toArray, List.set_cons_succ, List.set_cons_zero]
                          refine wpAnyH_skip_d 6 (some 96) rfl (by kernel_rfl) (by kernel_rfl) (by kernel_rfl) (by kernel_rfl) rfl (fun _ _ _ h => h) (by exact hS) ?_
                          simp only [Act.put, List.setIfInBounds_toArray, List.set_cons_succ, List.set_cons_zero]
                          refine wpAnyH_skip_d 7 (some 97) rfl (by kernel_rfl) (by kernel_rfl) (by kernel_rfl) (by kernel_rfl) rfl (fun _ _ _ h => h) (by exact hS) ?_
                          simp only [Act.put, List.setIfInBounds_toArray, List.set_cons_succ, List.set_cons_zero]
                          refine wpAnyH_skip_d 8 (some 98) rfl (by kernel_rfl) (by kernel_rfl) (by kernel_rfl) (by kernel_rfl) rfl (fun _ _ _ h => h) (by exact hS) ?_
                          simp only [Act.put, List.setIfInBounds_toArray, List.set_cons_succ, List.set_cons_zero]
                          refine wpAnyH_skip_d 9 (some 99) rfl (by kernel_rfl) (by kernel_rfl) (by kernel_rfl) (by kernel_rfl) rfl (fun _ _ _ h => h) (by exact hS) ?_
                          simp only [Act.put, List.setIfInBounds_toArray, List.set_cons_succ, List.set_cons_zero]
                          refine wpAnyH_skip_d 10 (some 100) rfl (by kernel_rfl) (by kernel_rfl) (by kernel_rfl) (by kernel_rfl) rfl (fun _ _ _ h => h) (by exact hS) ?_
                          simp only [Act.put, List.setIfInBounds_toArray, List.set_cons_succ, List.set_cons_zero]
                          refine wpAnyH_skip_d 11 (some 101) rfl (by kernel_rfl) (by kernel_rfl) (by kernel_rfl) (by kernel_rfl) rfl (fun _ _ _ h => h) (by exact hS) ?_
                          simp only [Act.put, List.setIfInBounds_toArray, List.set_cons_succ, List.set_cons_zero]
                          refine wpAnyH_skip_d 12 (some 102) rfl (by kernel_rfl) (by kernel_rfl) (by kernel_rfl) (by kernel_rfl) rfl (fun _ _ _ h => h) (by exact hS) ?_
                          simp only [Act.put, List.setIfInBounds_toArray, List.set_cons_succ, List.set_cons_zero]
                          refine wpAnyH_take_d 13 (some 103) (.bool true) rfl (by kernel_rfl) (by kernel_rfl) (by kernel_rfl) (by kernel_rfl) rfl (fun _ _ _ h => h) (fun _ _ => by kernel_rfl) (by exact hS) ?_
                          simp only [Act.put, List.setIfInBounds_toArray, List.set_cons_succ, List.set_cons_zero]
                          refine wpAnyH_take_d 14 (some 13) (.bool true) rfl (by kernel_rfl) (by kernel_rfl) (by kernel_rfl) (by kernel_rfl) rfl (fun _ _ _ h => h) (fun _ _ => by kernel_rfl) (by exact hS) ?_
                          simp only [Act.put, List.setIfInBounds_toArray, List.set_cons_succ, List.set_cons_zero]
                          refine wpAnyH_done (by kernel_rfl) ?_ _
                          have SX := Lib.hid hsx.drew
                          have MX := Lib.hid (hmx.keep (w' := wr.drew) (fun _ _ _ h => h) (fun _ h => h))
                          have YX := Lib.hid (byx.keep (w' := wr.drew) (fun _ _ _ h => h))
                          have BX := Lib.hid bx.drew
                          clear hsx hmx bx byx hfb
                          go_wp2
                          go_roundw
                          case rel => exact ⟨j + 1, by omega, by go_num, true, rfl, Or.inl rfl, SX.out, MX.out, YX.out, BX.out⟩
                          case measure => simp [intOf]; omega
                      · obtain rfl : j = ms5.length := by omega
                        obtain rfl : fb = true := by
                          rcases hfb with h | h
                          · exact h
                          · obtain ⟨i, hi, e⟩ := List.mem_iff_getElem.1 hmt
                            refine absurd ?_ (h i hi)
                            rw [List.getD_eq_getElem?_getD, List.getElem?_eq_getElem hi, e]; rfl
                        clear byx hfb
                        go_wp2
                        go_roundw
                        case rel => exact ⟨k + 1, by omega, by omega, by go_num, no, ms5, X7, bl6, c + 1 + 1 + 1, rfl, hX7, hmx, by omega, hms5, by omega, hsx.more (by omega), GOOD.out, bx⟩
                        case measure => simp [intOf]; omega

                · skip
                  simp only [Act.put, List.setIfInBounds_toArray, List.set_cons_succ, List.set_cons_zero]
                  have o60' := o60.alloc (.cells #[.string d] 9)
                  have h67 := may_one (Y := fun k => k = wA.heap.size) wA d rfl
                  clear hrunC hoC hgC hC
                  generalize hwD : wA.alloc (.cells #[.string d] 9) = wD at *
                  have hne : ∀ g, (Value.slice (some ⟨w4.heap.size, 0, none⟩) 0 0).ownBlock = some g → g ≠ wA.heap.size := fun g e => by
                    have hg : g = w4.heap.size := by simpa [Value.ownBlock] using e.symm
                    have := hA0
                    omega
                  obtain ⟨v62', wF, hrunF, hoF, hgF⟩ := may_append o60' hD.size (hmB wD hD) (by simp; omega) 27
                  have hF : Below w4.heap.size w4 wF := own_below o60' hgF hD hD.size
                  have hS := hF
                  refine wpAnyH_one 2 (some 62) (v62') rfl (by kernel_rfl) (by kernel_rfl) rfl (exec_append rfl rfl rfl hrunF) (by exact hS) ?_
                  simp only [Act.put, List.setIfInBounds_toArray, List.set_cons_succ, List.set_cons_zero]
                  have h67' := h67.keep (w' := wF) (Y' := fun _ => True) (fun j o hj ho => (hgF.block j (lt_of_heap ho) (fun e => hne j e.symm hj)).trans ho) (fun _ _ => trivial)
                  rw [Nat.zero_add, List.nil_append] at hoF
                  obtain ⟨v68, w5, hrun8, ho8, hg8⟩ := may_append hoF (by exact hF.size) h67' (by simp; omega) 27
                  have hb8 : Below w4.heap.size w4 w5 := own_below hoF hg8 hF hF.size
                  have hS : Below w4.heap.size w4 w5 := hb8
                  refine wpAnyH_one 8 (some 68) (v68) rfl (by kernel_rfl) (by kernel_rfl) rfl (exec_append rfl rfl rfl hrun8) (by exact hS) ?_
                  simp only [Act.put, List.setIfInBounds_toArray, List.set_cons_succ, List.set_cons_zero]
                  refine wpAnyH_take_d 9 (some 7) (v68) rfl (by kernel_rfl) (by kernel_rfl) (by kernel_rfl) (by kernel_rfl) rfl (fun _ _ _ h => h) (fun _ _ => by kernel_rfl) (by exact hS) ?_
                  simp only [Act.put, List.setIfInBounds_toArray, List.set_cons_succ, List.set_cons_zero]
                  refine wpAnyH_done (by kernel_rfl) ?_ _
                  have ho8' : w5.ownsRow w4.heap.size 9 1 v68 (ms ++ [d]).length ((ms ++ [d]).map sV) := by rw [List.length_append, List.map_append]; exact ho8
                  have hs5 := hs4.wd hb8
                  have hX5 : ∀ j, j < W.heap.size → Wd X4 w4.heap.size w5.heap.size j := fun j hj => Or.inl (hX4 j hj)
                  have hmay5 := (MayIn.of_own ho8').keep (Y' := Wd X4 w4.heap.size w5.heap.size) (w' := w5) (fun _ _ _ h => h) (fun _ h => Or.inr h)
                  have b5 : Below W.heap.size W w5 := b4.trans (hb8.mono b4.size)
                  generalize Wd X4 w4.heap.size w5.heap.size = X5 at hs5 hX5 hmay5
                  obtain ⟨ms5, hms5e⟩ : ∃ x, ms ++ [d] = x := ⟨_, rfl⟩
                  obtain ⟨bl5, hbl5⟩ : ∃ x, blx = x := ⟨_, rfl⟩
                  have good5 : Good no ms5 (bl5 IT) := by rw [← hms5e, ← hbl5]; exact hgood.add hor
                  have hml5 : ms5.length ≤ k + 1 := by rw [← hms5e, List.length_append]; simpa using hml
                  have hms5 : ∀ m ∈ ms5, m.size ≤ 5000 := by
                    intro m hm
                    rw [← hms5e] at hm
                    rcases List.mem_append.1 hm with h | h
                    · exact hms m h
                    · rw [List.mem_singleton.1 h]; exact h5
                  rw [hms5e] at hmay5
                  rw [hbl5] at hs5
                  clear hS hb8 hg8 ho8 ho8' hrun8 hA hB hD hF o60 o60' hrunF hoF hgF h67 h67' hcB hmB hne hs4 hX4 hmay4 hms hml hgood hor hms5e hbl5 b4 hcA

                  go_wp2_with fail
                  have hp := put_any (hs5.wd (below_alloc w5 (.cells #[byteV 111] 5 (1, 2)))) (by show c + 1 < _; omega) (by unfold maxLen; omega) (ByteArray.mk #[111, 116, 104, 101, 114]) (by decide) (bytes_lit1 w5 111)
                  obtain ⟨q1, bl6, q2, q3⟩ := putO (bl := bl5) (c := c + 1)
                  rw [q1, q2] at hp
                  clear q1 q2
                  refine hp.mono ?_
                  rintro e w6 ⟨rfl, hs6, kp6⟩
                  have b6 : Below W.heap.size W w6 := below_step b5 (below_alloc w5 _) kp6.unwd b5.size hX5
                  have hmay6 := (hmay5.keep (fun k o _ ho => ((below_alloc w5 _).block k (lt_of_heap ho)).trans ho) (fun _ h => h)).keep (fun k o hx ho => kp6.unwd.keep k o hx ho) (fun _ h => h)
                  replace hs6 := hs6.unwd
                  have good6 : Good no ms5 (bl6 IT) := by rw [q3]; exact good5
                  clear hp hs5 kp6 b5 hmay5 q3 good5 hcv
                  obtain ⟨g1, g2, g3⟩ := getI (bl := bl6) (c := c + 1 + 1)
                  have hsz : ∀ t, bl6 IT = some t → t.length ≤ 1000000000000 := fun t ht => by
                    rcases good6 with ⟨h1, _⟩ | ⟨m, hm, h1⟩
                    · rw [h1] at ht; cases ht
                    · rw [h1] at ht; cases ht; have := hms5 m hm; simp; omega
                  have hg := get_any hs6 (by show c + 1 + 1 < _; omega) (ByteArray.mk #[105, 116]) (by decide) hsz
                  rw [g1] at hg
                  go_wp2_with fail
                  refine hg.mono ?_
                  rintro e w7 ⟨v7, m7, rfl, hm7, hs7, by7, kp7⟩
                  have b7 : Below W.heap.size W w7 := below_step b6 (Below.refl _ _) kp7 b6.size hX5
                  have hmay7 := hmay6.keep (Y' := Wd X5 m7 w7.heap.size) (fun k o hx ho => kp7.keep k o hx ho) (fun _ h => Or.inl h)
                  have hX7 : ∀ j, j < W.heap.size → Wd X5 m7 w7.heap.size j := fun j hj => Or.inl (hX5 j hj)
                  generalize Wd X5 m7 w7.heap.size = X7 at hs7 by7 hmay7 hX7
                  clear hg hs6 kp7 b6 hmay6 hm7 g1 hsz hX5
                  obtain ⟨mo, mcap, rfl, hmrow⟩ := hmay7.form
                  rcases good6 with ⟨hn, hno⟩ | ⟨mt, hmt, hn⟩
                  · subst hno
                    rw [g2 hn] at *
                    have GOOD := Lib.hid (show Good true ms5 (bl6 IT) from Or.inl ⟨hn, rfl⟩)
                    clear g2 g3 by7
                    go_wp2
                    go_loopw [13, 14] (fun fv jv wx => ∃ j : Nat, j ≤ ms5.length ∧ jv = .int .i64 j ∧ fv = .bool true ∧ StoAt X7 wx wa.heap.size ⟨bl6, 0, ByteArray.empty, [], c + 1 + 1 + 1⟩ (2 * k + 1 + 1) ∧ MayIn X7 wx (.slice mo ms5.length mcap) ms5 ∧ Below W.heap.size W wx) (fun _ jv _ => ms5.length - (intOf jv).toNat)
                    case atStart => exact ⟨0, Nat.zero_le _, rfl, rfl, hs7, hmay7, b7⟩
                    case round =>
                      clear hs7 hmay7 b7
                      obtain ⟨j, hj, rfl, rfl, hsx, hmx, bx⟩ := hrel
                      by_cases hjl : j < ms5.length
                      · go_wp2_with fail
                        have hS : wr.drew = wr.drew := rfl
                        refine wp_region_held_drew (S := fun w' => w' = wr.drew) mixed hS (fun _ => ?_)
                        show wpAnyH _ _ _ _ _ 15 (Array.replicate 15 false) _ _
                        refine wpAnyH_take_d 0 (some 90) (.bool true) rfl (by kernel_rfl) (by kernel_rfl) (by kernel_rfl) (by kernel_rfl) rfl (fun _ _ _ h => h) (fun _ _ => by kernel_rfl) (by exact hS) ?_
                        simp only [Act.put, List.setIfInBounds_toArray, List.set_cons_succ, List.set_cons_zero]
                        refine wpAnyH_take_d 1 (some 91) (.bool true) rfl (by kernel_rfl) (by kernel_rfl) (by kernel_rfl) (by kernel_rfl) rfl (fun _ _ _ h => h) (fun _ _ => by kernel_rfl) (by exact hS) ?_
                        simp only [Act.put, List.setIfInBounds_toArray, List.set_cons_succ, List.set_cons_zero]
                        refine wpAnyH_skip_d 2 (some 92) rfl (by kernel_rfl) (by kernel_rfl) (by kernel_rfl) (by kernel_rfl) rfl (fun _ _ _ h => h) (by exact hS) ?_
                        simp only [Act.put, List.setIfInBounds_toArray, List.set_cons_succ, List.set_cons_zero]
                        refine wpAnyH_skip_d 3 (some 93) rfl (by kernel_rfl) (by kernel_rfl) (by kernel_rfl) (by kernel_rfl) rfl (fun _ _ _ h => h) (by exact hS) ?_
                        simp only [Act.put, List.setIfInBounds_toArray, List.set_cons_succ, List.set_cons_zero]
                        refine wpAnyH_skip_d 4 (some 94) rfl (by kernel_rfl) (by kernel_rfl) (by kernel_rfl) (by kernel_rfl) rfl (fun _ _ _ h => h) (by exact hS) ?_
                        simp only [Act.put, List.setIfInBounds_toArray, List.set_cons_succ, List.set_cons_zero]
                        refine wpAnyH_skip_d 5 (some 95) rfl (by kernel_rfl) (by kernel_rfl) (by kernel_rfl) (by kernel_rfl) rfl (fun _ _ _ h => h) (by exact hS) ?_
                        simp only [Act.put, List.setIfInBounds_toArray, List.set_cons_succ, List.set_cons_zero]
                        refine wpAnyH_skip_d 6 (some 96) rfl (by kernel_rfl) (by kernel_rfl) (by kernel_rfl) (by kernel_rfl) rfl (fun _ _ _ h => h) (by exact hS) ?_
                        simp only [Act.put, List.setIfInBounds_toArray, List.set_cons_succ, List.set_cons_zero]
                        refine wpAnyH_skip_d 7 (some 97) rfl (by kernel_rfl) (by kernel_rfl) (by kernel_rfl) (by kernel_rfl) rfl (fun _ _ _ h => h) (by exact hS) ?_
                        simp only [Act.put, List.setIfInBounds_toArray, List.set_cons_succ, List.set_cons_zero]
                        refine wpAnyH_skip_d 8 (some 98) rfl (by kernel_rfl) (by kernel_rfl) (by kernel_rfl) (by kernel_rfl) rfl (fun _ _ _ h => h) (by exact hS) ?_
                        simp only [Act.put, List.setIfInBounds_toArray, List.set_cons_succ, List.set_cons_zero]
                        refine wpAnyH_skip_d 9 (some 99) rfl (by kernel_rfl) (by kernel_rfl) (by kernel_rfl) (by kernel_rfl) rfl (fun _ _ _ h => h) (by exact hS) ?_
                        simp only [Act.put, List.setIfInBounds_toArray, List.set_cons_succ, List.set_cons_zero]
                        refine wpAnyH_skip_d 10 (some 100) rfl (by kernel_rfl) (by kernel_rfl) (by kernel_rfl) (by kernel_rfl) rfl (fun _ _ _ h => h) (by exact hS) ?_
                        simp only [Act.put, List.setIfInBounds_toArray, List.set_cons_succ, List.set_cons_zero]
                        refine wpAnyH_skip_d 11 (some 101) rfl (by kernel_rfl) (by kernel_rfl) (by kernel_rfl) (by kernel_rfl) rfl (fun _ _ _ h => h) (by exact hS) ?_
                        simp only [Act.put, List.setIfInBounds_toArray, List.set_cons_succ, List.set_cons_zero]
                        refine wpAnyH_skip_d 12 (some 102) rfl (by kernel_rfl) (by kernel_rfl) (by kernel_rfl) (by kernel_rfl) rfl (fun _ _ _ h => h) (by exact hS) ?_
                        simp only [Act.put, List.setIfInBounds_toArray, List.set_cons_succ, List.set_cons_zero]
                        refine wpAnyH_take_d 13 (some 103) (.bool true) rfl (by kernel_rfl) (by kernel_rfl) (by kernel_rfl) (by kernel_rfl) rfl (fun _ _ _ h => h) (fun _ _ => by kernel_rfl) (by exact hS) ?_
                        simp only [Act.put, List.setIfInBounds_toArray, List.set_cons_succ, List.set_cons_zero]
                        refine wpAnyH_take_d 14 (some 13) (.bool true) rfl (by kernel_rfl) (by kernel_rfl) (by kernel_rfl) (by kernel_rfl) rfl (fun _ _ _ h => h) (fun _ _ => by kernel_rfl) (by exact hS) ?_
                        simp only [Act.put, List.setIfInBounds_toArray, List.set_cons_succ, List.set_cons_zero]
                        refine wpAnyH_done (by kernel_rfl) ?_ _
                        have SX := Lib.hid hsx.drew
                        have MX := Lib.hid (hmx.keep (w' := wr.drew) (fun _ _ _ h => h) (fun _ h => h))
                        have BX := Lib.hid bx.drew
                        clear hsx hmx bx
                        go_wp2
                        go_roundw
                        case rel => exact ⟨j + 1, by omega, by go_num, rfl, SX.out, MX.out, BX.out⟩
                        case measure => simp [intOf]; omega
                      · obtain rfl : j = ms5.length := by omega
                        go_wp2
                        go_roundw
                        case rel => exact ⟨k + 1, by omega, by omega, by go_num, true, ms5, X7, bl6, c + 1 + 1 + 1, rfl, hX7, hmx, by omega, hms5, by omega, hsx.more (by omega), GOOD.out, bx⟩
                        case measure => simp [intOf]; omega
                  · obtain ⟨g4, g5⟩ := g3 _ hn
                    rw [g4] at *
                    rw [g5] at by7
                    have GOOD := Lib.hid (show Good no ms5 (bl6 IT) from Or.inr ⟨mt, hmt, hn⟩)
                    clear g2 g3 g4 g5
                    go_wp2
                    go_loopw [13, 14] (fun fv jv wx => ∃ j : Nat, j ≤ ms5.length ∧ jv = .int .i64 j ∧ ∃ fb, fv = .bool fb ∧ (fb = true ∨ ∀ i, i < j → (ms5.getD i ByteArray.empty).data.toList ≠ mt.data.toList) ∧ StoAt X7 wx wa.heap.size ⟨bl6, 0, ByteArray.empty, [], c + 1 + 1 + 1⟩ (2 * k + 1 + 1) ∧ MayIn X7 wx (.slice mo ms5.length mcap) ms5 ∧ BytesIn X7 wx v7 mt.data.toList ∧ Below W.heap.size W wx) (fun _ jv _ => ms5.length - (intOf jv).toNat)
                    case atStart => exact ⟨0, Nat.zero_le _, rfl, false, rfl, Or.inr (fun i hi => by omega), hs7, hmay7, by7, b7⟩
                    case round =>
                      clear hs7 hmay7 b7 by7
                      obtain ⟨j, hj, rfl, fb, rfl, hfb, hsx, hmx, byx, bx⟩ := hrel
                      by_cases hjl : j < ms5.length
                      · cases fb
                        · have hnot : ∀ i, i < j → (ms5.getD i ByteArray.empty).data.toList ≠ mt.data.toList := by
                            rcases hfb with h | h
                            · cases h
                            · exact h
                          obtain ⟨mo', mcap', e, hrow⟩ := hmx
                          have hrow' := hrow (by omega)
                          obtain ⟨bb, boff, bcs, bfz, rfl, hyb, hhb, hatb⟩ := hrow'
                          cases e
                          have hmx : MayIn X7 wr (.slice (some ⟨bb, boff, none⟩) ms5.length mcap) ms5 := ⟨_, _, rfl, hrow⟩
                          have hcl : wr.drew.cell? ⟨bb, boff + j, none⟩ = some (.string (ms5.getD j ByteArray.empty)) := cell_row hhb _ (hatb j hjl)
                          have hcv := run_string_at (w := wr.drew) byx.at
                          obtain ⟨tj, htj⟩ : ∃ t, ms5.getD j ByteArray.empty = t := ⟨_, rfl⟩
                          obtain ⟨bq, hbq⟩ : ∃ bq, ((strOf mt.data.toList).toList == tj.toList) = bq := ⟨_, rfl⟩
                          rw [htj] at hcl
                          have hnx : bq = true ∨ ∀ i, i < j + 1 → (ms5.getD i ByteArray.empty).data.toList ≠ mt.data.toList := by
                            cases bq
                            · refine Or.inr (fun i hi => ?_)
                              by_cases hij : i < j
                              · exact hnot i hij
                              · obtain rfl : i = j := by omega
                                rw [htj]
                                intro e
                                rw [ByteArray.toList_eq, ByteArray.toList_eq, e] at hbq
                                simp [strOf] at hbq
                            · exact Or.inl rfl
                          go_wp2_with fail
                          have hS : wr.drew = wr.drew := rfl
                          refine wp_region_held_drew (S := fun w' => w' = wr.drew) mixed hS (fun _ => ?_)
                          show wpAnyH _ _ _ _ _ 15 (Array.replicate 15 false) _ _
                          refine wpAnyH_take_d 0 (some 90) (.bool false) rfl (by kernel_rfl) (by kernel_rfl) (by kernel_rfl) (by kernel_rfl) rfl (fun _ _ _ h => h) (fun _ _ => by kernel_rfl) (by exact hS) ?_
                          simp only [Act.put, List.setIfInBounds_toArray, List.set_cons_succ, List.set_cons_zero]
                          refine wpAnyH_take_d 1 (some 91) (.bool false) rfl (by kernel_rfl) (by kernel_rfl) (by kernel_rfl) (by kernel_rfl) rfl (fun _ _ _ h => h) (fun _ _ => by kernel_rfl) (by exact hS) ?_
                          simp only [Act.put, List.setIfInBounds_toArray, List.set_cons_succ, List.set_cons_zero]
                          refine wpAnyH_take_d 2 (some 92) (.int .i64 0) rfl (by kernel_rfl) (by kernel_rfl) (by kernel_rfl) (by kernel_rfl) rfl (fun _ _ _ h => h) (fun _ _ => by kernel_rfl) (by exact hS) ?_
                          simp only [Act.put, List.setIfInBounds_toArray, List.set_cons_succ, List.set_cons_zero]
                          refine wpAnyH_take_d 3 (some 93) (.bool true) rfl (by kernel_rfl) (by kernel_rfl) (by kernel_rfl) (by kernel_rfl) rfl (fun _ _ _ h => h) (fun _ _ => by kernel_rfl) (by exact hS) ?_
                          simp only [Act.put, List.setIfInBounds_toArray, List.set_cons_succ, List.set_cons_zero]
                          refine wpAnyH_take_d 4 (some 94) (.bool true) rfl (by kernel_rfl) (by kernel_rfl) (by kernel_rfl) (by kernel_rfl) rfl (fun _ _ _ h => h) (fun _ _ => by kernel_rfl) (by exact hS) ?_
                          simp only [Act.put, List.setIfInBounds_toArray, List.set_cons_succ, List.set_cons_zero]
                          refine wpAnyH_take_d 5 (some 95) (v7) rfl (by kernel_rfl) (by kernel_rfl) (by kernel_rfl) (by kernel_rfl) rfl (fun _ _ _ h => h) (fun _ _ => by kernel_rfl) (by exact hS) ?_
                          simp only [Act.put, List.setIfInBounds_toArray, List.set_cons_succ, List.set_cons_zero]
                          refine wpAnyH_take_d 6 (some 96) (.string (strOf mt.data.toList)) rfl (by kernel_rfl) (by kernel_rfl) (by kernel_rfl) (by kernel_rfl) rfl (fun _ _ _ h => h) (fun w' h => by subst h; exact exec_convert rfl rfl hcv) (by exact hS) ?_
                          simp only [Act.put, List.setIfInBounds_toArray, List.set_cons_succ, List.set_cons_zero]
                          refine wpAnyH_take_d 7 (some 97) (.slice (some ⟨bb, boff, none⟩) ms5.length mcap) rfl (by kernel_rfl) (by kernel_rfl) (by kernel_rfl) (by kernel_rfl) rfl (fun _ _ _ h => h) (fun _ _ => by kernel_rfl) (by exact hS) ?_
                          simp only [Act.put, List.setIfInBounds_toArray, List.set_cons_succ, List.set_cons_zero]
                          refine wpAnyH_take_d 8 (some 98) (.int .i64 j) rfl (by kernel_rfl) (by kernel_rfl) (by kernel_rfl) (by kernel_rfl) rfl (fun _ _ _ h => h) (fun _ _ => by kernel_rfl) (by exact hS) ?_
                          simp only [Act.put, List.setIfInBounds_toArray, List.set_cons_succ, List.set_cons_zero]
                          refine wpAnyH_take_d 9 (some 99) (.pointer (some ⟨bb, boff + j, none⟩)) rfl (by kernel_rfl) (by kernel_rfl) (by kernel_rfl) (by kernel_rfl) rfl (fun _ _ _ h => h) (fun w' h => exec_indexAddr rfl rfl rfl hjl Try.underlying27 (by kernel_rfl)) (by exact hS) ?_
                          simp only [Act.put, List.setIfInBounds_toArray, List.set_cons_succ, List.set_cons_zero]
                          refine wpAnyH_take_d 10 (some 100) (.string tj) rfl (by kernel_rfl) (by kernel_rfl) (by kernel_rfl) (by kernel_rfl) rfl (fun _ _ _ h => h) (fun w' h => by subst h; exact exec_load_cell rfl rfl hcl Try.underlying9 rfl) (by exact hS) ?_
                          simp only [Act.put, List.setIfInBounds_toArray, List.set_cons_succ, List.set_cons_zero]
                          refine wpAnyH_take_d 11 (some 101) (.bool bq) rfl (by kernel_rfl) (by kernel_rfl) (by kernel_rfl) (by kernel_rfl) rfl (fun _ _ _ h => h) (fun w' h => exec_streq rfl rfl rfl hbq) (by exact hS) ?_
                          simp only [Act.put, List.setIfInBounds_toArray, List.set_cons_succ, List.set_cons_zero]
                          refine wpAnyH_take_d 12 (some 102) (.bool bq) rfl (by kernel_rfl) (by kernel_rfl) (by kernel_rfl) (by kernel_rfl) rfl (fun _ _ _ h => h) (fun _ _ => by kernel_rfl) (by exact hS) ?_
                          simp only [Act.put, List.setIfInBounds_toArray, List.set_cons_succ, List.set_cons_zero]
                          refine wpAnyH_take_d 13 (some 103) (.bool bq) rfl (by kernel_rfl) (by kernel_rfl) (by kernel_rfl) (by kernel_rfl) rfl (fun _ _ _ h => h) (fun _ _ => by kernel_rfl) (by exact hS) ?_
                          simp only [Act.put, List.setIfInBounds_toArray, List.set_cons_succ, List.set_cons_zero]
                          refine wpAnyH_take_d 14 (some 13) (.bool bq) rfl (by kernel_rfl) (by kernel_rfl) (by kernel_rfl) (by kernel_rfl) rfl (fun _ _ _ h => h) (fun _ _ => by kernel_rfl) (by exact hS) ?_
                          simp only [Act.put, List.setIfInBounds_toArray, List.set_cons_succ, List.set_cons_zero]
                          refine wpAnyH_done (by kernel_rfl) ?_ _
                          have SX := Lib.hid hsx.drew
                          have MX := Lib.hid (hmx.keep (w' := wr.drew) (fun _ _ _ h => h) (fun _ h => h))
                          have YX := Lib.hid (byx.keep (w' := wr.drew) (fun _ _ _ h => h))
                          have BX := Lib.hid bx.drew
                          have NX := Lib.hid hnx
                          clear hsx hmx bx byx hnx hnot hcl hcv hrow hhb hatb hbq htj
                          go_wp2
                          go_roundw
                          case rel => exact ⟨j + 1, by omega, by go_num, bq, rfl, NX.out, SX.out, MX.out, YX.out, BX.out⟩
                          case measure => simp [intOf]; omega
                        · go_wp2_with fail
                          have hS : wr.drew = wr.drew := rfl
                          refine wp_region_held_drew (S := fun w' => w' = wr.drew) mixed hS (fun _ => ?_)
                          show wpAnyH _ _ _ _ _ 15 (Array.replicate 15 false) _ _
                          refine wpAnyH_take_d 0 (some 90) (.bool true) rfl (by kernel_rfl) (by kernel_rfl) (by kernel_rfl) (by kernel_rfl) rfl (fun _ _ _ h => h) (fun _ _ => by kernel_rfl) (by exact hS) ?_
                          simp only [Act.put, List.setIfInBounds_toArray, List.set_cons_succ, List.set_cons_zero]
                          refine wpAnyH_take_d 1 (some 91) (.bool true) rfl (by kernel_rfl) (by kernel_rfl) (by kernel_rfl) (by kernel_rfl) rfl (fun _ _ _ h => h) (fun _ _ => by kernel_rfl) (by exact hS) ?_
                          simp only [Act.put, List.setIfInBounds_toArray, List.set_cons_succ, List.set_cons_zero]
                          refine wpAnyH_skip_d 2 (some 92) rfl (by kernel_rfl) (by kernel_rfl) (by kernel_rfl) (by kernel_rfl) rfl (fun _ _ _ h => h) (by exact hS) ?_
                          simp only [Act.put, List.setIfInBounds_toArray, List.set_cons_succ, List.set_cons_zero]
                          refine wpAnyH_skip_d 3 (some 93) rfl (by kernel_rfl) (by kernel_rfl) (by kernel_rfl) (by kernel_rfl) rfl (fun _ _ _ h => h) (by exact hS) ?_
                          simp only [Act.put, List.setIfInBounds_toArray, List.set_cons_succ, List.set_cons_zero]
                          refine wpAnyH_skip_d 4 (some 94) rfl (by kernel_rfl) (by kernel_rfl) (by kernel_rfl) (by kernel_rfl) rfl (fun _ _ _ h => h) (by exact hS) ?_
                          simp only [Act.put, List.setIfInBounds_toArray, List.set_cons_succ, List.set_cons_zero]
                          refine wpAnyH_skip_d 5 (some 95) rfl (by kernel_rfl) (by kernel_rfl) (by kernel_rfl) (by kernel_rfl) rfl (fun _ _ _ h => h) (by exact hS) ?_
                          simp only [Act.put, List.setIfInBounds_toArray, List.set_cons_succ, List.set_cons_zero]
                          refine wpAnyH_skip_d 6 (some 96) rfl (by kernel_rfl) (by kernel_rfl) (by kernel_rfl) (by kernel_rfl) rfl (fun _ _ _ h => h) (by exact hS) ?_
                          simp only [Act.put, List.setIfInBounds_toArray, List.set_cons_succ, List.set_cons_zero]
                          refine wpAnyH_skip_d 7 (some 97) rfl (by kernel_rfl) (by kernel_rfl) (by kernel_rfl) (by kernel_rfl) rfl (fun _ _ _ h => h) (by exact hS) ?_
                          simp only [Act.put, List.setIfInBounds_toArray, List.set_cons_succ, List.set_cons_zero]
                          refine wpAnyH_skip_d 8 (some 98) rfl (by kernel_rfl) (by kernel_rfl) (by kernel_rfl) (by kernel_rfl) rfl (fun _ _ _ h => h) (by exact hS) ?_
                          simp only [Act.put, List.setIfInBounds_toArray, List.set_cons_succ, List.set_cons_zero]
                          refine wpAnyH_skip_d 9 (some 99) rfl (by kernel_rfl) (by kernel_rfl) (by kernel_rfl) (by kernel_rfl) rfl (fun _ _ _ h => h) (by exact hS) ?_
                          simp only [Act.put, List.setIfInBounds_toArray, List.set_cons_succ, List.set_cons_zero]
                          refine wpAnyH_skip_d 10 (some 100) rfl (by kernel_rfl) (by kernel_rfl) (by kernel_rfl) (by kernel_rfl) rfl (fun _ _ _ h => h) (by exact hS) ?_
                          simp only [Act.put, List.setIfInBounds_toArray, List.set_cons_succ, List.set_cons_zero]
                          refine wpAnyH_skip_d 11 (some 101) rfl (by kernel_rfl) (by kernel_rfl) (by kernel_rfl) (by kernel_rfl) rfl (fun _ _ _ h => h) (by exact hS) ?_
                          simp only [Act.put, List.setIfInBounds_toArray, List.set_cons_succ, List.set_cons_zero]
                          refine wpAnyH_skip_d 12 (some 102) rfl (by kernel_rfl) (by kernel_rfl) (by kernel_rfl) (by kernel_rfl) rfl (fun _ _ _ h => h) (by exact hS) ?_
                          simp only [Act.put, List.setIfInBounds_toArray, List.set_cons_succ, List.set_cons_zero]
                          refine wpAnyH_take_d 13 (some 103) (.bool true) rfl (by kernel_rfl) (by kernel_rfl) (by kernel_rfl) (by kernel_rfl) rfl (fun _ _ _ h => h) (fun _ _ => by kernel_rfl) (by exact hS) ?_
                          simp only [Act.put, List.setIfInBounds_toArray, List.set_cons_succ, List.set_cons_zero]
                          refine wpAnyH_take_d 14 (some 13) (.bool true) rfl (by kernel_rfl) (by kernel_rfl) (by kernel_rfl) (by kernel_rfl) rfl (fun _ _ _ h => h) (fun _ _ => by kernel_rfl) (by exact hS) ?_
                          simp only [Act.put, List.setIfInBounds_toArray, List.set_cons_succ, List.set_cons_zero]
                          refine wpAnyH_done (by kernel_rfl) ?_ _
                          have SX := Lib.hid hsx.drew
                          have MX := Lib.hid (hmx.keep (w' := wr.drew) (fun _ _ _ h => h) (fun _ h => h))
                          have YX := Lib.hid (byx.keep (w' := wr.drew) (fun _ _ _ h => h))
                          have BX := Lib.hid bx.drew
                          clear hsx hmx bx byx hfb
                          go_wp2
                          go_roundw
                          case rel => exact ⟨j + 1, by omega, by go_num, true, rfl, Or.inl rfl, SX.out, MX.out, YX.out, BX.out⟩
                          case measure => simp [intOf]; omega
                      · obtain rfl : j = ms5.length := by omega
                        obtain rfl : fb = true := by
                          rcases hfb with h | h
                          · exact h
                          · obtain ⟨i, hi, e⟩ := List.mem_iff_getElem.1 hmt
                            refine absurd ?_ (h i hi)
                            rw [List.getD_eq_getElem?_getD, List.getElem?_eq_getElem hi, e]; rfl
                        clear byx hfb
                        go_wp2
                        go_roundw
                        case rel => exact ⟨k + 1, by omega, by omega, by go_num, no, ms5, X7, bl6, c + 1 + 1 + 1, rfl, hX7, hmx, by omega, hms5, by omega, hsx.more (by omega), GOOD.out, bx⟩
                        case measure => simp [intOf]; omega

              · skip
                simp only [Act.put, List.setIfInBounds_toArray, List.set_cons_succ, List.set_cons_zero]
                have h67 := may_one (Y := fun k => k = w4.heap.size) w4.drew d rfl
                generalize hwB : w4.drew.alloc (.cells #[.string d] 9) = wB at *
                have hG : Below w4.heap.size w4 (wB.alloc (.cells #[] 9)) := hB.alloc hB.size _
                have hS := hG
                refine wpAnyH_one 0 (some 60) (.slice (some ⟨wB.heap.size, 0, none⟩) 0 0) rfl (by kernel_rfl) (by kernel_rfl) rfl (exec_build0 rfl (build0 wB)) (by exact hS) ?_
                simp only [Act.put, List.setIfInBounds_toArray, List.set_cons_succ, List.set_cons_zero]
                have hszB : w4.heap.size < wB.heap.size := by rw [← hwB]; simp
                have o60 := own_made wB
                have h67b := h67.keep (w' := wB.alloc (.cells #[] 9)) (Y' := fun k => k = w4.heap.size) (fun j o _ ho => ((below_alloc wB _).block j (lt_of_heap ho)).trans ho) (fun _ h => h)
                generalize wB.alloc (.cells #[] 9) = wG at *
                have o60' := ownsRow_base (base' := w4.heap.size) o60 (fun j e => by have hj : j = wB.heap.size := by simpa [Value.ownBlock] using e.symm
                                                                                     omega)
                obtain ⟨v62, wH, hrunH, hoH, hgH⟩ := may_append o60' hG.size (hmB wG hG) (by simp; omega) 27
                have hH : Below w4.heap.size w4 wH := own_below o60' hgH hG hG.size
                have hS := hH
                refine wpAnyH_one 2 (some 62) (v62) rfl (by kernel_rfl) (by kernel_rfl) rfl (exec_append rfl rfl rfl hrunH) (by exact hS) ?_
                simp only [Act.put, List.setIfInBounds_toArray, List.set_cons_succ, List.set_cons_zero]
                have h67' := h67b.keep (w' := wH) (Y' := fun _ => True) (fun j o hj ho => (hgH.block j (lt_of_heap ho) (fun e => by have hj2 : j = wB.heap.size := by simpa [Value.ownBlock] using e
                                                                                                                                    omega)).trans ho) (fun _ _ => trivial)
                rw [Nat.zero_add, List.nil_append] at hoH
                obtain ⟨v68, w5, hrun8, ho8, hg8⟩ := may_append hoH (by exact hH.size) h67' (by simp; omega) 27
                have hb8 : Below w4.heap.size w4 w5 := own_below hoH hg8 hH hH.size
                have hS : Below w4.heap.size w4 w5 := hb8
                refine wpAnyH_one 8 (some 68) (v68) rfl (by kernel_rfl) (by kernel_rfl) rfl (exec_append rfl rfl rfl hrun8) (by exact hS) ?_
                simp only [Act.put, List.setIfInBounds_toArray, List.set_cons_succ, List.set_cons_zero]
                refine wpAnyH_take_d 9 (some 7) (v68) rfl (by kernel_rfl) (by kernel_rfl) (by kernel_rfl) (by kernel_rfl) rfl (fun _ _ _ h => h) (fun _ _ => by kernel_rfl) (by exact hS) ?_
                simp only [Act.put, List.setIfInBounds_toArray, List.set_cons_succ, List.set_cons_zero]
                refine wpAnyH_done (by kernel_rfl) ?_ _
                have ho8' : w5.ownsRow w4.heap.size 9 1 v68 (ms ++ [d]).length ((ms ++ [d]).map sV) := by rw [List.length_append, List.map_append]; exact ho8
                have hs5 := hs4.wd hb8
                have hX5 : ∀ j, j < W.heap.size → Wd X4 w4.heap.size w5.heap.size j := fun j hj => Or.inl (hX4 j hj)
                have hmay5 := (MayIn.of_own ho8').keep (Y' := Wd X4 w4.heap.size w5.heap.size) (w' := w5) (fun _ _ _ h => h) (fun _ h => Or.inr h)
                have b5 : Below W.heap.size W w5 := b4.trans (hb8.mono b4.size)
                generalize Wd X4 w4.heap.size w5.heap.size = X5 at hs5 hX5 hmay5
                obtain ⟨ms5, hms5e⟩ : ∃ x, ms ++ [d] = x := ⟨_, rfl⟩
                obtain ⟨bl5, hbl5⟩ : ∃ x, blx = x := ⟨_, rfl⟩
                have good5 : Good no ms5 (bl5 IT) := by rw [← hms5e, ← hbl5]; exact hgood.add hor
                have hml5 : ms5.length ≤ k + 1 := by rw [← hms5e, List.length_append]; simpa using hml
                have hms5 : ∀ m ∈ ms5, m.size ≤ 5000 := by
                  intro m hm
                  rw [← hms5e] at hm
                  rcases List.mem_append.1 hm with h | h
                  · exact hms m h
                  · rw [List.mem_singleton.1 h]; exact h5
                rw [hms5e] at hmay5
                rw [hbl5] at hs5
                clear hS hb8 hg8 ho8 ho8' hrun8 hA hB hG hH o60 o60' hrunH hoH hgH h67 h67b h67' hcB hmB hszB hwB hs4 hX4 hmay4 hms hml hgood hor hms5e hbl5 b4 hcA

                go_wp2_with fail
                have hp := put_any (hs5.wd (below_alloc w5 (.cells #[byteV 111] 5 (1, 2)))) (by show c + 1 < _; omega) (by unfold maxLen; omega) (ByteArray.mk #[111, 116, 104, 101, 114]) (by decide) (bytes_lit1 w5 111)
                obtain ⟨q1, bl6, q2, q3⟩ := putO (bl := bl5) (c := c + 1)
                rw [q1, q2] at hp
                clear q1 q2
                refine hp.mono ?_
                rintro e w6 ⟨rfl, hs6, kp6⟩
                have b6 : Below W.heap.size W w6 := below_step b5 (below_alloc w5 _) kp6.unwd b5.size hX5
                have hmay6 := (hmay5.keep (fun k o _ ho => ((below_alloc w5 _).block k (lt_of_heap ho)).trans ho) (fun _ h => h)).keep (fun k o hx ho => kp6.unwd.keep k o hx ho) (fun _ h => h)
                replace hs6 := hs6.unwd
                have good6 : Good no ms5 (bl6 IT) := by rw [q3]; exact good5
                clear hp hs5 kp6 b5 hmay5 q3 good5 hcv
                obtain ⟨g1, g2, g3⟩ := getI (bl := bl6) (c := c + 1 + 1)
                have hsz : ∀ t, bl6 IT = some t → t.length ≤ 1000000000000 := fun t ht => by
                  rcases good6 with ⟨h1, _⟩ | ⟨m, hm, h1⟩
                  · rw [h1] at ht; cases ht
                  · rw [h1] at ht; cases ht; have := hms5 m hm; simp; omega
                have hg := get_any hs6 (by show c + 1 + 1 < _; omega) (ByteArray.mk #[105, 116]) (by decide) hsz
                rw [g1] at hg
                go_wp2_with fail
                refine hg.mono ?_
                rintro e w7 ⟨v7, m7, rfl, hm7, hs7, by7, kp7⟩
                have b7 : Below W.heap.size W w7 := below_step b6 (Below.refl _ _) kp7 b6.size hX5
                have hmay7 := hmay6.keep (Y' := Wd X5 m7 w7.heap.size) (fun k o hx ho => kp7.keep k o hx ho) (fun _ h => Or.inl h)
                have hX7 : ∀ j, j < W.heap.size → Wd X5 m7 w7.heap.size j := fun j hj => Or.inl (hX5 j hj)
                generalize Wd X5 m7 w7.heap.size = X7 at hs7 by7 hmay7 hX7
                clear hg hs6 kp7 b6 hmay6 hm7 g1 hsz hX5
                obtain ⟨mo, mcap, rfl, hmrow⟩ := hmay7.form
                rcases good6 with ⟨hn, hno⟩ | ⟨mt, hmt, hn⟩
                · subst hno
                  rw [g2 hn] at *
                  have GOOD := Lib.hid (show Good true ms5 (bl6 IT) from Or.inl ⟨hn, rfl⟩)
                  clear g2 g3 by7
                  go_wp2
                  go_loopw [13, 14] (fun fv jv wx => ∃ j : Nat, j ≤ ms5.length ∧ jv = .int .i64 j ∧ fv = .bool true ∧ StoAt X7 wx wa.heap.size ⟨bl6, 0, ByteArray.empty, [], c + 1 + 1 + 1⟩ (2 * k + 1 + 1) ∧ MayIn X7 wx (.slice mo ms5.length mcap) ms5 ∧ Below W.heap.size W wx) (fun _ jv _ => ms5.length - (intOf jv).toNat)
                  case atStart => exact ⟨0, Nat.zero_le _, rfl, rfl, hs7, hmay7, b7⟩
                  case round =>
                    clear hs7 hmay7 b7
                    obtain ⟨j, hj, rfl, rfl, hsx, hmx, bx⟩ := hrel
                    by_cases hjl : j < ms5.length
                    · go_wp2_with fail
                      have hS : wr.drew = wr.drew := rfl
                      refine wp_region_held_drew (S := fun w' => w' = wr.drew) mixed hS (fun _ => ?_)
                      show wpAnyH _ _ _ _ _ 15 (Array.replicate 15 false) _ _
                      refine wpAnyH_take_d 0 (some 90) (.bool true) rfl (by kernel_rfl) (by kernel_rfl) (by kernel_rfl) (by kernel_rfl) rfl (fun _ _ _ h => h) (fun _ _ => by kernel_rfl) (by exact hS) ?_
                      simp only [Act.put, List.setIfInBounds_toArray, List.set_cons_succ, List.set_cons_zero]
                      refine wpAnyH_take_d 1 (some 91) (.bool true) rfl (by kernel_rfl) (by kernel_rfl) (by kernel_rfl) (by kernel_rfl) rfl (fun _ _ _ h => h) (fun _ _ => by kernel_rfl) (by exact hS) ?_
                      simp only [Act.put, List.setIfInBounds_toArray, List.set_cons_succ, List.set_cons_zero]
                      refine wpAnyH_skip_d 2 (some 92) rfl (by kernel_rfl) (by kernel_rfl) (by kernel_rfl) (by kernel_rfl) rfl (fun _ _ _ h => h) (by exact hS) ?_
                      simp only [Act.put, List.setIfInBounds_toArray, List.set_cons_succ, List.set_cons_zero]
                      refine wpAnyH_skip_d 3 (some 93) rfl (by kernel_rfl) (by kernel_rfl) (by kernel_rfl) (by kernel_rfl) rfl (fun _ _ _ h => h) (by exact hS) ?_
                      simp only [Act.put, List.setIfInBounds_toArray, List.set_cons_succ, List.set_cons_zero]
                      refine wpAnyH_skip_d 4 (some 94) rfl (by kernel_rfl) (by kernel_rfl) (by kernel_rfl) (by kernel_rfl) rfl (fun _ _ _ h => h) (by exact hS) ?_
                      simp only [Act.put, List.setIfInBounds_toArray, List.set_cons_succ, List.set_cons_zero]
                      refine wpAnyH_skip_d 5 (some 95) rfl (by kernel_rfl) (by kernel_rfl) (by kernel_rfl) (by kernel_rfl) rfl (fun _ _ _ h => h) (by exact hS) ?_
                      simp only [Act.put, List.setIfInBounds_toArray, List.set_cons_succ, List.set_cons_zero]
                      refine wpAnyH_skip_d 6 (some 96) rfl (by kernel_rfl) (by kernel_rfl) (by kernel_rfl) (by kernel_rfl) rfl (fun _ _ _ h => h) (by exact hS) ?_
                      simp only [Act.put, List.setIfInBounds_toArray, List.set_cons_succ, List.set_cons_zero]
                      refine wpAnyH_skip_d 7 (some 97) rfl (by kernel_rfl) (by kernel_rfl) (by kernel_rfl) (by kernel_rfl) rfl (fun _ _ _ h => h) (by exact hS) ?_
                      simp only [Act.put, List.setIfInBounds_toArray, List.set_cons_succ, List.set_cons_zero]
                      refine wpAnyH_skip_d 8 (some 98) rfl (by kernel_rfl) (by kernel_rfl) (by kernel_rfl) (by kernel_rfl) rfl (fun _ _ _ h => h) (by exact hS) ?_
                      simp only [Act.put, List.setIfInBounds_toArray, List.set_cons_succ, List.set_cons_zero]
                      refine wpAnyH_skip_d 9 (some 99) rfl (by kernel_rfl) (by kernel_rfl) (by kernel_rfl) (by kernel_rfl) rfl (fun _ _ _ h => h) (by exact hS) ?_
                      simp only [Act.put, List.setIfInBounds_toArray, List.set_cons_succ, List.set_cons_zero]
                      refine wpAnyH_skip_d 10 (some 100) rfl (by kernel_rfl) (by kernel_rfl) (by kernel_rfl) (by kernel_rfl) rfl (fun _ _ _ h => h) (by exact hS) ?_
                      simp only [Act.put, List.setIfInBounds_toArray, List.set_cons_succ, List.set_cons_zero]
                      refine wpAnyH_skip_d 11 (some 101) rfl (by kernel_rfl) (by kernel_rfl) (by kernel_rfl) (by kernel_rfl) rfl (fun _ _ _ h => h) (by exact hS) ?_
                      simp only [Act.put, List.setIfInBounds_toArray, List.set_cons_succ, List.set_cons_zero]
                      refine wpAnyH_skip_d 12 (some 102) rfl (by kernel_rfl) (by kernel_rfl) (by kernel_rfl) (by kernel_rfl) rfl (fun _ _ _ h => h) (by exact hS) ?_
                      simp only [Act.put, List.setIfInBounds_toArray, List.set_cons_succ, List.set_cons_zero]
                      refine wpAnyH_take_d 13 (some 103) (.bool true) rfl (by kernel_rfl) (by kernel_rfl) (by kernel_rfl) (by kernel_rfl) rfl (fun _ _ _ h => h) (fun _ _ => by kernel_rfl) (by exact hS) ?_
                      simp only [Act.put, List.setIfInBounds_toArray, List.set_cons_succ, List.set_cons_zero]
                      refine wpAnyH_take_d 14 (some 13) (.bool true) rfl (by kernel_rfl) (by kernel_rfl) (by kernel_rfl) (by kernel_rfl) rfl (fun _ _ _ h => h) (fun _ _ => by kernel_rfl) (by exact hS) ?_
                      simp only [Act.put, List.setIfInBounds_toArray, List.set_cons_succ, List.set_cons_zero]
                      refine wpAnyH_done (by kernel_rfl) ?_ _
                      have SX := Lib.hid hsx.drew
                      have MX := Lib.hid (hmx.keep (w' := wr.drew) (fun _ _ _ h => h) (fun _ h => h))
                      have BX := Lib.hid bx.drew
                      clear hsx hmx bx
                      go_wp2
                      go_roundw
                      case rel => exact ⟨j + 1, by omega, by go_num, rfl, SX.out, MX.out, BX.out⟩
                      case measure => simp [intOf]; omega
                    · obtain rfl : j = ms5.length := by omega
                      go_wp2
                      go_roundw
                      case rel => exact ⟨k + 1, by omega, by omega, by go_num, true, ms5, X7, bl6, c + 1 + 1 + 1, rfl, hX7, hmx, by omega, hms5, by omega, hsx.more (by omega), GOOD.out, bx⟩
                      case measure => simp [intOf]; omega
                · obtain ⟨g4, g5⟩ := g3 _ hn
                  rw [g4] at *
                  rw [g5] at by7
                  have GOOD := Lib.hid (show Good no ms5 (bl6 IT) from Or.inr ⟨mt, hmt, hn⟩)
                  clear g2 g3 g4 g5
                  go_wp2
                  go_loopw [13, 14] (fun fv jv wx => ∃ j : Nat, j ≤ ms5.length ∧ jv = .int .i64 j ∧ ∃ fb, fv = .bool fb ∧ (fb = true ∨ ∀ i, i < j → (ms5.getD i ByteArray.empty).data.toList ≠ mt.data.toList) ∧ StoAt X7 wx wa.heap.size ⟨bl6, 0, ByteArray.empty, [], c + 1 + 1 + 1⟩ (2 * k + 1 + 1) ∧ MayIn X7 wx (.slice mo ms5.length mcap) ms5 ∧ BytesIn X7 wx v7 mt.data.toList ∧ Below W.heap.size W wx) (fun _ jv _ => ms5.length - (intOf jv).toNat)
                  case atStart => exact ⟨0, Nat.zero_le _, rfl, false, rfl, Or.inr (fun i hi => by omega), hs7, hmay7, by7, b7⟩
                  case round =>
                    clear hs7 hmay7 b7 by7
                    obtain ⟨j, hj, rfl, fb, rfl, hfb, hsx, hmx, byx, bx⟩ := hrel
                    by_cases hjl : j < ms5.length
                    · cases fb
                      · have hnot : ∀ i, i < j → (ms5.getD i ByteArray.empty).data.toList ≠ mt.data.toList := by
                          rcases hfb with h | h
                          · cases h
                          · exact h
                        obtain ⟨mo', mcap', e, hrow⟩ := hmx
                        have hrow' := hrow (by omega)
                        obtain ⟨bb, boff, bcs, bfz, rfl, hyb, hhb, hatb⟩ := hrow'
                        cases e
                        have hmx : MayIn X7 wr (.slice (some ⟨bb, boff, none⟩) ms5.length mcap) ms5 := ⟨_, _, rfl, hrow⟩
                        have hcl : wr.drew.cell? ⟨bb, boff + j, none⟩ = some (.string (ms5.getD j ByteArray.empty)) := cell_row hhb _ (hatb j hjl)
                        have hcv := run_string_at (w := wr.drew) byx.at
                        obtain ⟨tj, htj⟩ : ∃ t, ms5.getD j ByteArray.empty = t := ⟨_, rfl⟩
                        obtain ⟨bq, hbq⟩ : ∃ bq, ((strOf mt.data.toList).toList == tj.toList) = bq := ⟨_, rfl⟩
                        rw [htj] at hcl
                        have hnx : bq = true ∨ ∀ i, i < j + 1 → (ms5.getD i ByteArray.empty).data.toList ≠ mt.data.toList := by
                          cases bq
                          · refine Or.inr (fun i hi => ?_)
                            by_cases hij : i < j
                            · exact hnot i hij
                            · obtain rfl : i = j := by omega
                              rw [htj]
                              intro e
                              rw [ByteArray.toList_eq, ByteArray.toList_eq, e] at hbq
                              simp [strOf] at hbq
                          · exact Or.inl rfl
                        go_wp2_with fail
                        have hS : wr.drew = wr.drew := rfl
                        refine wp_region_held_drew (S := fun w' => w' = wr.drew) mixed hS (fun _ => ?_)
                        show wpAnyH _ _ _ _ _ 15 (Array.replicate 15 false) _ _
                        refine wpAnyH_take_d 0 (some 90) (.bool false) rfl (by kernel_rfl) (by kernel_rfl) (by kernel_rfl) (by kernel_rfl) rfl (fun _ _ _ h => h) (fun _ _ => by kernel_rfl) (by exact hS) ?_
                        simp only [Act.put, List.setIfInBounds_toArray, List.set_cons_succ, List.set_cons_zero]
                        refine wpAnyH_take_d 1 (some 91) (.bool false) rfl (by kernel_rfl) (by kernel_rfl) (by kernel_rfl) (by kernel_rfl) rfl (fun _ _ _ h => h) (fun _ _ => by kernel_rfl) (by exact hS) ?_
                        simp only [Act.put, List.setIfInBounds_toArray, List.set_cons_succ, List.set_cons_zero]
                        refine wpAnyH_take_d 2 (some 92) (.int .i64 0) rfl (by kernel_rfl) (by kernel_rfl) (by kernel_rfl) (by kernel_rfl) rfl (fun _ _ _ h => h) (fun _ _ => by kernel_rfl) (by exact hS) ?_
                        simp only [Act.put, List.setIfInBounds_toArray, List.set_cons_succ, List.set_cons_zero]
                        refine wpAnyH_take_d 3 (some 93) (.bool true) rfl (by kernel_rfl) (by kernel_rfl) (by kernel_rfl) (by kernel_rfl) rfl (fun _ _ _ h => h) (fun _ _ => by kernel_rfl) (by exact hS) ?_
                        simp only [Act.put, List.setIfInBounds_toArray, List.set_cons_succ, List.set_cons_zero]
                        refine wpAnyH_take_d 4 (some 94) (.bool true) rfl (by kernel_rfl) (by kernel_rfl) (by kernel_rfl) (by kernel_rfl) rfl (fun _ _ _ h => h) (fun _ _ => by kernel_rfl) (by exact hS) ?_
                        simp only [Act.put, List.setIfInBounds_toArray, List.set_cons_succ, List.set_cons_zero]
                        refine wpAnyH_take_d 5 (some 95) (v7) rfl (by kernel_rfl) (by kernel_rfl) (by kernel_rfl) (by kernel_rfl) rfl (fun _ _ _ h => h) (fun _ _ => by kernel_rfl) (by exact hS) ?_
                        simp only [Act.put, List.setIfInBounds_toArray, List.set_cons_succ, List.set_cons_zero]
                        refine wpAnyH_take_d 6 (some 96) (.string (strOf mt.data.toList)) rfl (by kernel_rfl) (by kernel_rfl) (by kernel_rfl) (by kernel_rfl) rfl (fun _ _ _ h => h) (fun w' h => by subst h; exact exec_convert rfl rfl hcv) (by exact hS) ?_
                        simp only [Act.put, List.setIfInBounds_toArray, List.set_cons_succ, List.set_cons_zero]
                        refine wpAnyH_take_d 7 (some 97) (.slice (some ⟨bb, boff, none⟩) ms5.length mcap) rfl (by kernel_rfl) (by kernel_rfl) (by kernel_rfl) (by kernel_rfl) rfl (fun _ _ _ h => h) (fun _ _ => by kernel_rfl) (by exact hS) ?_
                        simp only [Act.put, List.setIfInBounds_toArray, List.set_cons_succ, List.set_cons_zero]
                        refine wpAnyH_take_d 8 (some 98) (.int .i64 j) rfl (by kernel_rfl) (by kernel_rfl) (by kernel_rfl) (by kernel_rfl) rfl (fun _ _ _ h => h) (fun _ _ => by kernel_rfl) (by exact hS) ?_
                        simp only [Act.put, List.setIfInBounds_toArray, List.set_cons_succ, List.set_cons_zero]
                        refine wpAnyH_take_d 9 (some 99) (.pointer (some ⟨bb, boff + j, none⟩)) rfl (by kernel_rfl) (by kernel_rfl) (by kernel_rfl) (by kernel_rfl) rfl (fun _ _ _ h => h) (fun w' h => exec_indexAddr rfl rfl rfl hjl Try.underlying27 (by kernel_rfl)) (by exact hS) ?_
                        simp only [Act.put, List.setIfInBounds_toArray, List.set_cons_succ, List.set_cons_zero]
                        refine wpAnyH_take_d 10 (some 100) (.string tj) rfl (by kernel_rfl) (by kernel_rfl) (by kernel_rfl) (by kernel_rfl) rfl (fun _ _ _ h => h) (fun w' h => by subst h; exact exec_load_cell rfl rfl hcl Try.underlying9 rfl) (by exact hS) ?_
                        simp only [Act.put, List.setIfInBounds_toArray, List.set_cons_succ, List.set_cons_zero]
                        refine wpAnyH_take_d 11 (some 101) (.bool bq) rfl (by kernel_rfl) (by kernel_rfl) (by kernel_rfl) (by kernel_rfl) rfl (fun _ _ _ h => h) (fun w' h => exec_streq rfl rfl rfl hbq) (by exact hS) ?_
                        simp only [Act.put, List.setIfInBounds_toArray, List.set_cons_succ, List.set_cons_zero]
                        refine wpAnyH_take_d 12 (some 102) (.bool bq) rfl (by kernel_rfl) (by kernel_rfl) (by kernel_rfl) (by kernel_rfl) rfl (fun _ _ _ h => h) (fun _ _ => by kernel_rfl) (by exact hS) ?_
                        simp only [Act.put, List.setIfInBounds_toArray, List.set_cons_succ, List.set_cons_zero]
                        refine wpAnyH_take_d 13 (some 103) (.bool bq) rfl (by kernel_rfl) (by kernel_rfl) (by kernel_rfl) (by kernel_rfl) rfl (fun _ _ _ h => h) (fun _ _ => by kernel_rfl) (by exact hS) ?_
                        simp only [Act.put, List.setIfInBounds_toArray, List.set_cons_succ, List.set_cons_zero]
                        refine wpAnyH_take_d 14 (some 13) (.bool bq) rfl (by kernel_rfl) (by kernel_rfl) (by kernel_rfl) (by kernel_rfl) rfl (fun _ _ _ h => h) (fun _ _ => by kernel_rfl) (by exact hS) ?_
                        simp only [Act.put, List.setIfInBounds_toArray, List.set_cons_succ, List.set_cons_zero]
                        refine wpAnyH_done (by kernel_rfl) ?_ _
                        have SX := Lib.hid hsx.drew
                        have MX := Lib.hid (hmx.keep (w' := wr.drew) (fun _ _ _ h => h) (fun _ h => h))
                        have YX := Lib.hid (byx.keep (w' := wr.drew) (fun _ _ _ h => h))
                        have BX := Lib.hid bx.drew
                        have NX := Lib.hid hnx
                        clear hsx hmx bx byx hnx hnot hcl hcv hrow hhb hatb hbq htj
                        go_wp2
                        go_roundw
                        case rel => exact ⟨j + 1, by omega, by go_num, bq, rfl, NX.out, SX.out, MX.out, YX.out, BX.out⟩
                        case measure => simp [intOf]; omega
                      · go_wp2_with fail
                        have hS : wr.drew = wr.drew := rfl
                        refine wp_region_held_drew (S := fun w' => w' = wr.drew) mixed hS (fun _ => ?_)
                        show wpAnyH _ _ _ _ _ 15 (Array.replicate 15 false) _ _
                        refine wpAnyH_take_d 0 (some 90) (.bool true) rfl (by kernel_rfl) (by kernel_rfl) (by kernel_rfl) (by kernel_rfl) rfl (fun _ _ _ h => h) (fun _ _ => by kernel_rfl) (by exact hS) ?_
                        simp only [Act.put, List.setIfInBounds_toArray, List.set_cons_succ, List.set_cons_zero]
                        refine wpAnyH_take_d 1 (some 91) (.bool true) rfl (by kernel_rfl) (by kernel_rfl) (by kernel_rfl) (by kernel_rfl) rfl (fun _ _ _ h => h) (fun _ _ => by kernel_rfl) (by exact hS) ?_
                        simp only [Act.put, List.setIfInBounds_toArray, List.set_cons_succ, List.set_cons_zero]
                        refine wpAnyH_skip_d 2 (some 92) rfl (by kernel_rfl) (by kernel_rfl) (by kernel_rfl) (by kernel_rfl) rfl (fun _ _ _ h => h) (by exact hS) ?_
                        simp only [Act.put, List.setIfInBounds_toArray, List.set_cons_succ, List.set_cons_zero]
                        refine wpAnyH_skip_d 3 (some 93) rfl (by kernel_rfl) (by kernel_rfl) (by kernel_rfl) (by kernel_rfl) rfl (fun _ _ _ h => h) (by exact hS) ?_
                        simp only [Act.put, List.setIfInBounds_toArray, List.set_cons_succ, List.set_cons_zero]
                        refine wpAnyH_skip_d 4 (some 94) rfl (by kernel_rfl) (by kernel_rfl) (by kernel_rfl) (by kernel_rfl) rfl (fun _ _ _ h => h) (by exact hS) ?_
                        simp only [Act.put, List.setIfInBounds_toArray, List.set_cons_succ, List.set_cons_zero]
                        refine wpAnyH_skip_d 5 (some 95) rfl (by kernel_rfl) (by kernel_rfl) (by kernel_rfl) (by kernel_rfl) rfl (fun _ _ _ h => h) (by exact hS) ?_
                        simp only [Act.put, List.setIfInBounds_toArray, List.set_cons_succ, List.set_cons_zero]
                        refine wpAnyH_skip_d 6 (some 96) rfl (by kernel_rfl) (by kernel_rfl) (by kernel_rfl) (by kernel_rfl) rfl (fun _ _ _ h => h) (by exact hS) ?_
                        simp only [Act.put, List.setIfInBounds_toArray, List.set_cons_succ, List.set_cons_zero]
                        refine wpAnyH_skip_d 7 (some 97) rfl (by kernel_rfl) (by kernel_rfl) (by kernel_rfl) (by kernel_rfl) rfl (fun _ _ _ h => h) (by exact hS) ?_
                        simp only [Act.put, List.setIfInBounds_toArray, List.set_cons_succ, List.set_cons_zero]
                        refine wpAnyH_skip_d 8 (some 98) rfl (by kernel_rfl) (by kernel_rfl) (by kernel_rfl) (by kernel_rfl) rfl (fun _ _ _ h => h) (by exact hS) ?_
                        simp only [Act.put, List.setIfInBounds_toArray, List.set_cons_succ, List.set_cons_zero]
                        refine wpAnyH_skip_d 9 (some 99) rfl (by kernel_rfl) (by kernel_rfl) (by kernel_rfl) (by kernel_rfl) rfl (fun _ _ _ h => h) (by exact hS) ?_
                        simp only [Act.put, List.setIfInBounds_toArray, List.set_cons_succ, List.set_cons_zero]
                        refine wpAnyH_skip_d 10 (some 100) rfl (by kernel_rfl) (by kernel_rfl) (by kernel_rfl) (by kernel_rfl) rfl (fun _ _ _ h => h) (by exact hS) ?_
                        simp only [Act.put, List.setIfInBounds_toArray, List.set_cons_succ, List.set_cons_zero]
                        refine wpAnyH_skip_d 11 (some 101) rfl (by kernel_rfl) (by kernel_rfl) (by kernel_rfl) (by kernel_rfl) rfl (fun _ _ _ h => h) (by exact hS) ?_
                        simp only [Act.put, List.setIfInBounds_toArray, List.set_cons_succ, List.set_cons_zero]
                        refine wpAnyH_skip_d 12 (some 102) rfl (by kernel_rfl) (by kernel_rfl) (by kernel_rfl) (by kernel_rfl) rfl (fun _ _ _ h => h) (by exact hS) ?_
                        simp only [Act.put, List.setIfInBounds_toArray, List.set_cons_succ, List.set_cons_zero]
                        refine wpAnyH_take_d 13 (some 103) (.bool true) rfl (by kernel_rfl) (by kernel_rfl) (by kernel_rfl) (by kernel_rfl) rfl (fun _ _ _ h => h) (fun _ _ => by kernel_rfl) (by exact hS) ?_
                        simp only [Act.put, List.setIfInBounds_toArray, List.set_cons_succ, List.set_cons_zero]
                        refine wpAnyH_take_d 14 (some 13) (.bool true) rfl (by kernel_rfl) (by kernel_rfl) (by kernel_rfl) (by kernel_rfl) rfl (fun _ _ _ h => h) (fun _ _ => by kernel_rfl) (by exact hS) ?_
                        simp only [Act.put, List.setIfInBounds_toArray, List.set_cons_succ, List.set_cons_zero]
                        refine wpAnyH_done (by kernel_rfl) ?_ _
                        have SX := Lib.hid hsx.drew
                        have MX := Lib.hid (hmx.keep (w' := wr.drew) (fun _ _ _ h => h) (fun _ h => h))
                        have YX := Lib.hid (byx.keep (w' := wr.drew) (fun _ _ _ h => h))
                        have BX := Lib.hid bx.drew
                        clear hsx hmx bx byx hfb
                        go_wp2
                        go_roundw
                        case rel => exact ⟨j + 1, by omega, by go_num, true, rfl, Or.inl rfl, SX.out, MX.out, YX.out, BX.out⟩
                        case measure => simp [intOf]; omega
                    · obtain rfl : j = ms5.length := by omega
                      obtain rfl : fb = true := by
                        rcases hfb with h | h
                        · exact h
                        · obtain ⟨i, hi, e⟩ := List.mem_iff_getElem.1 hmt
                          refine absurd ?_ (h i hi)
                          rw [List.getD_eq_getElem?_getD, List.getElem?_eq_getElem hi, e]; rfl
                      clear byx hfb
                      go_wp2
                      go_roundw
                      case rel => exact ⟨k + 1, by omega, by omega, by go_num, no, ms5, X7, bl6, c + 1 + 1 + 1, rfl, hX7, hmx, by omega, hms5, by omega, hsx.more (by omega), GOOD.out, bx⟩
                      case measure => simp [intOf]; omega
        · have h5' : decide ((5000 : Int) < (d.size : Int)) = true := by simp; omega
          go_wp2
          go_ret
          exact ⟨rfl, bk⟩
      · obtain rfl : k = 40 := by omega
        go_wp2
        go_ret
        exact ⟨rfl, bk⟩
    · obtain rfl : k = z0.length := by omega
      go_wp2
      go_ret
      exact ⟨rfl, bk⟩

/-! ### the row -/
theorem laidOut : laidOutB Try.prog = true := by kernel_rfl
theorem bytesInt : Try.prog.bytesOf 3 = 8 := by kernel_rfl
set_option maxRecDepth 100000 in
theorem lifted (os : Os) (started : os.Started) (H : Type) (enc : TypeId × Value → H) :
    ReturnsInHanded {} Try.checked os 6 .any (Rows.blobWholeSpec.pre6 enc Try.prog Try.f6 Rows.blobWholeRow.domain false) (Rows.blobWholeSpec.post enc Try.prog Try.f6 false true false false) := by
  refine returnsInHanded_of_change_sized (C := Try.checked) own started (by kernel_rfl) Try.func6
    (ChangeSpec.witness6 (enc := enc) (C := Try.checked) false ⟨#[], #[.slice none 0 0, .slice none 0 0], []⟩ 8 (by kernel_rfl) (by kernel_rfl) (by kernel_rfl) (by kernel_rfl)) ?_
  intro W base args ds gs before hval0 hW hcnd hsz0 _
  have hval : ∀ (j : Nat) t v, Try.f6.params[j]? = some t → args[j]? = some v → Value.okWide Try.prog W .any base t v := hval0
  have hW' := hW
  obtain ⟨p, q, hA0, hV, rfl, hfz, hnd⟩ := hW
  have hA : DataW.TrodAll enc Try.prog W 0 (fun _ => true) true Try.f6.params.toList args.toList ds p := hA0
  have hsz : (DataW.weightsEach Try.prog (Try.f6.params.toList ++ Rows.blobWholeSpec.plain.varTypes Try.prog) (ds ++ gs)).all (· ≤ reachBytes) = true := hsz0
  rw [Try.params6] at hA hval hsz
  obtain ⟨v0, vs0, d0, ds0, p0, q0, hargs, rfl, rfl, h0, r0⟩ := trodAll_cons hA
  obtain ⟨v1, vs1, d1, ds1, p1, q1, rfl, rfl, rfl, h1, r1⟩ := trodAll_cons r0
  obtain ⟨rfl, rfl, rfl⟩ := trodAll_nil r1
  obtain rfl : args = #[v0, v1] := by cases args; simp_all
  obtain ⟨rfl, rfl⟩ := trodVars_none hV
  have k0 := h0
  have lt0 := args_lt k0
  obtain ⟨z0, w0⟩ := strs_arg Try.underlying27 Try.underlying9 (by kernel_rfl) (hval 0 27 v0 rfl rfl) h0
  have k1 := h1
  have lt1 := args_lt k1
  obtain ⟨z1, w1⟩ := ints_arg Try.underlying28 Try.underlying3 (by kernel_rfl) (hval 1 28 v1 rfl rfl) (fun el sp e => by subst e; have := sized_slice hsz (j := 1) (t := 28) (e := 3) rfl rfl Try.underlying28; rwa [bytesInt] at this) h1
  clear hA0 hval0 hsz0
  refine (walk v0 z0 v1 z1 W w0 w1).mono fun e W' ⟨he, bel⟩ => ?_
  subst he
  exact ⟨_, rfl, _, _, _, [], _, [], hW', trodAll_mk1 (shut_bool Try.underlying4 _), (trodAll_cons_mk (Below.trod laidOut (by kernel_rfl) (of_decide_eq_true (by kernel_rfl)) k0 bel lt0) (trodAll_cons_mk (Below.trod laidOut (by kernel_rfl) (of_decide_eq_true (by kernel_rfl)) k1 bel lt1) trodAll_mk0)), rfl, bel.frame _, fun h => by cases h⟩

theorem over : Rows.blobWholeRow.holds Try.pinned (OpenSpec.ofChange Rows.blobWholeSpec) :=
  OpenClaim.holds_of_wide 6 Try.f6 rfl rfl rfl rfl rfl rfl rfl ⟨rfl, rfl, rfl, rfl, rfl⟩ rfl rfl rfl rfl rfl (by kernel_rfl) Try.func6 (by kernel_rfl)
    (of_decide_eq_true (by kernel_rfl)) (by unfold Func.isWrapper; first | (rw [if_pos (by decide +kernel)]; kernel_rfl) | (rw [if_neg (by decide +kernel)]; exact ⟨rfl, rfl⟩))
    (fun os started H enc _ => lifted os started H enc)
end Go.Proofs.Ytmoinigkpcfjcaa.blobWhole

namespace Go.Proofs.Ytmoinigkpcfjcaa
/-- The law returns true at every input. -/
theorem blobWhole_holds : Rows.BlobWholeSaid := blobWhole.over
end Go.Proofs.Ytmoinigkpcfjcaa

