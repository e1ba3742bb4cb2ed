/- Records, pairs and all as arguments. No statement of the seat is proved here. -/
import Derived.Test.YtmkomhdlcbimoaaRPDec
import Derived.Lib.SmallJoins
import Derived.Deep.Slices
import Derived.ChangeMaps5
namespace Go.Proofs.Ytmkomhdlcbimoaa
set_option maxRecDepth 20000
open Go.RowKit Go.ChangeShapes Go.WideShapes Go.ChangeAt

theorem cellsPair : Try.prog.cellsOf 66 = 2 := by kernel_rfl
theorem bytesPair : Try.prog.bytesOf 66 = 32 := by kernel_rfl
theorem cellsSup : Try.prog.cellsOf 23 = 3 := by kernel_rfl
theorem cellsLg : Try.prog.cellsOf 25 = 8 := by kernel_rfl
theorem cellsHm : Try.prog.cellsOf 27 = 2 := by kernel_rfl
def PairsArg (W : World) (v : Value) (l : List Pr) : Prop := PairsAt W.heap.size W v l ∧ l.length * 32 ≤ 140737488351232
section
variable {H : Type} {enc : TypeId × Value → H} {W : World} {base : Nat} {v : Value} {d : DataW H} {ps : List MemPlace}
theorem one_super {n : Nat} {cs : List Value} {x : DataW H × List MemPlace} (h : DataW.trod enc Try.prog W 0 (fun _ => true) true n 23 cs = some x) : ∃ g e t, inI g ∧ inI e ∧ inI t ∧ cs = [.int .i64 g, .int .i64 e, .int .i64 t] := by
  obtain ⟨y0, y1, y2, m, -, hl, h0, h1, h2⟩ := Deep.trod_struct3 Try.underlying23 h
  rw [cellsSup] at hl
  match cs, hl with
  | [c0, c1, c2], _ =>
    simp only [cellsInt] at h0 h1 h2
    obtain ⟨a, ha, -, wa⟩ := DataW.trod_int Try.underlying3 h0
    obtain ⟨b, hb, -, wb⟩ := DataW.trod_int Try.underlying3 h1
    obtain ⟨c, hc, -, wc⟩ := DataW.trod_int Try.underlying3 h2
    simp at ha hb hc
    subst ha; subst hb; subst hc
    exact ⟨a, b, c, bounds_i64 wa, bounds_i64 wb, bounds_i64 wc, rfl⟩
theorem one_home {n : Nat} {cs : List Value} {x : DataW H × List MemPlace} (h : DataW.trod enc Try.prog W 0 (fun _ => true) true n 27 cs = some x) : ∃ p s, inI p ∧ s.size ≤ maxLen ∧ cs = [.int .i64 p, .string s] := by
  obtain ⟨y0, y1, m, -, hl, h0, h1⟩ := trod_struct2 Try.underlying27 h
  rw [cellsHm] at hl
  match cs, hl with
  | [c0, c1], _ =>
    simp only [cellsInt, cellsStr] at h0 h1
    obtain ⟨a, ha, -, wa⟩ := DataW.trod_int Try.underlying3 h0
    obtain ⟨s, hs, -, ws⟩ := DataW.trod_string Try.underlying9 h1
    simp at ha hs
    subst ha; subst hs
    exact ⟨a, s, bounds_i64 wa, ws, rfl⟩
theorem trod_struct8 {P : Program} {w : World} {base : Nat} {spare : Nat → Bool} {held : Bool} {t : TypeId} {f0 f1 f2 f3 f4 f5 f6 f7 : Field} {fuel : Nat} {cs : List Value} {x : DataW H × List MemPlace} (ht : P.underlying t = some (.struct #[f0, f1, f2, f3, f4, f5, f6, f7])) (h : DataW.trod enc P w base spare held fuel t cs = some x) :
    ∃ y0 y1 y2 y3 y4 y5 y6 y7 n, cs.length = P.cellsOf t ∧ DataW.trod enc P w base spare held n f0.type ((cs.drop f0.offset).take (P.cellsOf f0.type)) = some y0 ∧ DataW.trod enc P w base spare held n f1.type ((cs.drop f1.offset).take (P.cellsOf f1.type)) = some y1 ∧ DataW.trod enc P w base spare held n f2.type ((cs.drop f2.offset).take (P.cellsOf f2.type)) = some y2 ∧ DataW.trod enc P w base spare held n f3.type ((cs.drop f3.offset).take (P.cellsOf f3.type)) = some y3 ∧ DataW.trod enc P w base spare held n f4.type ((cs.drop f4.offset).take (P.cellsOf f4.type)) = some y4 ∧ DataW.trod enc P w base spare held n f5.type ((cs.drop f5.offset).take (P.cellsOf f5.type)) = some y5 ∧ DataW.trod enc P w base spare held n f6.type ((cs.drop f6.offset).take (P.cellsOf f6.type)) = some y6 ∧ DataW.trod enc P w base spare held n f7.type ((cs.drop f7.offset).take (P.cellsOf f7.type)) = some y7 := by
  obtain ⟨xs, n, _, rfl, hl, hlen, hf⟩ := DataW.trod_struct ht h
  match xs, hlen with
  | [y0, y1, y2, y3, y4, y5, y6, y7], _ => exact ⟨y0, y1, y2, y3, y4, y5, y6, y7, n, hl, by simpa using hf 0 f0 rfl, by simpa using hf 1 f1 rfl, by simpa using hf 2 f2 rfl, by simpa using hf 3 f3 rfl, by simpa using hf 4 f4 rfl, by simpa using hf 5 f5 rfl, by simpa using hf 6 f6 rfl, by simpa using hf 7 f7 rfl⟩
theorem one_log {n : Nat} {cs : List Value} {x : DataW H × List MemPlace} (h : DataW.trod enc Try.prog W 0 (fun _ => true) true n 25 cs = some x) : ∃ l : Lg, l.ok ∧ cs = [.int .i64 l.kind, .int .i64 l.epoch, .int .i64 l.seq, .int .i64 l.tx, .int .i64 l.index, .int .i64 l.count, .int .i64 l.page, .string l.data] := by
  obtain ⟨y0, y1, y2, y3, y4, y5, y6, y7, m, hl, h0, h1, h2, h3, h4, h5, h6, h7⟩ := trod_struct8 Try.underlying25 h
  rw [cellsLg] at hl
  match cs, hl with
  | [c0, c1, c2, c3, c4, c5, c6, c7], _ =>
    simp only [cellsInt, cellsStr] at h0 h1 h2 h3 h4 h5 h6 h7
    obtain ⟨a0, e0, -, w0⟩ := DataW.trod_int Try.underlying3 h0
    obtain ⟨a1, e1, -, w1⟩ := DataW.trod_int Try.underlying3 h1
    obtain ⟨a2, e2, -, w2⟩ := DataW.trod_int Try.underlying3 h2
    obtain ⟨a3, e3, -, w3⟩ := DataW.trod_int Try.underlying3 h3
    obtain ⟨a4, e4, -, w4⟩ := DataW.trod_int Try.underlying3 h4
    obtain ⟨a5, e5, -, w5⟩ := DataW.trod_int Try.underlying3 h5
    obtain ⟨a6, e6, -, w6⟩ := DataW.trod_int Try.underlying3 h6
    obtain ⟨s, e7, -, w7⟩ := DataW.trod_string Try.underlying9 h7
    simp at e0 e1 e2 e3 e4 e5 e6 e7
    subst e0; subst e1; subst e2; subst e3; subst e4; subst e5; subst e6; subst e7
    exact ⟨⟨a0, a1, a2, a3, a4, a5, a6, s⟩, ⟨bounds_i64 w0, bounds_i64 w1, bounds_i64 w2, bounds_i64 w3, bounds_i64 w4, bounds_i64 w5, bounds_i64 w6, w7⟩, rfl⟩
theorem agg_cells {cs : Array Value} {l : List Value} (h : (Value.agg cs).cells.toList = l) : Value.agg cs = .agg l.toArray := by
  subst h; simp [Value.cells]
theorem super_arg (hv : Value.okWide Try.prog W .any base 23 v) (h : DataW.Trod enc Try.prog W 0 (fun _ => true) true 23 v d ps) : ∃ g e t, v = superV g e t ∧ inI g ∧ inI e ∧ inI t := by
  obtain ⟨cs, rfl, hsz⟩ := okWide_struct Try.underlying23 hv
  obtain ⟨fuel, hf⟩ := h
  obtain ⟨g, e, t, h1, h2, h3, hc⟩ := one_super hf
  exact ⟨g, e, t, agg_cells hc, h1, h2, h3⟩
theorem home_arg (hv : Value.okWide Try.prog W .any base 27 v) (h : DataW.Trod enc Try.prog W 0 (fun _ => true) true 27 v d ps) : ∃ p s, v = homeV p s ∧ inI p ∧ s.size ≤ maxLen := by
  obtain ⟨cs, rfl, hsz⟩ := okWide_struct Try.underlying27 hv
  obtain ⟨fuel, hf⟩ := h
  obtain ⟨p, s, h1, h2, hc⟩ := one_home hf
  exact ⟨p, s, agg_cells hc, h1, h2⟩
theorem log_arg (hv : Value.okWide Try.prog W .any base 25 v) (h : DataW.Trod enc Try.prog W 0 (fun _ => true) true 25 v d ps) : ∃ l : Lg, v = logVal l ∧ l.ok := by
  obtain ⟨cs, rfl, hsz⟩ := okWide_struct Try.underlying25 hv
  obtain ⟨fuel, hf⟩ := h
  obtain ⟨l, h1, hc⟩ := one_log hf
  exact ⟨l, agg_cells hc, h1⟩
theorem str_len {s : ByteArray} : s.toList.length = s.size := by
  rw [ByteArray.toList_eq]; rfl
theorem one_pair {n : Nat} {cs : List Value} {x : DataW H × List MemPlace} (hw : ∀ k ∈ x.1.weights Try.prog 66, k ≤ reachBytes) (h : DataW.trod enc Try.prog W 0 (fun _ => true) true n 66 cs = some x) : ∃ y : Pr, y.ok ∧ cs = [.string y.k, .string y.v] := by
  obtain ⟨y0, y1, m, hx, hl, h0, h1⟩ := trod_struct2 Try.underlying66 h
  rw [cellsPair] at hl
  match cs, hl with
  | [c0, c1], _ =>
    simp only [cellsStr] at h0 h1
    obtain ⟨s, hs, e0, ws⟩ := DataW.trod_string Try.underlying9 h0
    obtain ⟨t, ht, e1, wt⟩ := DataW.trod_string Try.underlying9 h1
    simp at hs ht
    subst hs; subst ht
    have k0 : s.size ≤ reachBytes := by
      have := hw s.toList.length (by rw [hx]; simp [DataW.weights, DataW.weightsEach, Try.underlying66, e0, str_len])
      rwa [str_len] at this
    have k1 : t.size ≤ reachBytes := by
      have := hw t.toList.length (by rw [hx]; simp [DataW.weights, DataW.weightsEach, Try.underlying66, e1, str_len])
      rwa [str_len] at this
    have hr : reachBytes ≤ 140737488355328 := by decide
    exact ⟨⟨s, t⟩, ⟨Nat.le_trans k0 hr, Nat.le_trans k1 hr⟩, rfl⟩
theorem weights_elem {P : Program} {e : TypeId} : ∀ {l : List (DataW H)} {d : DataW H}, d ∈ l → ∀ n ∈ d.weights P e, n ∈ DataW.weightsAll P e l
  | d0 :: l, d, hd, n, hn => by
    rw [DataW.weightsAll]
    rcases List.mem_cons.1 hd with rfl | h
    · exact List.mem_append_left _ hn
    · exact List.mem_append_right _ (weights_elem h n hn)
theorem pairs_trod {fuel : Nat} {c : Value} {x0 : DataW H × List MemPlace} (hsz : ∀ k ∈ x0.1.weights Try.prog 54, k ≤ reachBytes) (hf : DataW.trod enc Try.prog W 0 (fun _ => true) true fuel 54 [c] = some x0) : ∃ l, PairsArg W c l := by
  rcases Deep.open_slice Try.underlying54 hf with ⟨hcs, _⟩ | ⟨x, len, cc, m, n, D, Pl, hcs, _, hl, hm, hmm, hdat, hi⟩
  · simp at hcs
    subst hcs
    exact ⟨[], ⟨none, 0, rfl, Nat.le_refl _, by simp, by simp, fun h => by simp at h⟩, by simp⟩
  · simp at hcs
    subst hcs
    simp only [if_true] at hmm
    subst hmm
    have hd : x0.1 = .slice ((List.range len).map D) ((List.range (m - len)).map fun j => D (len + j)) := by rw [hdat]
    have hb := hsz ((((List.range len).map D).length + ((List.range (m - len)).map fun j => D (len + j)).length) * Try.prog.bytesOf 66) (by rw [hd]; simp [DataW.weights, Try.underlying54])
    rw [bytesPair] at hb
    simp only [List.length_map, List.length_range] at hb
    have hrb : reachBytes = 140737488351232 := by decide
    rw [hrb] at hb
    have hx : ∀ i, i < len → ∃ y : Pr, y.ok ∧ W.cell? (x.add (i * 2)) = some (.string y.k) ∧ W.cell? ((x.add (i * 2)).add 1) = some (.string y.v) := fun i hil => by
      obtain ⟨cs', hc, ht⟩ := hi i (by omega)
      rw [cellsPair] at hc
      obtain ⟨y, hy, rfl⟩ := one_pair (fun k hk => hsz k (by
        rw [hd]
        simp only [DataW.weights, Try.underlying54, List.mem_cons, List.mem_append]
        exact .inr (.inl (weights_elem (List.mem_map.2 ⟨i, List.mem_range.2 hil, rfl⟩) k hk)))) ht
      obtain ⟨_, _, hat⟩ := World.cells?_some hc
      refine ⟨y, hy, ?_, ?_⟩
      · have := hat 0 (by omega); simpa [Addr.add] using this
      · have := hat 1 (by omega); simpa using this
    let F : Nat → Pr := fun i => if h : i < len then Classical.choose (hx i h) else .none
    have hF : ∀ i, i < len → (F i).ok ∧ W.cell? (x.add (i * 2)) = some (.string (F i).k) ∧ W.cell? ((x.add (i * 2)).add 1) = some (.string (F i).v) := fun i h => by
      have := Classical.choose_spec (hx i h)
      simp only [F, dif_pos h]
      exact this
    have hll : ((List.range len).map F).length = len := by simp
    have hit : ∀ i, i < len → prAt ((List.range len).map F) i = F i := fun i h => by
      unfold prAt
      rw [List.getD_eq_getElem?_getD, List.getElem?_map, List.getElem?_range h]; rfl
    refine ⟨(List.range len).map F, ⟨_, _, by rw [hll], by rw [hll]; exact hl, by rw [hll]; unfold maxLen at hm; omega, ?_, ?_⟩, by rw [hll]; omega⟩
    · intro y hy
      obtain ⟨i, hi1, rfl⟩ := List.mem_map.1 hy
      exact (hF i (List.mem_range.1 hi1)).1
    · intro h0
      rw [hll] at h0
      have hs0 : (x.add (0 * 2)).spot = none := World.cell?_spot (hF 0 h0).2.1
      obtain ⟨b, off, spot⟩ := x
      have hspot : spot = none := by simpa [Addr.add] using hs0
      subst hspot
      refine ⟨b, off, rfl, by have := World.block_lt_of_cell? W _ (hF 0 h0).2.1; simpa [Addr.add] using this, fun i hi' => ?_⟩
      rw [hll] at hi'
      obtain ⟨_, c1, c2⟩ := hF i hi'
      rw [Addr.add_mid] at c1 c2
      rw [Addr.add_mid] at c2
      rw [hit i hi']
      exact ⟨c1, c2⟩
theorem pairs_arg (hv : Value.okWide Try.prog W .any base 54 v) (hsz : ∀ k ∈ d.weights Try.prog 54, k ≤ reachBytes) (h : DataW.Trod enc Try.prog W 0 (fun _ => true) true 54 v d ps) : ∃ l, PairsArg W v l := by
  obtain ⟨a0, len, cap, rfl⟩ := okWide_slice Try.underlying54 hv
  obtain ⟨fuel, hf⟩ := h
  exact pairs_trod (x0 := (d, ps)) hsz hf
theorem bytes_trod {fuel : Nat} {c : Value} {x0 : DataW H × List MemPlace} (hsz : ∀ k ∈ x0.1.weights Try.prog 36, k ≤ reachBytes) (hf : DataW.trod enc Try.prog W 0 (fun _ => true) true fuel 36 [c] = some x0) : ∃ bs, BytesArg W c bs := by
  have key : ∃ ao len cap, c = .slice ao len cap := by
    rcases open_ints Try.underlying36 Try.underlying5 (by kernel_rfl) hf with ⟨hcs, _⟩ | ⟨x, l, c, zs, hcs, _⟩
    · simp at hcs; exact ⟨_, _, _, hcs⟩
    · simp at hcs; exact ⟨_, _, _, hcs⟩
  obtain ⟨ao, len, cap, rfl⟩ := key
  rcases open_ints Try.underlying36 Try.underlying5 (by kernel_rfl) hf with ⟨hcs, _⟩ | ⟨x, l, c, zs, hcs, _, hl, hm, hz, hdat, hcell, hwz⟩
  · simp at hcs
    obtain ⟨rfl, rfl, rfl⟩ := hcs
    exact ⟨[], ⟨none, 0, rfl, by simp [maxLen], fun h => by simp at h⟩, Nat.le_refl _, by simp⟩
  · simp at hcs
    obtain ⟨rfl, rfl, rfl⟩ := hcs
    have hz' : zs.length = cap := by simpa using hz
    have hl' : (zs.take len).length = len := by rw [List.length_take]; omega
    have hd1 := congrArg Prod.fst hdat
    simp only at hd1
    have hb : cap ≤ 140737488351232 := by
      have := hsz (cap * Try.prog.bytesOf 5) (by
        rw [hd1]
        simp only [DataW.weights, Try.underlying36, List.mem_cons, lits, List.length_map, List.length_drop, hl']
        left; congr 1; omega)
      rw [bytesU8, Nat.mul_one] at this
      exact Nat.le_trans this (by decide)
    have hbl : ((zs.take len).map fun z => UInt8.ofNat z.toNat).length = len := by rw [List.length_map, hl']
    refine ⟨(zs.take len).map fun z => UInt8.ofNat z.toNat, ?_, hl, by rw [hbl]; omega⟩
    refine ⟨_, _, by rw [hbl], by rw [hbl]; exact Nat.le_trans hl hm, fun h0 => ?_⟩
    rw [hbl] at h0
    have hs0 : (x.add 0).spot = none := World.cell?_spot (hcell 0 (by omega))
    obtain ⟨b, off, spot⟩ := x
    have hspot : spot = none := by simpa [Addr.add] using hs0
    subst hspot
    refine ⟨b, off, rfl, fun i hi => ?_⟩
    rw [hbl] at hi
    have h1 := hcell i (by omega)
    have e1 : (⟨b, off, none⟩ : Addr).add i = ⟨b, off + i, none⟩ := by unfold Addr.add; split <;> simp_all
    rw [e1] at h1
    rw [h1]
    have hzi : i < zs.length := by omega
    have hw := hwz zs[i] (List.getElem_mem hzi)
    have hr : 0 ≤ zs[i] ∧ zs[i] ≤ 255 := by
      simp [Lit.wf] at hw
      have h2 : IntKind.u8.min = 0 := by decide
      have h3 : IntKind.u8.max = 255 := by decide
      omega
    have hg : ((zs.take len).map fun z => UInt8.ofNat z.toNat).getD i 0 = UInt8.ofNat zs[i].toNat := by
      rw [List.getD_eq_getElem?_getD, List.getElem?_map, List.getElem?_take, if_pos hi, List.getElem?_eq_getElem hzi]; rfl
    rw [hg]
    unfold byteV
    rw [UInt8.toNat_ofNat']
    have : ((zs[i].toNat % 2 ^ 8 : Nat) : Int) = zs[i] := by omega
    rw [this]
    simp [List.getD_eq_getElem?_getD, List.getElem?_eq_getElem hzi]
end
end Go.Proofs.Ytmkomhdlcbimoaa
