/- The contract of the document's own DocDecode of a record. No statement of the seat is proved here. -/
import Derived.Test.YtmkomhdlcbimoaaRDMath
import Derived.Test.YtmkomhdlcbimoaaPRefDec
import Derived.Test.YtmkomhdlcbimoaaOwn
namespace Go.Proofs.Ytmkomhdlcbimoaa
set_option maxRecDepth 20000
open Go.RowKit

set_option maxHeartbeats 800000 in
theorem unpacked_any (bs : List UInt8) (hbs : bs.length + 8 ≤ 140737488355328) (w : World) : Calls Try.prog 38 #[.string (strOf bs)] w (ItRetE w.heap.size w (unsR bs) (unsE bs)) := by
  have ho := docOpen_any bs hbs w
  have hl : (openR bs).length ≤ 140737488355328 := by
    unfold openR; split
    · simp
    · split
      · rw [List.length_take]; omega
      · simp
  by_cases h0 : openE bs = 0
  · have e1 : unsE bs = decE (openR bs) := if_pos h0
    have e2 : unsR bs = decR (openR bs) := if_pos h0
    rw [e1, e2]
    rw [h0] at ho
    clear e1 e2 h0
    go_enter Try.func38, Try.ntmps38
    go_wp2_with fail
    refine Calls.mono ho ?_
    rintro e w1 ⟨rfl, b1⟩
    have hd := docDecode_any (openR bs) hl w1
    clear ho
    go_wp2_with fail
    refine Calls.mono hd ?_
    rintro e w2 ⟨v2, rfl, h2, b2⟩
    obtain ⟨ao2, m2, cap2, hv2, hm2⟩ := h2.form'
    subst hv2
    clear hd
    go_wp2
    go_ret2
    exact ⟨_, rfl, h2.base b1.size, b1.trans (b2.mono b1.size)⟩
  · have e1 : unsE bs = openE bs := if_neg h0
    have e2 : unsR bs = [] := if_neg h0
    rw [e1, e2]
    have hq : (openE bs != 0) = true := by simpa using h0
    generalize openE bs = E at ho hq
    clear e1 e2 h0
    go_enter Try.func38, Try.ntmps38
    go_wp2_with fail
    refine Calls.mono ho ?_
    rintro e w1 ⟨rfl, b1⟩
    clear ho
    go_wp2
    go_ret2
    exact ⟨_, rfl, OwnI.nil _ _, b1⟩
def cellsZ (l : List Int) : List Value := l.map (Value.int .i64)
theorem info_int : ∃ i, Try.prog.info? 3 = some i ∧ i.zero = some (.int .i64 0) ∧ i.size = 1 ∧ i.bytes = 8 := by
  have h : (Try.prog.info? 3).map (fun i => (i.zero, i.size, i.bytes)) = some (some (.int .i64 0), 1, 8) := by kernel_rfl
  cases hq : Try.prog.info? 3 with
  | none => rw [hq] at h; simp at h
  | some i => rw [hq] at h; simp at h; exact ⟨i, rfl, h.1, h.2.1, h.2.2⟩
def OwnZ (base : Nat) (w : World) (v : Value) (l : List Int) : Prop := w.ownsRow base 3 1 v l.length (cellsZ l)
theorem OwnZ.intc {base : Nat} {w : World} {v : Value} {l : List Int} (h : OwnZ base w v l) (hl : l.length ≤ 4000) : IntC w v l := by
  obtain ⟨ao, cap, hv, h1, h2⟩ := ownsRow_form h
  refine ⟨ao, cap, hv, h1, hl, fun h0 => ?_⟩
  subst hv
  have key : ∀ i, i < l.length → ∃ b, ao = some ⟨b, 0, none⟩ ∧ w.cell? ⟨b, i, none⟩ = some (.int .i64 (l.getD i 0)) := fun i hi => by
    obtain ⟨b, e, _, hc⟩ := ownsRow_cell h (j := i) (u := .int .i64 (l.getD i 0)) (by simp [cellsZ, List.getD_eq_getElem?_getD, List.getElem?_eq_getElem hi])
    exact ⟨b, e, hc⟩
  obtain ⟨b, e, -⟩ := key 0 h0
  refine ⟨b, 0, e, fun i hi => ?_⟩
  obtain ⟨b', e', hc⟩ := key i hi
  rw [e] at e'
  cases e'
  rw [Nat.zero_add]; exact hc
theorem own_push_z {base : Nat} {w : World} {v : Value} {l : List Int} (h : OwnZ base w v l) (x : Int) (hlen : l.length ≤ 4000) (hb : base ≤ w.heap.size) :
    ∃ v' w', (Builtin.append_ #[32, 32] 32 #[v, .slice (some ⟨w.heap.size, 0, none⟩) 1 1]).run Try.prog (w.alloc (.cells #[.int .i64 x] 3)) = .ok v' w' ∧ OwnZ base w' v' (l ++ [x]) ∧ Below base w w' ∧ w.heap.size ≤ w'.heap.size := by
  obtain ⟨i, hi, hi0, hi1, hi2⟩ := info_int
  obtain ⟨v', w', hr, ho, hb', hs, -⟩ := own_push (ty := 32) Try.underlying32 hi hi0 hi1 hi2 rfl (by decide) (World.ownsRow.alloc h (.cells #[.int .i64 x] 3)) (ys := [.int .i64 x]) (heap_alloc_new w _) rfl (by simp [Value.oneCell']) (by omega) (by unfold maxLen; omega) (by simp; omega)
  refine ⟨v', w', hr, ?_, ((Below.refl _ _).alloc hb _).trans hb', by simp at hs; omega⟩
  unfold OwnZ
  rw [List.length_append, show cellsZ (l ++ [x]) = cellsZ l ++ [.int .i64 x] by simp [cellsZ]]
  exact ho
theorem wpAnyH_two {P : Program} {md : Region.Mode} {ops : Array Oper} {Q : Exit → Act → World → Prop} {S : World → Prop} {fuel : Nat} {L : Array Bool} {a : Act} {w w1 w2 : World} (i j : Nat) (di dj : Option Tmp) (vi vj : Value) {oi oj : Oper} (hi : ops[i]? = some oi) (hj : ops[j]? = some oj) (hr : Region.ready md ops L = [i, j])
    (hwi : Region.wanted oi (yielded ops a.tmps) = true) (hwj : Region.wanted oj (yielded ops a.tmps) = true) (hdi : oi.dst = di) (hdj : oj.dst = dj) (hyi : (execOp a.eval oi).run P w = .ok (.value vi) w1) (hyj : (execOp a.eval oj).run P w = .ok (.value vj) w2) (hS1 : S w1) (hS2 : S w2)
    (h1 : wpAnyH P md ops Q S fuel (L.setIfInBounds i true) (a.put di vi) w1) (h2 : wpAnyH P md ops Q S fuel (L.setIfInBounds j true) (a.put dj vj) w2) : wpAnyH P md ops Q S (fuel + 1) L a w := by
  subst hdi
  subst hdj
  refine wpAnyH_ready hr (by simp) (AllReadyH.cons hi (fun K hK => ?_) (AllReadyH.cons hj (fun K hK => ?_) AllReadyH.nil))
  · rw [if_pos hwi]
    unfold Oper.wp
    rw [hyi]; exact hK.out _ _ hS1 (fun _ => h1)
  · rw [if_pos hwj]
    unfold Oper.wp
    rw [hyj]; exact hK.out _ _ hS2 (fun _ => h2)
def DDRet (w : World) (k : Int) (zs : List Int) (t : ByteArray) (E : Int) (e : Ending) (w' : World) : Prop := ∃ nv, e = .returned (.tuple #[recV k nv t, .int .i64 E]) ∧ IntC w' nv zs ∧ Below w.heap.size w w' ∧ ∀ k, nv.ownBlock = some k → w.heap.size ≤ k
theorem IntC.keep {w w' : World} {v : Value} {zs : List Int} (h : IntC w v zs) (hk : ∀ k, v.ownBlock = some k → w'.heap[k]? = w.heap[k]?) : IntC w' v zs := by
  obtain ⟨ao, cap, hv, h1, h2, h3⟩ := h
  refine ⟨ao, cap, hv, h1, h2, fun h0 => ?_⟩
  obtain ⟨b, off, e, hc⟩ := h3 h0
  exact ⟨b, off, e, fun i hi => (World.cell?_of_block (hk b (by rw [hv, e]; rfl))).trans (hc i hi)⟩
theorem intc_nil (w : World) : IntC w (.slice none 0 0) [] := ⟨none, 0, rfl, Nat.le_refl _, by simp, fun h => by simp at h⟩
def ddk (bs : List UInt8) (kind : Int) : Int := if ddE bs kind = 0 then kind else 0
theorem ddZ_succ0 (it : List It) : ddZ it 1 = [] := rfl
theorem ddZ_num (it : List It) (j : Nat) (hj : j ≠ 0) (hk : (itAt it j).k = 1) : ddZ it (j + 1) = ddZ it j ++ [(itAt it j).n] ∧ ddT it (j + 1) = ddT it j := by
  constructor
  · rw [ddZ, if_neg hj, if_pos hk]
  · rw [ddT, if_neg hj, if_pos hk]
theorem ddZ_txt (it : List It) (j : Nat) (hj : j ≠ 0) (hk : (itAt it j).k ≠ 1) : ddZ it (j + 1) = ddZ it j ∧ ddT it (j + 1) = (itAt it j).s := by
  constructor
  · rw [ddZ, if_neg hj, if_neg hk]
  · rw [ddT, if_neg hj, if_neg hk]
theorem ddK_succ (it : List It) (j : Nat) (hj : j ≠ 0) : ddK it (j + 1) = ddK it j := by unfold ddK; rw [if_neg hj, if_neg (by omega)]
theorem unR_le (bs : List UInt8) : (unR bs).length ≤ 60000 := unR_length bs
set_option maxRecDepth 20000 in
set_option maxHeartbeats 1600000 in
theorem docDecRec_any (bs : List UInt8) (hbs : bs.length ≤ 140737488355328) (kind : Int) (hk : kind = 1 ∨ kind = 2 ∨ kind = 3) (w : World) : Calls Try.prog 19 #[.string (strOf bs), .int .i64 kind] w (DDRet w (ddk bs kind) (ddz bs kind) (ddt bs kind) (ddE bs kind)) := by
  have B0 := below_new w (.cells #[.int .i64 0, .slice none 0 0, .string ⟨#[]⟩] 34)
  have g0 := heap_alloc_new w (.cells #[.int .i64 0, .slice none 0 0, .string ⟨#[]⟩] 34)
  have hb0 : ∀ w, (Instr.build 34 #[]).run Try.prog w = .ok (.agg #[.int .i64 0, .slice none 0 0, .string ⟨#[]⟩]) w := fun w => run_build w 34 _ _ (by kernel_rfl)
  have K0 : StoreOk 34 #[.int .i64 0, .slice none 0 0, .string ⟨#[]⟩] #[.int .i64 0, .slice none 0 0, .string ⟨#[]⟩] := ⟨by kernel_rfl, rfl, by simp [Value.oneCell']⟩
  have hun := docUnframe_any bs hbs (w.alloc (.cells #[.int .i64 0, .slice none 0 0, .string ⟨#[]⟩] 34))
  by_cases c1 : unE bs = 0
  · rw [c1] at hun
    have hul := unR_le bs
    have hup := unpacked_any (unR bs) (by omega) (w.alloc (.cells #[.int .i64 0, .slice none 0 0, .string ⟨#[]⟩] 34))
    by_cases c2 : unsE (unR bs) = 0
    · rw [c2] at hup
      obtain ⟨v1, v2, v3⟩ := unsE_zero c2
      obtain ⟨l4, s4⟩ := encE_short v1
      have e1 : ddE bs kind = if ddOk bs (unsR (unR bs)) kind then 0 else 2 := by unfold ddE; rw [c1, c2]; rfl
      have ek : ddk bs kind = if ddOk bs (unsR (unR bs)) kind then kind else 0 := by unfold ddk; rw [e1]; cases ddOk bs (unsR (unR bs)) kind <;> rfl
      have ez : ddz bs kind = if ddOk bs (unsR (unR bs)) kind then ddZ (unsR (unR bs)) (unsR (unR bs)).length else [] := by unfold ddz; rw [e1]; cases ddOk bs (unsR (unR bs)) kind <;> rfl
      have et : ddt bs kind = if ddOk bs (unsR (unR bs)) kind then ddT (unsR (unR bs)) (unsR (unR bs)).length else ByteArray.empty := by unfold ddt; rw [e1]; cases ddOk bs (unsR (unR bs)) kind <;> rfl
      have hin := fun j hj => ddZ_in v3 j hj
      have hts := fun j hj => ddT_size s4 j hj
      have V3 := Lib.hid v3
      have HIN := Lib.hid hin
      have HTS := Lib.hid hts
      clear v1 v2 v3 s4 hin hts c1 c2
      generalize unsR (unR bs) = it at *
      have HF : Hid (ddOk bs it kind = false → ∀ e w', DDRet w 0 [] ByteArray.empty 2 e w' → DDRet w (ddk bs kind) (ddz bs kind) (ddt bs kind) (ddE bs kind) e w') := Lib.hid fun h e w' hd => by rw [e1, ek, ez, et, h]; exact hd
      have HT : Hid (ddOk bs it kind = true → ∀ e w', DDRet w kind (ddZ it it.length) (ddT it it.length) 0 e w' → DDRet w (ddk bs kind) (ddz bs kind) (ddt bs kind) (ddE bs kind) e w') := Lib.hid fun h e w' hd => by rw [e1, ek, ez, et, h]; exact hd
      generalize DDRet w (ddk bs kind) (ddz bs kind) (ddt bs kind) (ddE bs kind) = POST at HF HT ⊢
      clear e1 ek ez et
      go_enter Try.func19, Try.ntmps19
      go_wp2_with fail
      refine Calls.mono hun ?_
      rintro e _ ⟨rfl, rfl⟩
      clear hun
      go_wp2_with fail
      refine Calls.mono hup ?_
      rintro e w2 ⟨v2, rfl, h2, b2⟩
      have g2 := (b2.block w.heap.size (by simp)).trans g0
      have hw2 : w.heap.size < w2.heap.size := (Array.getElem?_eq_some_iff.1 g2).1
      have B2 := B0.trans (b2.mono B0.size)
      obtain ⟨ao2, cap2, hv2, hc2, hl2, -, hcells⟩ := h2.items V3.out
      have HC := Lib.hid hcells
      generalize hM : it.length = M at *
      subst hv2
      have g3 := heap_alloc_new w2 (.cells #[.int .i64 0, .slice none 0 0, .string ⟨#[]⟩] 34)
      have b3 := below_new w2 (.cells #[.int .i64 0, .slice none 0 0, .string ⟨#[]⟩] 34)
      clear hup h2 b2 B0 g0 hcells
      go_wp2
      generalize w2.alloc (.cells #[.int .i64 0, .slice none 0 0, .string ⟨#[]⟩] 34) = w3 at g3 b3 ⊢
      go_loopw [10] (fun iv wr => ∃ (j : Nat) (nv : Value), j ≤ M ∧ iv = .int .i64 j ∧ wr.heap[w2.heap.size]? = some (.cells #[.int .i64 (ddK it j), nv, .string (ddT it j)] 34 (0, 0)) ∧ OwnZ (w2.heap.size + 1) wr nv (ddZ it j) ∧ Below w2.heap.size w2 wr) (fun iv _ => M - (intOf iv).toNat)
      case atStart => exact ⟨0, .slice none 0 0, Nat.zero_le _, rfl, g3, World.ownsRow_nil _ _ _ _, b3⟩
      case round =>
        obtain ⟨j, nv, hj, rfl, hg, hz, hb⟩ := hrel
        obtain ⟨no, ncap, hnv, -, -⟩ := ownsRow_form hz
        obtain ⟨nm, hnm⟩ : ∃ nm, nm = (ddZ it j).length := ⟨_, rfl⟩
        rw [← hnm] at hnv
        subst hnv
        have HNM := Lib.hid hnm
        clear hnm
        have hwr : w2.heap.size < wr.heap.size := (Array.getElem?_eq_some_iff.1 hg).1
        by_cases hlt : j < M
        · obtain ⟨b, off, rfl, hB, hc⟩ := HC.out (by omega)
          obtain ⟨d1, d2, d3⟩ := hc j hlt
          have d1' := (hb.cell (p := ⟨b, off + j * 3, none⟩) hB).trans d1
          have d2' := (hb.cell (p := ⟨b, off + j * 3 + 1, none⟩) hB).trans d2
          have d3' := (hb.cell (p := ⟨b, off + j * 3 + 2, none⟩) hB).trans d3
          clear d1 d2 d3 hc
          by_cases hj0 : j = 0
          · subst hj0
            have c0 : wr.cell? ⟨w2.heap.size, 0, none⟩ = some (.int .i64 (ddK it 0)) := cell_row hg 0 rfl
            have f0 := free_row hg 0
            have hg' : (wr.setCell ⟨w2.heap.size, 0, none⟩ (.int .i64 (itAt it 0).n)).heap[w2.heap.size]? = some (.cells #[.int .i64 (ddK it 1), .slice no nm ncap, .string (ddT it 1)] 34 (0, 0)) := Go.heap_setCell_same wr w2.heap.size 0 _ _ (.int .i64 (itAt it 0).n) hg
            have hz' : OwnZ (w2.heap.size + 1) (wr.setCell ⟨w2.heap.size, 0, none⟩ (.int .i64 (itAt it 0).n)) (.slice no nm ncap) (ddZ it 1) := ownsRow_keep hz fun k hk => Below.heap_setCell wr _ _ k (by have := (World.ownsRow.lt hz k hk).1; simp only; omega)
            have hb' := hb.setCell (p := ⟨w2.heap.size, 0, none⟩) (Nat.le_refl _) (.int .i64 (itAt it 0).n)
            have FIN := Lib.hid (And.intro hg' (And.intro hz' hb'))
            simp only [Nat.zero_mul, Nat.add_zero] at d2'
            generalize (itAt it 0).n = n0 at d2' FIN
            clear hg hz hb hg' hz' hb' d1' d3' HF HT HC
            go_wp2
            go_roundw
            case rel => exact ⟨1, _, by omega, by go_num, FIN.out⟩
            case measure => simp [intOf]; omega
          · have hj0' : ((j : Int) == 0) = false := by simp; omega
            have eK := ddK_succ it j hj0
            by_cases hk1 : (itAt it j).k = 1
            · obtain ⟨eZ, eT⟩ := ddZ_num it j hj0 hk1
              rw [hk1] at d1'
              have c1 : wr.cell? ⟨w2.heap.size, 1, none⟩ = some (.slice no nm ncap) := cell_row hg 1 rfl
              have hzl := ddZ_len it j
              generalize (itAt it j).n = n0 at *
              clear d3' hk1 HF HT HC
              go_wp2_with fail
              have hS : wr.drew.cell? ⟨b, off + j * 3 + 1, none⟩ = some (.int .i64 n0) := d2'
              have c1' : wr.drew.cell? ⟨w2.heap.size, 1, none⟩ = some (.slice no nm ncap) := c1
              have hgd : wr.drew.heap[w2.heap.size]? = some (.cells #[.int .i64 (ddK it j), .slice no nm ncap, .string (ddT it j)] 34 (0, 0)) := hg
              have hzd : OwnZ (w2.heap.size + 1) wr.drew (.slice no nm ncap) (ddZ it j) := ownsRow_keep hz fun k hk => rfl
              have hbd : Below w2.heap.size w2 wr.drew := hb.drew
              refine wp_region_held_drew (S := fun w' => w'.cell? ⟨b, off + j * 3 + 1, none⟩ = some (.int .i64 n0)) mixed hS (fun _ => ?_)
              show wpAnyH _ _ _ _ _ 11 (Array.replicate 11 false) _ _
              refine wpAnyH_take_d 0 (some 56) (.pointer (some ⟨w2.heap.size, 1, none⟩)) rfl (by kernel_rfl) (by kernel_rfl) (by kernel_rfl) (by kernel_rfl) rfl (fun _ _ _ h => h) (fun _ _ => by kernel_rfl) (by exact hS) ?_
              simp only [Act.put, List.setIfInBounds_toArray, List.set_cons_succ, List.set_cons_zero]
              refine wpAnyH_take_d 2 (some 58) (.slice (some ⟨b, off, none⟩) M cap2) rfl (by kernel_rfl) (by kernel_rfl) (by kernel_rfl) (by kernel_rfl) rfl (fun _ _ _ h => h) (fun _ _ => by kernel_rfl) (by exact hS) ?_
              simp only [Act.put, List.setIfInBounds_toArray, List.set_cons_succ, List.set_cons_zero]
              refine wpAnyH_take_d 3 (some 59) (.int .i64 (j : Nat)) rfl (by kernel_rfl) (by kernel_rfl) (by kernel_rfl) (by kernel_rfl) rfl (fun _ _ _ h => h) (fun _ _ => by kernel_rfl) (by exact hS) ?_
              simp only [Act.put, List.setIfInBounds_toArray, List.set_cons_succ, List.set_cons_zero]
              refine wpAnyH_take_d 4 (some 60) (.pointer (some ⟨b, off + j * 3, none⟩)) rfl (by kernel_rfl) (by kernel_rfl) (by kernel_rfl) (by kernel_rfl) rfl (fun _ _ _ h => h) (fun w' h => exec_indexAddr3r rfl rfl rfl hlt Try.underlying74 szItemR) (by exact hS) ?_
              simp only [Act.put, List.setIfInBounds_toArray, List.set_cons_succ, List.set_cons_zero]
              refine wpAnyH_take_d 5 (some 61) (.pointer (some ⟨b, off + j * 3 + 1, none⟩)) rfl (by kernel_rfl) (by kernel_rfl) (by kernel_rfl) (by kernel_rfl) rfl (fun _ _ _ h => h) (fun _ _ => by kernel_rfl) (by exact hS) ?_
              simp only [Act.put, List.setIfInBounds_toArray, List.set_cons_succ, List.set_cons_zero]
              refine wpAnyH_take_d 6 (some 62) (.int .i64 n0) rfl (by kernel_rfl) (by kernel_rfl) (by kernel_rfl) (by kernel_rfl) rfl (fun _ _ _ h => h) (fun w' h => exec_load_cell rfl rfl h Try.underlying3 rfl) (by exact hS) ?_
              simp only [Act.put, List.setIfInBounds_toArray, List.set_cons_succ, List.set_cons_zero]
              generalize wr.drew = wx at hS c1' hgd hzd hbd ⊢
              have hwx : w2.heap.size < wx.heap.size := (Array.getElem?_eq_some_iff.1 hgd).1
              have rC : (Instr.buildSlice 32 1 #[(0, .int .i64 n0)]).run Try.prog wx = .ok (.slice (some ⟨wx.heap.size, 0, none⟩) 1 1) (wx.alloc (.cells #[.int .i64 n0] 3)) := by kernel_rfl
              obtain ⟨v4, w4, hr4, h4, b4, s4⟩ := own_push_z hzd n0 (by omega) (by omega)
              have ba := below_new wx (.cells #[.int .i64 n0] 3)
              have hSa : (wx.alloc (.cells #[.int .i64 n0] 3)).cell? ⟨b, off + j * 3 + 1, none⟩ = some (.int .i64 n0) := (ba.cell (Nat.lt_trans hB hwx)).trans hS
              have c1a : (wx.alloc (.cells #[.int .i64 n0] 3)).cell? ⟨w2.heap.size, 1, none⟩ = some (.slice no nm ncap) := (ba.cell hwx).trans c1'
              have hS4 : w4.cell? ⟨b, off + j * 3 + 1, none⟩ = some (.int .i64 n0) := (b4.cell (Nat.lt_succ_of_lt hB)).trans hS
              have hg4 := (b4.block w2.heap.size (Nat.lt_succ_self _)).trans hgd
              have c4 : w4.cell? ⟨w2.heap.size, 1, none⟩ = some (.slice no nm ncap) := cell_row hg4 1 rfl
              have f4 := free_row hg4 1
              obtain ⟨no4, ncap4, hv4, -, -⟩ := ownsRow_form h4
              subst hv4
              have hg5 : (w4.setCell ⟨w2.heap.size, 1, none⟩ (.slice no4 (ddZ it j ++ [n0]).length ncap4)).heap[w2.heap.size]? = some (.cells #[.int .i64 (ddK it (j + 1)), .slice no4 (ddZ it j ++ [n0]).length ncap4, .string (ddT it (j + 1))] 34 (0, 0)) := by
                rw [eK, eT]; exact Go.heap_setCell_same w4 w2.heap.size 1 _ _ _ hg4
              have hz5 : OwnZ (w2.heap.size + 1) (w4.setCell ⟨w2.heap.size, 1, none⟩ (.slice no4 (ddZ it j ++ [n0]).length ncap4)) (.slice no4 (ddZ it j ++ [n0]).length ncap4) (ddZ it (j + 1)) := by
                rw [eZ]; exact ownsRow_keep h4 fun k hk => Below.heap_setCell w4 _ _ k (by have := (World.ownsRow.lt h4 k hk).1; simp only; omega)
              have hb5 : Below w2.heap.size w2 (w4.setCell ⟨w2.heap.size, 1, none⟩ (.slice no4 (ddZ it j ++ [n0]).length ncap4)) := (hbd.trans (b4.mono (Nat.le_succ _))).setCell (p := ⟨w2.heap.size, 1, none⟩) (Nat.le_refl _) _
              have hS5 : (w4.setCell ⟨w2.heap.size, 1, none⟩ (.slice no4 (ddZ it j ++ [n0]).length ncap4)).cell? ⟨b, off + j * 3 + 1, none⟩ = some (.int .i64 n0) := by
                have e := Below.heap_setCell w4 ⟨w2.heap.size, 1, none⟩ (.slice no4 (ddZ it j ++ [n0]).length ncap4) b (by simp only; omega)
                exact (World.cell?_of_block (w := w4) e).trans hS4
              have FIN := Lib.hid (And.intro hg5 (And.intro hz5 hb5))
              generalize hsl : Value.slice no4 (ddZ it j ++ [n0]).length ncap4 = sl4 at *
              have hsl1 : sl4.oneCell' = true := by rw [← hsl]; rfl
              refine wpAnyH_two 1 7 (some 57) (some 63) (.slice no nm ncap) (.slice (some ⟨wx.heap.size, 0, none⟩) 1 1) rfl rfl (by kernel_rfl) (by kernel_rfl) (by kernel_rfl) rfl rfl (exec_load_cell rfl rfl c1' Try.underlying32 rfl) (exec_b1 rfl rfl rC) (by exact hS) (by exact hSa) ?_ ?_
              · simp only [Act.put, List.setIfInBounds_toArray, List.set_cons_succ, List.set_cons_zero]
                have hS := hSa
                refine wpAnyH_one 7 (some 63) (.slice (some ⟨wx.heap.size, 0, none⟩) 1 1) rfl (by kernel_rfl) (by kernel_rfl) rfl (exec_b1 rfl rfl rC) (by exact hS) ?_
                simp only [Act.put, List.setIfInBounds_toArray, List.set_cons_succ, List.set_cons_zero]
                have hS := hS4
                refine wpAnyH_one 8 (some 64) (sl4) rfl (by kernel_rfl) (by kernel_rfl) rfl (exec_append3 rfl rfl rfl hr4) (by exact hS) ?_
                simp only [Act.put, List.setIfInBounds_toArray, List.set_cons_succ, List.set_cons_zero]
                refine wpAnyH_one 9 (some 65) (.pointer (some ⟨w2.heap.size, 1, none⟩)) rfl (by kernel_rfl) (by kernel_rfl) rfl (by kernel_rfl) (by exact hS) ?_
                simp only [Act.put, List.setIfInBounds_toArray, List.set_cons_succ, List.set_cons_zero]
                refine wpAnyH_one_skip' 10 rfl (by kernel_rfl) (by kernel_rfl) (exec_store_cell rfl rfl rfl hsl1 c4 f4 (by kernel_rfl)) (by exact hS5) ?_
                simp only [Act.put]
                refine wpAnyH_done (by kernel_rfl) ?_ _
                clear hr4 rC hS hS4 hS5 c4 f4
                go_wp2
                go_roundw
                case rel => exact ⟨j + 1, _, by omega, by go_num, FIN.out⟩
                case measure => simp [intOf]; omega
              · simp only [Act.put, List.setIfInBounds_toArray, List.set_cons_succ, List.set_cons_zero]
                have hS := hSa
                refine wpAnyH_one 1 (some 57) (.slice no nm ncap) rfl (by kernel_rfl) (by kernel_rfl) rfl (exec_load_cell rfl rfl c1a Try.underlying32 rfl) (by exact hS) ?_
                simp only [Act.put, List.setIfInBounds_toArray, List.set_cons_succ, List.set_cons_zero]
                have hS := hS4
                refine wpAnyH_one 8 (some 64) (sl4) rfl (by kernel_rfl) (by kernel_rfl) rfl (exec_append3 rfl rfl rfl hr4) (by exact hS) ?_
                simp only [Act.put, List.setIfInBounds_toArray, List.set_cons_succ, List.set_cons_zero]
                refine wpAnyH_one 9 (some 65) (.pointer (some ⟨w2.heap.size, 1, none⟩)) rfl (by kernel_rfl) (by kernel_rfl) rfl (by kernel_rfl) (by exact hS) ?_
                simp only [Act.put, List.setIfInBounds_toArray, List.set_cons_succ, List.set_cons_zero]
                refine wpAnyH_one_skip' 10 rfl (by kernel_rfl) (by kernel_rfl) (exec_store_cell rfl rfl rfl hsl1 c4 f4 (by kernel_rfl)) (by exact hS5) ?_
                simp only [Act.put]
                refine wpAnyH_done (by kernel_rfl) ?_ _
                clear hr4 rC hS hS4 hS5 c4 f4
                go_wp2
                go_roundw
                case rel => exact ⟨j + 1, _, by omega, by go_num, FIN.out⟩
                case measure => simp [intOf]; omega
            · obtain ⟨eZ, eT⟩ := ddZ_txt it j hj0 hk1
              have hk1' : ((itAt it j).k == 1) = false := by simpa using hk1
              have c2 : wr.cell? ⟨w2.heap.size, 2, none⟩ = some (.string (ddT it j)) := cell_row hg 2 rfl
              have f2 := free_row hg 2
              have hg' : (wr.setCell ⟨w2.heap.size, 2, none⟩ (.string (itAt it j).s)).heap[w2.heap.size]? = some (.cells #[.int .i64 (ddK it (j + 1)), .slice no nm ncap, .string (ddT it (j + 1))] 34 (0, 0)) := by
                rw [eK, eT]; exact Go.heap_setCell_same wr w2.heap.size 2 _ _ (.string (itAt it j).s) hg
              have hz' : OwnZ (w2.heap.size + 1) (wr.setCell ⟨w2.heap.size, 2, none⟩ (.string (itAt it j).s)) (.slice no nm ncap) (ddZ it (j + 1)) := by
                rw [eZ]; exact ownsRow_keep hz fun k hk => Below.heap_setCell wr _ _ k (by have := (World.ownsRow.lt hz k hk).1; simp only; omega)
              have hb' := hb.setCell (p := ⟨w2.heap.size, 2, none⟩) (Nat.le_refl _) (.string (itAt it j).s)
              have FIN := Lib.hid (And.intro hg' (And.intro hz' hb'))
              generalize (itAt it j).k = k0 at *
              generalize (itAt it j).s = t0 at *
              generalize ddT it j = tj at *
              clear hg hz hb hg' hz' hb' d2' HF HT HC eK eZ eT hk1
              go_wp2
              go_roundw
              case rel => exact ⟨j + 1, _, by omega, by go_num, FIN.out⟩
              case measure => simp [intOf]; omega
        · obtain rfl : j = M := by omega
          have q0 : wr.cell? ⟨w2.heap.size, 0, none⟩ = some (.int .i64 (ddK it j)) := cell_row hg 0 rfl
          have q1 : wr.cell? ⟨w2.heap.size, 1, none⟩ = some (.slice no nm ncap) := cell_row hg 1 rfl
          have q2 : wr.cell? ⟨w2.heap.size, 2, none⟩ = some (.string (ddT it j)) := cell_row hg 2 rfl
          have gW := (hb.block w.heap.size hw2).trans g2
          have BW := B2.trans (hb.mono B2.size)
          have hzl4 : (ddZ it j).length ≤ 4000 := by have := ddZ_len it j; omega
          have hdd : ddOk bs it kind = (decide (ddK it j = kind) && rightB kind (ddZ it j) (ddT it j) && decide (sectB (recI kind (ddZ it j) (ddT it j)) = bs)) := by unfold ddOk; rw [hM]
          have hts := HTS.out j (Nat.le_refl _)
          have hin := HIN.out j (Nat.le_refl _)
          have hri := fun hk => right_any (OwnZ.intc hz hzl4) kind hk (ddT it j) (by unfold maxLen; omega)
          generalize ddK it j = kj at *
          generalize ddT it j = tj at *
          generalize ddZ it j = ZL at *
          have HIN2 := Lib.hid hin
          have HDD := Lib.hid hdd
          have HG := Lib.hid hg
          clear hin hdd HC HIN HTS V3 g2 b3 g3
          by_cases e1 : kj = kind
          · subst e1
            have hr0 := hri hk
            cases hrb : rightB kj ZL tj
            · have hdf : ddOk bs it kj = false := by rw [HDD.out, hrb]; simp
              rw [hrb] at hr0
              have HDF := Lib.hid hdf
              clear hri hrb hdf HDD
              go_wp2_with fail
              refine Calls.mono hr0 ?_
              rintro e w4 ⟨rfl, b4⟩
              have gW := (b4.block w.heap.size (Nat.lt_trans hw2 hwr)).trans gW
              have BW := BW.trans (b4.mono BW.size)
              have hdf := HDF.out
              clear hr0
              have K1 : StoreOk 34 #[.int .i64 0, .slice none 0 0, .string ⟨#[]⟩] #[.int .i64 0, .slice none 0 0, .string ⟨#[]⟩] := ⟨by kernel_rfl, rfl, by simp [Value.oneCell']⟩
              go_wp2_with (with_reducible refine wpList_store_row2 rfl 34 (.tmp 4) (.tmp 81) rfl w.heap.size #[.int .i64 0, .slice none 0 0, .string ⟨#[]⟩] rfl rfl 34 #[.int .i64 0, .slice none 0 0, .string ⟨#[]⟩] gW K1 ?_)
              have gR := setRow_heap w4 w.heap.size #[.int .i64 0, .slice none 0 0, .string ⟨#[]⟩] #[.int .i64 0, .slice none 0 0, .string ⟨#[]⟩] 34 (0, 0) gW
              have BR := below_setRow BW (Nat.le_refl _) #[.int .i64 0, .slice none 0 0, .string ⟨#[]⟩]
              generalize w4.setRow w.heap.size #[.int .i64 0, .slice none 0 0, .string ⟨#[]⟩] = w7 at gR BR  ⊢
              have s0 : w7.cell? ⟨w.heap.size, 0, none⟩ = some (.int .i64 0) := cell_row gR 0 rfl
              have s1 : w7.cell? ⟨w.heap.size, 1, none⟩ = some (.slice none 0 0) := cell_row gR 1 rfl
              have s2 : w7.cell? ⟨w.heap.size, 2, none⟩ = some (.string ⟨#[]⟩) := cell_row gR 2 rfl
              go_wp2
              exact bodyPost_ret (v := .tuple #[.agg #[.int .i64 0, .slice none 0 0, .string ⟨#[]⟩], .int .i64 2]) (by simp [results, Try.results19, go_sem, s0, s1, s2]) rfl (HF.out hdf _ _ ⟨_, rfl, intc_nil _, BR, fun k hk => by cases hk⟩)
            · obtain ⟨f7, f16⟩ := right_facts hrb
              rw [hrb] at hr0
              have hik : inI kj := by rcases hk with rfl | rfl | rfl <;> exact ⟨by decide, by decide⟩
              have HDD2 : Hid (ddOk bs it kj = decide (sectB (recI kj ZL tj) = bs)) := Lib.hid (by rw [HDD.out, hrb]; simp)
              clear hri hrb HDD
              go_wp2_with fail
              refine Calls.mono hr0 ?_
              rintro e w4 ⟨rfl, b4⟩
              have gW := (b4.block w.heap.size (Nat.lt_trans hw2 hwr)).trans gW
              have BW := BW.trans (b4.mono BW.size)
              have hg4 := (b4.block w2.heap.size hwr).trans HG.out
              have hwr4 : w2.heap.size < w4.heap.size := Nat.lt_of_lt_of_le hwr b4.size
              have hzW : OwnZ (w2.heap.size + 1) w4 (.slice no nm ncap) ZL := ownsRow_below hz b4
              have q0 : w4.cell? ⟨w2.heap.size, 0, none⟩ = some (.int .i64 kj) := cell_row hg4 0 rfl
              have q1 : w4.cell? ⟨w2.heap.size, 1, none⟩ = some (.slice no nm ncap) := cell_row hg4 1 rfl
              have q2 : w4.cell? ⟨w2.heap.size, 2, none⟩ = some (.string tj) := cell_row hg4 2 rfl
              have hen := recEncode_any (OwnZ.intc hzW hzl4) f7 HIN2.out kj hik tj f16
              by_cases heq : sectB (recI kj ZL tj) = bs
              · have HDT : Hid (ddOk bs it kj = true) := Lib.hid (by rw [HDD2.out, decide_eq_true heq])
                rw [heq] at hen
                clear HDD2 heq hr0 hz
                go_wp2_with fail
                refine Calls.mono hen ?_
                rintro e w5 ⟨rfl, b5⟩
                have gW := (b5.block w.heap.size (Nat.lt_trans hw2 hwr4)).trans gW
                have BW := BW.trans (b5.mono BW.size)
                have hg5 := (b5.block w2.heap.size hwr4).trans hg4
                have hzW : OwnZ (w2.heap.size + 1) w5 (.slice no nm ncap) ZL := ownsRow_below hzW b5
                have q0 : w5.cell? ⟨w2.heap.size, 0, none⟩ = some (.int .i64 kj) := cell_row hg5 0 rfl
                have q1 : w5.cell? ⟨w2.heap.size, 1, none⟩ = some (.slice no nm ncap) := cell_row hg5 1 rfl
                have q2 : w5.cell? ⟨w2.heap.size, 2, none⟩ = some (.string tj) := cell_row hg5 2 rfl
                have hdt := HDT.out
                clear hen
                have K1 : StoreOk 34 #[.int .i64 0, .slice none 0 0, .string ⟨#[]⟩] #[.int .i64 kj, .slice no nm ncap, .string tj] := ⟨by kernel_rfl, rfl, by simp [Value.oneCell']⟩
                go_wp2_with (with_reducible refine wpList_store_row2 rfl 34 (.tmp 4) (.tmp 82) rfl w.heap.size #[.int .i64 kj, .slice no nm ncap, .string tj] rfl rfl 34 #[.int .i64 0, .slice none 0 0, .string ⟨#[]⟩] gW K1 ?_)
                have gR := setRow_heap w5 w.heap.size #[.int .i64 0, .slice none 0 0, .string ⟨#[]⟩] #[.int .i64 kj, .slice no nm ncap, .string tj] 34 (0, 0) gW
                have BR := below_setRow BW (Nat.le_refl _) #[.int .i64 kj, .slice no nm ncap, .string tj]
                have hI7 : IntC (w5.setRow w.heap.size #[.int .i64 kj, .slice no nm ncap, .string tj]) (.slice no nm ncap) ZL := OwnZ.intc (ownsRow_keep hzW fun k hk => setRow_other w5 w.heap.size k _ (by have := (World.ownsRow.lt hzW k hk).1; omega)) hzl4
                generalize w5.setRow w.heap.size #[.int .i64 kj, .slice no nm ncap, .string tj] = w7 at gR BR hI7 ⊢
                have s0 : w7.cell? ⟨w.heap.size, 0, none⟩ = some (.int .i64 kj) := cell_row gR 0 rfl
                have s1 : w7.cell? ⟨w.heap.size, 1, none⟩ = some (.slice no nm ncap) := cell_row gR 1 rfl
                have s2 : w7.cell? ⟨w.heap.size, 2, none⟩ = some (.string tj) := cell_row gR 2 rfl
                go_wp2
                exact bodyPost_ret (v := .tuple #[.agg #[.int .i64 kj, .slice no nm ncap, .string tj], .int .i64 0]) (by simp [results, Try.results19, go_sem, s0, s1, s2]) rfl (HT.out hdt _ _ ⟨_, rfl, hI7, BR, fun k hk => by have := (World.ownsRow.lt hzW k hk).1; omega⟩)
              · have HDF : Hid (ddOk bs it kj = false) := Lib.hid (by rw [HDD2.out, decide_eq_false heq])
                have hsq : ((strOf (sectB (recI kj ZL tj))).toList == (strOf bs).toList) = false := by
                  rw [strOf_toList, strOf_toList]; simpa using heq
                generalize strOf (sectB (recI kj ZL tj)) = sx at hen hsq
                clear HDD2 heq hr0 hz
                go_wp2_with fail
                refine Calls.mono hen ?_
                rintro e w5 ⟨rfl, b5⟩
                have gW := (b5.block w.heap.size (Nat.lt_trans hw2 hwr4)).trans gW
                have BW := BW.trans (b5.mono BW.size)
                have hdf := HDF.out
                clear hen
                have K1 : StoreOk 34 #[.int .i64 0, .slice none 0 0, .string ⟨#[]⟩] #[.int .i64 0, .slice none 0 0, .string ⟨#[]⟩] := ⟨by kernel_rfl, rfl, by simp [Value.oneCell']⟩
                go_wp2_with (with_reducible refine wpList_store_row2 rfl 34 (.tmp 4) (.tmp 81) rfl w.heap.size #[.int .i64 0, .slice none 0 0, .string ⟨#[]⟩] rfl rfl 34 #[.int .i64 0, .slice none 0 0, .string ⟨#[]⟩] gW K1 ?_)
                have gR := setRow_heap w5 w.heap.size #[.int .i64 0, .slice none 0 0, .string ⟨#[]⟩] #[.int .i64 0, .slice none 0 0, .string ⟨#[]⟩] 34 (0, 0) gW
                have BR := below_setRow BW (Nat.le_refl _) #[.int .i64 0, .slice none 0 0, .string ⟨#[]⟩]
                generalize w5.setRow w.heap.size #[.int .i64 0, .slice none 0 0, .string ⟨#[]⟩] = w7 at gR BR  ⊢
                have s0 : w7.cell? ⟨w.heap.size, 0, none⟩ = some (.int .i64 0) := cell_row gR 0 rfl
                have s1 : w7.cell? ⟨w.heap.size, 1, none⟩ = some (.slice none 0 0) := cell_row gR 1 rfl
                have s2 : w7.cell? ⟨w.heap.size, 2, none⟩ = some (.string ⟨#[]⟩) := cell_row gR 2 rfl
                go_wp2
                exact bodyPost_ret (v := .tuple #[.agg #[.int .i64 0, .slice none 0 0, .string ⟨#[]⟩], .int .i64 2]) (by simp [results, Try.results19, go_sem, s0, s1, s2]) rfl (HF.out hdf _ _ ⟨_, rfl, intc_nil _, BR, fun k hk => by cases hk⟩)
          · have hkq : (kj != kind) = true := by simpa using e1
            have hdf : ddOk bs it kind = false := by rw [HDD.out, decide_eq_false e1]; rfl
            clear hri e1 HDD
            have K1 : StoreOk 34 #[.int .i64 0, .slice none 0 0, .string ⟨#[]⟩] #[.int .i64 0, .slice none 0 0, .string ⟨#[]⟩] := ⟨by kernel_rfl, rfl, by simp [Value.oneCell']⟩
            go_wp2_with (with_reducible refine wpList_store_row2 rfl 34 (.tmp 4) (.tmp 81) rfl w.heap.size #[.int .i64 0, .slice none 0 0, .string ⟨#[]⟩] rfl rfl 34 #[.int .i64 0, .slice none 0 0, .string ⟨#[]⟩] gW K1 ?_)
            have gR := setRow_heap wr w.heap.size #[.int .i64 0, .slice none 0 0, .string ⟨#[]⟩] #[.int .i64 0, .slice none 0 0, .string ⟨#[]⟩] 34 (0, 0) gW
            have BR := below_setRow BW (Nat.le_refl _) #[.int .i64 0, .slice none 0 0, .string ⟨#[]⟩]
            generalize wr.setRow w.heap.size #[.int .i64 0, .slice none 0 0, .string ⟨#[]⟩] = w7 at gR BR  ⊢
            have s0 : w7.cell? ⟨w.heap.size, 0, none⟩ = some (.int .i64 0) := cell_row gR 0 rfl
            have s1 : w7.cell? ⟨w.heap.size, 1, none⟩ = some (.slice none 0 0) := cell_row gR 1 rfl
            have s2 : w7.cell? ⟨w.heap.size, 2, none⟩ = some (.string ⟨#[]⟩) := cell_row gR 2 rfl
            go_wp2
            exact bodyPost_ret (v := .tuple #[.agg #[.int .i64 0, .slice none 0 0, .string ⟨#[]⟩], .int .i64 2]) (by simp [results, Try.results19, go_sem, s0, s1, s2]) rfl (HF.out hdf _ _ ⟨_, rfl, intc_nil _, BR, fun k hk => by cases hk⟩)
    · have e1 : ddE bs kind = unsE (unR bs) := by unfold ddE; rw [c1, if_neg (by simp), if_pos c2]
      have ek : ddk bs kind = 0 := by unfold ddk; rw [e1, if_neg c2]
      have ez : ddz bs kind = [] := by unfold ddz; rw [e1, if_neg c2]
      have et : ddt bs kind = ByteArray.empty := by unfold ddt; rw [e1, if_neg c2]
      rw [e1, ek, ez, et]
      have hq : (unsE (unR bs) != 0) = true := by simpa using c2
      generalize unsE (unR bs) = E at hq hup
      clear e1 ek ez et c1 c2 hk
      go_enter Try.func19, Try.ntmps19
      go_wp2_with fail
      refine Calls.mono hun ?_
      rintro e _ ⟨rfl, rfl⟩
      clear hun
      go_wp2_with fail
      refine Calls.mono hup ?_
      rintro e w2 ⟨v2, rfl, h2, b2⟩
      have g2 := (b2.block w.heap.size (by simp)).trans g0
      have B2 := B0.trans (b2.mono B0.size)
      obtain ⟨ao2, m2, cap2, hv2, hm2⟩ := h2.form'
      subst hv2
      clear hup h2 b2 B0 g0
      go_wp2_with (with_reducible refine wpList_store_row2 rfl 34 (.tmp 4) (.tmp 26) rfl w.heap.size #[.int .i64 0, .slice none 0 0, .string ⟨#[]⟩] rfl rfl 34 #[.int .i64 0, .slice none 0 0, .string ⟨#[]⟩] g2 K0 ?_)
      have gR := setRow_heap w2 w.heap.size #[.int .i64 0, .slice none 0 0, .string ⟨#[]⟩] #[.int .i64 0, .slice none 0 0, .string ⟨#[]⟩] 34 (0, 0) g2
      have BR := below_setRow B2 (Nat.le_refl _) #[.int .i64 0, .slice none 0 0, .string ⟨#[]⟩]
      generalize w2.setRow w.heap.size #[.int .i64 0, .slice none 0 0, .string ⟨#[]⟩] = w7 at gR BR ⊢
      have s0 : w7.cell? ⟨w.heap.size, 0, none⟩ = some (.int .i64 0) := cell_row gR 0 rfl
      have s1 : w7.cell? ⟨w.heap.size, 1, none⟩ = some (.slice none 0 0) := cell_row gR 1 rfl
      have s2 : w7.cell? ⟨w.heap.size, 2, none⟩ = some (.string ⟨#[]⟩) := cell_row gR 2 rfl
      go_wp2
      exact bodyPost_ret (v := .tuple #[.agg #[.int .i64 0, .slice none 0 0, .string ⟨#[]⟩], .int .i64 E]) (by simp [results, Try.results19, go_sem, s0, s1, s2]) rfl ⟨_, rfl, intc_nil _, BR, fun k hk => by cases hk⟩
  · have e1 : ddE bs kind = 2 := by unfold ddE; rw [if_pos c1]
    have ek : ddk bs kind = 0 := by unfold ddk; rw [e1]; rfl
    have ez : ddz bs kind = [] := by unfold ddz; rw [e1]; rfl
    have et : ddt bs kind = ByteArray.empty := by unfold ddt; rw [e1]; rfl
    rw [e1, ek, ez, et]
    have hq : (unE bs != 0) = true := by simpa using c1
    generalize unE bs = E at hq hun
    clear e1 ek ez et c1 hk
    go_enter Try.func19, Try.ntmps19
    go_wp2_with fail
    refine Calls.mono hun ?_
    rintro e _ ⟨rfl, rfl⟩
    clear hun
    go_wp2_with (with_reducible refine wpList_store_row2 rfl 34 (.tmp 4) (.tmp 18) rfl w.heap.size #[.int .i64 0, .slice none 0 0, .string ⟨#[]⟩] rfl rfl 34 #[.int .i64 0, .slice none 0 0, .string ⟨#[]⟩] g0 K0 ?_)
    generalize hw2 : w.alloc (.cells #[.int .i64 0, .slice none 0 0, .string ⟨#[]⟩] 34) = w2 at g0 B0 ⊢
    have gR := setRow_heap w2 w.heap.size #[.int .i64 0, .slice none 0 0, .string ⟨#[]⟩] #[.int .i64 0, .slice none 0 0, .string ⟨#[]⟩] 34 (0, 0) g0
    have BR := below_setRow B0 (Nat.le_refl _) #[.int .i64 0, .slice none 0 0, .string ⟨#[]⟩]
    generalize w2.setRow w.heap.size #[.int .i64 0, .slice none 0 0, .string ⟨#[]⟩] = w7 at gR BR ⊢
    have s0 : w7.cell? ⟨w.heap.size, 0, none⟩ = some (.int .i64 0) := cell_row gR 0 rfl
    have s1 : w7.cell? ⟨w.heap.size, 1, none⟩ = some (.slice none 0 0) := cell_row gR 1 rfl
    have s2 : w7.cell? ⟨w.heap.size, 2, none⟩ = some (.string ⟨#[]⟩) := cell_row gR 2 rfl
    go_wp2
    exact bodyPost_ret (v := .tuple #[.agg #[.int .i64 0, .slice none 0 0, .string ⟨#[]⟩], .int .i64 2]) (by simp [results, Try.results19, go_sem, s0, s1, s2]) rfl ⟨_, rfl, intc_nil _, BR, fun k hk => by cases hk⟩
end Go.Proofs.Ytmkomhdlcbimoaa
