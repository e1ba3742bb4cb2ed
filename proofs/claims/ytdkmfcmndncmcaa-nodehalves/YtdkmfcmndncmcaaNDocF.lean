/- The contract of the document's DocFind. No statement of the seat is proved here. -/
import Derived.Test.YtdkmfcmndncmcaaNRight
import Derived.Test.YtdkmfcmndncmcaaNFind
import Derived.Test.YtdkmfcmndncmcaaNMapL
namespace Go.Proofs.Ytdkmfcmndncmcaa
set_option maxRecDepth 20000
open Go.RowKit

theorem FindPost.uniq {n : Nd} {key : ByteArray} {i j : Nat} {E F : Int} (h : FindPost n key i E) (k : FindPost n key j F) : i = j ∧ E = F := by
  unfold FindPost at h k
  cases hk : okN n
  · rw [hk] at h k
    simp only [Bool.false_eq_true, if_false] at h k
    exact ⟨h.2.trans k.2.symm, h.1.trans k.1.symm⟩
  · rw [hk] at h k
    simp only [if_true] at h k
    refine ⟨?_, h.1.trans k.1.symm⟩
    have h2 := h.2
    have k2 := k.2
    unfold FindAt at h2 k2
    cases hl : n.leaf
    · rw [hl] at h2 k2
      simp only [Bool.false_eq_true, if_false] at h2 k2
      obtain ⟨a, p1, rfl⟩ := h2
      obtain ⟨b, p2, rfl⟩ := k2
      rw [p1.uniq p2]
    · rw [hl] at h2 k2
      simp only [if_true] at h2 k2
      exact h2.uniq k2
def leB (key s : ByteArray) : Bool := ltS s key || eqS s key
theorem le_not (key s : ByteArray) : leB key s = !(ltS key s) := by
  unfold leB
  cases h1 : ltS s key
  · cases h2 : ltS key s
    · have := ltS_tri h1 h2
      subst this
      rw [Bool.false_or]; exact eqS_iff.2 rfl
    · have : eqS s key = false := by
        cases h3 : eqS s key
        · rfl
        · have := eqS_iff.1 h3
          subst this
          rw [ltS_irrefl] at h2; cases h2
      rw [this]; rfl
  · have := ltS_asymm h1
    rw [this]; rfl
theorem cnt_le {K : List ByteArray} (hr : risB K = true) (key : ByteArray) : ∃ j, PlaceAt K key j ∧ (K.filter (leB key)).length = if thereB K key j then j + 1 else j := by
  have hm : ksOf (K.map fun k => (⟨k, ByteArray.empty⟩ : Pr)) = K := by unfold ksOf; rw [List.map_map]; exact List.map_id _
  obtain ⟨l, hl⟩ : ∃ l : List Pr, l = K.map fun k => (⟨k, ByteArray.empty⟩ : Pr) := ⟨_, rfl⟩
  rw [← hl] at hm
  have hp := place_ex (l := l) (by rw [hm]; exact hr) key
  have hd := hi_drop (l := l) (by rw [hm]; exact hr) hp
  rw [hm] at hp hd
  refine ⟨_, hp, ?_⟩
  have hle := hp.le
  have hth : ∀ h : thereB K key (loL l key).length = true, (loL l key).length < K.length := fun h => by
    unfold thereB at h; simp only [Bool.and_eq_true, decide_eq_true_eq] at h; exact h.1
  have hlen : l.length = K.length := by rw [hl, List.length_map]
  have h1 := congrArg List.length hd
  rw [List.length_drop, hlen] at h1
  have h2 : (K.filter (leB key)).length + (hiL l key).length = K.length := by
    have e1 : (hiL l key).length = (K.filter (fun s => ltS key s)).length := by
      unfold hiL
      rw [hl, List.filter_map, List.length_map]; rfl
    have e2 : K.filter (leB key) = K.filter (fun s => !(ltS key s)) := by congr 1; funext s; exact le_not key s
    rw [e1, e2, ← List.countP_eq_length_filter, ← List.countP_eq_length_filter, Nat.add_comm]
    have := List.length_eq_countP_add_countP (fun s => ltS key s) (l := K)
    rw [this]; congr 2; funext s; cases ltS key s <;> rfl
  cases ht : thereB K key (loL l key).length
  · rw [ht] at h1; simp only [Bool.false_eq_true, if_false] at h1 ⊢; omega
  · rw [ht] at h1; simp only [if_true] at h1 ⊢
    have := hth ht
    omega
theorem filter_atK {l : List ByteArray} {p : ByteArray → Bool} {k : Nat} (hk : k < l.length) : ((l.take (k + 1)).filter p).length = ((l.take k).filter p).length + (if p (kAt l k) then 1 else 0) := by
  have e : l.take (k + 1) = l.take k ++ [kAt l k] := by
    rw [List.take_add_one, List.getElem?_eq_getElem hk]
    unfold kAt
    rw [List.getD_eq_getElem?_getD, List.getElem?_eq_getElem hk]; rfl
  rw [e, List.filter_append, List.length_append]
  cases hp : p (kAt l k) <;> simp [hp]
theorem filter_atP {l : List Pr} {p : Pr → Bool} {k : Nat} (hk : k < l.length) : ((l.take (k + 1)).filter p).length = ((l.take k).filter p).length + (if p (prAt l k) then 1 else 0) := by
  rw [filter_at hk, List.length_append]
  cases p (prAt l k) <;> rfl
theorem find_final {n : Nd} (h : okN n = true) (key : ByteArray) : FindPost n key ((loL n.ps key).length + (n.ks.filter (leB key)).length) 0 := by
  unfold FindPost
  rw [h, if_pos rfl]
  refine ⟨rfl, ?_⟩
  unfold FindAt
  cases hl : n.leaf
  · rw [okN_inner hl] at h
    obtain ⟨h1, -, -, -, h5, -⟩ := okI_true h
    rw [h1]
    simp only [Bool.false_eq_true, if_false]
    have e : (loL [] key).length = 0 := rfl
    rw [e, Nat.zero_add]
    exact cnt_le h5 key
  · rw [okN_leaf hl] at h
    obtain ⟨h1, -, -, h4, -⟩ := okL_true h
    rw [h1]
    simp only [if_true]
    have e : ([].filter (leB key)).length = 0 := rfl
    rw [e, Nat.add_zero]
    exact place_ex h4 key
set_option maxHeartbeats 3200000 in
theorem docFind_any {w : World} {v : Value} {n : Nd} (h : NdAt w.heap.size w v n) (key : ByteArray) : Calls Try.prog 24 #[v, .string key] w fun e w' => ∃ (i : Nat) (E : Int), e = .returned (.tuple #[.int .i64 i, .int .i64 E]) ∧ FindPost n key i E ∧ Below w.heap.size w w' := by
  have HN := h
  obtain ⟨pv, kv, iv, rfl, h1, h2, h3⟩ := h
  obtain ⟨pa, pm, pc, rfl, hpm⟩ := h1.form
  obtain ⟨ka, km, kc, rfl, hkm⟩ := h2.form
  obtain ⟨ia, im, ic, rfl, -⟩ := h3.form
  have HP := Lib.hid h1
  have HK2 := Lib.hid h2
  have m1 : pm ≤ 17592186043904 := by rw [hpm.out]; exact h1.len okP
  have m2 : km ≤ 17592186043904 := by rw [hkm.out]; exact h2.len okS
  have RB := Lib.hid (fun (w1 : World) b => rbox_facts (W := w) (lf := n.leaf) (pv := .slice pa pm pc) (kv := .slice ka km kc) (iv := .slice ia im ic) (w1 := w1) b)
  obtain ⟨SB, hb0, SBc, br, fin⟩ : ∃ SB : World → Prop, SB (w.alloc (rbO n.leaf (.slice pa pm pc) (.slice ka km kc) (.slice ia im ic))) ∧ (∀ w1 w2, SB w1 → Below w1.heap.size w1 w2 → SB w2) ∧ (∀ w', SB w' → NdCells w' w.heap.size n.leaf (.slice pa pm pc) (.slice ka km kc) (.slice ia im ic)) ∧ ∀ w', SB w' → Below w.heap.size w w' :=
    ⟨fun w' => Below (w.heap.size + 1) (w.alloc (rbO n.leaf (.slice pa pm pc) (.slice ka km kc) (.slice ia im ic))) w', Below.refl _ _, fun _ _ h k => Below.thenB h k (RB.out _ h).2.2, fun _ h => (RB.out _ h).1, fun _ h => (RB.out _ h).2.1⟩
  have BR := Lib.hid br
  have FIN := Lib.hid fin
  have rc := right_any ((HN.below (below_new w (rbO n.leaf (.slice pa pm pc) (.slice ka km kc) (.slice ia im ic)))).more (below_new w _).size)
  obtain ⟨q0, q1, q2, q3⟩ := br _ hb0
  generalize n.leaf = lf at *
  clear h1 h2 h3 RB br fin HN
  cases hk : okN n
  · rw [hk] at rc
    have HF := Lib.hid (show FindPost n key 0 2 by unfold FindPost; rw [hk]; exact ⟨rfl, rfl⟩)
    clear hk
    go_enter Try.func24, Try.ntmps24
    go_wp2_with fail
    refine Calls.mono rc ?_
    rintro e w1 ⟨rfl, b1⟩
    have hb := SBc _ _ hb0 b1
    clear rc b1 q0 q1 q2 q3
    go_wp2
    go_ret2
    exact ⟨0, 2, rfl, HF.out, FIN.out _ hb⟩
  · rw [hk] at rc
    have HF := Lib.hid (find_final hk key)
    clear hk
    go_enter Try.func24, Try.ntmps24
    go_wp2_with fail
    refine Calls.mono rc ?_
    rintro e w1 ⟨rfl, b1⟩
    have hb := SBc _ _ hb0 b1
    clear rc b1 q0 q1 q2 q3
    go_wp2
    go_loopw [6, 7] (fun cv iv wr => ∃ k c : Nat, k ≤ pm ∧ c ≤ k ∧ iv = .int .i64 k ∧ cv = .int .i64 c ∧ Hid (c = ((n.ps.take k).filter (fun p => ltS p.k key)).length) ∧ SB wr) (fun _ iv _ => pm - (intOf iv).toNat)
    case atStart => exact ⟨0, 0, Nat.zero_le _, Nat.le_refl _, rfl, rfl, Lib.hid rfl, hb⟩
    case round =>
      obtain ⟨k, c, hk, hck, rfl, rfl, hc, hb⟩ := hrel
      obtain ⟨q0, q1, q2, q3⟩ := BR.out _ hb
      by_cases hlt : k < pm
      · have hlt' : k < n.ps.length := by rw [← hpm.out]; exact hlt
        obtain ⟨pb, poff, cap', hv, hB, hc1, -⟩ := HP.out.getP hlt'
        obtain ⟨rfl, rfl⟩ : pa = some ⟨pb, poff, none⟩ ∧ pc = cap' := by injection hv with h1 _ h3; exact ⟨h1, h3⟩
        have d1 := ((FIN.out _ hb).cell (p := ⟨pb, poff + k * 2, none⟩) hB).trans hc1
        have HS := Lib.hid (filter_atP (p := fun p => ltS p.k key) hlt')
        obtain ⟨x, hx⟩ : ∃ x, (prAt n.ps k).k = x := ⟨_, rfl⟩
        simp only [hx] at d1 HS
        clear hv hc1 hx
        cases hq : ltS x key
        · have hq' : Op.bytesLess x.toList key.toList = false := hq
          have HC := Lib.hid (show c = ((n.ps.take (k + 1)).filter (fun p => ltS p.k key)).length by rw [HS.out, hq, ← hc.out]; rfl)
          clear hq HS hc
          go_wp2
          go_roundw
          case rel => exact ⟨k + 1, c, by omega, by omega, by go_num, rfl, HC, hb⟩
          case measure => simp [intOf]; omega
        · have hq' : Op.bytesLess x.toList key.toList = true := hq
          have HC := Lib.hid (show c + 1 = ((n.ps.take (k + 1)).filter (fun p => ltS p.k key)).length by rw [HS.out, hq, ← hc.out]; rfl)
          clear hq HS hc
          go_wp2
          go_roundw
          case rel => exact ⟨k + 1, c + 1, by omega, by omega, by go_num, by go_num, HC, hb⟩
          case measure => simp [intOf]; omega
      · have HC0 := Lib.hid (show c = (loL n.ps key).length by
          rw [hc.out, List.take_of_length_le (by rw [← hpm.out]; omega)]; rfl)
        have hcp : c ≤ pm := by omega
        clear hc
        go_wp2
        clear q0 q1 q2 q3 hlt hk hck
        go_loopw [6, 8] (fun cv iv wr => ∃ k d : Nat, k ≤ km ∧ d ≤ k ∧ iv = .int .i64 k ∧ cv = .int .i64 (c + d : Nat) ∧ Hid (d = ((n.ks.take k).filter (leB key)).length) ∧ SB wr) (fun _ iv _ => km - (intOf iv).toNat)
        case atStart => exact ⟨0, 0, Nat.zero_le _, Nat.le_refl _, rfl, rfl, Lib.hid rfl, hb⟩
        case round =>
          obtain ⟨k, d, hk, hck, rfl, rfl, hc, hb⟩ := hrel
          obtain ⟨q0, q1, q2, q3⟩ := BR.out _ hb
          by_cases hlt : k < km
          · have hlt' : k < n.ks.length := by rw [← hkm.out]; exact hlt
            obtain ⟨kb, koff, cap', hv, hB, hc1⟩ := HK2.out.getS hlt'
            obtain ⟨rfl, rfl⟩ : ka = some ⟨kb, koff, none⟩ ∧ kc = cap' := by injection hv with h1 _ h3; exact ⟨h1, h3⟩
            have d1 := ((FIN.out _ hb).cell (p := ⟨kb, koff + k, none⟩) hB).trans hc1
            have HS := Lib.hid (filter_atK (p := leB key) hlt')
            obtain ⟨x, hx⟩ : ∃ x, kAt n.ks k = x := ⟨_, rfl⟩
            simp only [hx] at d1 HS
            clear hv hc1 hx
            cases h1 : ltS x key
            · have hq1 : Op.bytesLess x.toList key.toList = false := h1
              cases h2 : eqS x key
              · have hq2 : (x.toList == key.toList) = false := h2
                have HC := Lib.hid (show d = ((n.ks.take (k + 1)).filter (leB key)).length by rw [HS.out, show leB key x = false by unfold leB; rw [h1, h2]; rfl, ← hc.out]; rfl)
                clear HS hc
                go_wp2
                go_roundw
                case rel => exact ⟨k + 1, d, by omega, by omega, by go_num, rfl, HC, hb⟩
                case measure => simp [intOf]; omega
              · have hq2 : (x.toList == key.toList) = true := h2
                have HC := Lib.hid (show d + 1 = ((n.ks.take (k + 1)).filter (leB key)).length by rw [HS.out, show leB key x = true by unfold leB; rw [h1, h2]; rfl, ← hc.out]; rfl)
                clear HS hc
                go_wp2
                go_roundw
                case rel => exact ⟨k + 1, d + 1, by omega, by omega, by go_num, by go_num, HC, hb⟩
                case measure => simp [intOf]; omega
            · have hq1 : Op.bytesLess x.toList key.toList = true := h1
              have HC := Lib.hid (show d + 1 = ((n.ks.take (k + 1)).filter (leB key)).length by rw [HS.out, show leB key x = true by unfold leB; rw [h1]; rfl, ← hc.out]; rfl)
              clear HS hc
              go_wp2
              go_roundw
              case rel => exact ⟨k + 1, d + 1, by omega, by omega, by go_num, by go_num, HC, hb⟩
              case measure => simp [intOf]; omega
          · have HD := Lib.hid (show c + d = (loL n.ps key).length + (n.ks.filter (leB key)).length by
              rw [HC0.out, hc.out, List.take_of_length_le (by rw [← hkm.out]; omega)])
            clear hc
            go_wp2
            go_ret2
            exact ⟨c + d, 0, rfl, by rw [HD.out]; exact HF.out, FIN.out _ hb⟩
end Go.Proofs.Ytdkmfcmndncmcaa
