/- What is put in a leaf, and dropped again: plain mathematics; pairs compared. No statement of the seat is proved here. -/
import Derived.Test.YtdkmfcmndncmcaaNLf
import Derived.Laws.StructEq
namespace Go.Proofs.Ytdkmfcmndncmcaa
set_option maxRecDepth 20000
open Go.RowKit

theorem eq_pr (p s : ByteArray) (w : World) : (Op.equalIn 10000 50 (.agg #[.string p, .string s]) (.agg #[.string p, .string s])).run Try.prog w = .ok true w := by
  have u9 := Try.underlying9
  have hS : Try.prog.underlying 50 = some (.struct (Try.prog.fieldsOf 50)) := by kernel_rfl
  rw [show (10000 : Nat) = 9999 + 1 from rfl, run_equalIn_agg w 9999 50 _ _ hS (by kernel_rfl)]
  simp only [Program.fieldsOf, Try.underlying50]
  go_simp
theorem neq_pr (p s : ByteArray) (w : World) : (binOp .neq 50 (.agg #[.string p, .string s]) (.agg #[.string p, .string s])).run Try.prog w = .ok (.bool false) w := by
  have := eq_pr p s w
  simp only [binOp]
  simp [Op.equal, Op.maxDepth, this]
def keep (x : ByteArray) (p : Pr) : Bool := !(eqS p.k x)
theorem del_filter {x : ByteArray} : ∀ {l : List Pr}, l.Pairwise (fun a b => ltS a.k b.k = true) → delL l x = l.filter (keep x)
  | [], _ => rfl
  | a :: r, h => by
    obtain ⟨h1, h2⟩ := List.pairwise_cons.1 h
    have ih := del_filter (x := x) h2
    unfold delL loL hiL at *
    cases e1 : ltS a.k x with
    | true =>
      have e2 := ltS_asymm e1
      have e3 : keep x a = true := by
        unfold keep
        cases q : eqS a.k x with
        | false => rfl
        | true => rw [eqS_iff.1 q, ltS_irrefl] at e1; cases e1
      rw [List.filter_cons_of_pos (by exact e1), List.filter_cons_of_neg (by simpa using e2), List.filter_cons_of_pos (by exact e3), List.cons_append, ih]
    | false =>
      have hr : ∀ b ∈ r, ltS b.k x = false := fun b hb => by
        cases q : ltS b.k x with
        | false => rfl
        | true => have := ltS_trans (h1 b hb) q; rw [e1] at this; cases this
      have hlo : r.filter (fun p => ltS p.k x) = [] := List.filter_eq_nil_iff.2 fun b hb => by rw [hr b hb]; simp
      rw [hlo, List.nil_append] at ih
      rw [List.filter_cons_of_neg (by simpa using e1), hlo, List.nil_append]
      cases e2 : ltS x a.k with
      | true =>
        have e3 : keep x a = true := by
          unfold keep
          cases q : eqS a.k x with
          | false => rfl
          | true => rw [eqS_iff.1 q, ltS_irrefl] at e2; cases e2
        rw [List.filter_cons_of_pos (by exact e2), List.filter_cons_of_pos (by exact e3), ih]
      | false =>
        have e3 : keep x a = false := by unfold keep; rw [eqS_iff.2 (ltS_tri e1 e2)]; rfl
        rw [List.filter_cons_of_neg (by simpa using e2), List.filter_cons_of_neg (by simpa using e3), ih]
theorem ris_pair {l : List Pr} (h : risB (ksOf l) = true) : l.Pairwise (fun a b => ltS a.k b.k = true) := ks_pair.1 (risB_mem h).2
theorem has_put (l : List Pr) (x : Pr) : hasL (putL l x) x.k = true := by
  unfold hasL
  rw [List.any_eq_true]
  exact ⟨x, by unfold putL; simp, eqS_iff.2 rfl⟩
theorem has_del {l : List Pr} (h : risB (ksOf l) = true) (x : ByteArray) : hasL (delL l x) x = false := by
  rw [del_filter (ris_pair h)]
  unfold hasL
  rw [List.any_eq_false]
  intro p hp
  have := (List.mem_filter.1 hp).2
  unfold keep at this
  simpa using this
theorem del_put {l : List Pr} (h : risB (ksOf l) = true) {x : Pr} (hp : risB (ksOf (putL l x)) = true) : delL (putL l x) x.k = l.filter (keep x.k) := by
  rw [del_filter (ris_pair hp), ← del_filter (ris_pair h)]
  have hx : keep x.k x = false := by unfold keep; rw [eqS_iff.2 rfl]; rfl
  have h1 : (loL l x.k).filter (keep x.k) = loL l x.k := List.filter_eq_self.2 fun p hp => by
    have := (lo_mem hp).2
    unfold keep
    cases q : eqS p.k x.k with
    | false => rfl
    | true => rw [eqS_iff.1 q, ltS_irrefl] at this; cases this
  have h2 : (hiL l x.k).filter (keep x.k) = hiL l x.k := List.filter_eq_self.2 fun p hp => by
    have := (hi_mem hp).2
    unfold keep
    cases q : eqS p.k x.k with
    | false => rfl
    | true => rw [eqS_iff.1 q, ltS_irrefl] at this; cases this
  unfold putL delL
  rw [List.filter_append, List.filter_cons_of_neg (by rw [hx]; simp), h1, h2]
theorem put_at {l : List Pr} {x : Pr} (hp : risB (ksOf (putL l x)) = true) {i : Nat} (h : PlaceAt (ksOf (putL l x)) x.k i) : i < (putL l x).length ∧ prAt (putL l x) i = x := by
  have hlt : (loL l x.k).length < (putL l x).length := by unfold putL; simp
  have hg : prAt (putL l x) (loL l x.k).length = x := by
    unfold prAt putL
    rw [List.getD_eq_getElem?_getD, List.getElem?_append_right (Nat.le_refl _), Nat.sub_self]; rfl
  have hs := place_self hp (k := (loL l x.k).length) (by rw [ksOf_length]; exact hlt)
  rw [ksOf_at _ hlt, hg] at hs
  obtain rfl := h.uniq hs
  exact ⟨hlt, hg⟩
theorem filter_at {l : List Pr} {p : Pr → Bool} {k : Nat} (hk : k < l.length) : (l.take (k + 1)).filter p = (l.take k).filter p ++ (if p (prAt l k) then [prAt l k] else []) := by
  have e : l[k] = prAt l k := by unfold prAt; rw [List.getD_eq_getElem?_getD, List.getElem?_eq_getElem hk]; rfl
  rw [List.take_succ_eq_append_getElem hk, List.filter_append, e]
  congr 1
  cases q : p (prAt l k) <;> simp [q]
theorem filter_get {l : List Pr} {p : Pr → Bool} {k : Nat} (hk : k < l.length) (hp : p (prAt l k) = true) : ((l.take k).filter p).length < (l.filter p).length ∧ prAt (l.filter p) ((l.take k).filter p).length = prAt l k := by
  have e : l[k] = prAt l k := by unfold prAt; rw [List.getD_eq_getElem?_getD, List.getElem?_eq_getElem hk]; rfl
  have hs : l.filter p = (l.take k).filter p ++ prAt l k :: (l.drop (k + 1)).filter p := by
    conv => lhs; rw [← List.take_append_drop k l, List.filter_append, List.drop_eq_getElem_cons hk, e, List.filter_cons_of_pos hp]
  refine ⟨by rw [hs]; simp, ?_⟩
  unfold prAt at hs ⊢
  rw [List.getD_eq_getElem?_getD, hs, List.getElem?_append_right (Nat.le_refl _), Nat.sub_self]; rfl
theorem del_ok {l : List Pr} (h : okN (lf l) = true) (x : ByteArray) : okN (lf (delL l x)) = true := by
  obtain ⟨-, -, h3, h4, h5⟩ := okL_true h
  have h3' : l.length ≤ 255 := h3
  have hd := del_filter (x := x) (ris_pair (l := l) h4)
  refine okL_of rfl rfl ?_ (ris_del h4 x) ?_
  · show (delL l x).length ≤ 255
    rw [hd]; exact Nat.le_trans (List.length_filter_le _ _) h3'
  · intro p hp
    have hp' : p ∈ delL l x := hp
    rw [hd] at hp'
    exact h5 p (List.mem_filter.1 hp').1
theorem putN_cases (n : Nd) (x : Pr) : putN n x = (.none, 2) ∨ (n.leaf = true ∧ okN n = true ∧ okN (lf (putL n.ps x)) = true ∧ putN n x = (lf (putL n.ps x), 0)) := by
  unfold putN
  cases h1 : n.leaf <;> cases h2 : okN n <;> cases h3 : okN (⟨true, putL n.ps x, [], []⟩ : Nd) <;> simp_all [lf]
end Go.Proofs.Ytdkmfcmndncmcaa
