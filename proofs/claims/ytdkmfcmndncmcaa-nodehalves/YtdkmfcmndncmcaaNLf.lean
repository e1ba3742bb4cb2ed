/- Leaves alone: what Put makes of them; texts as arguments; the document's own Key. No statement of the seat is proved here. -/
import Derived.Test.YtdkmfcmndncmcaaNFind
import Derived.Test.YtdkmfcmndncmcaaNDrop
namespace Go.Proofs.Ytdkmfcmndncmcaa
set_option maxRecDepth 20000
open Go.RowKit Go.ChangeShapes Go.WideShapes Go.ChangeAt

def StrlArg (W : World) (v : Value) (l : List ByteArray) : Prop := SlAt elS W.heap.size W v l
section
variable {H : Type} {enc : TypeId × Value → H} {W : World} {base : Nat} {v : Value} {d : DataW H} {ps : List MemPlace}
theorem strl_arg (hv : Value.okWide Try.prog W .any base 23 v) (hsz : ∀ k ∈ d.weights Try.prog 23, k ≤ reachBytes) (h : DataW.Trod enc Try.prog W 0 (fun _ => true) true 23 v d ps) : ∃ l, StrlArg W v l := by
  obtain ⟨a0, len, cap, rfl⟩ := okWide_slice Try.underlying23 hv
  obtain ⟨fuel, hf⟩ := h
  obtain ⟨l, hl, -⟩ := strs_trod (x0 := (d, ps)) hsz hf
  exact ⟨l, hl⟩
end
theorem refKey_any (s : ByteArray) (w : World) : Calls Try.prog 34 #[.string s] w fun e w' => e = .returned (.bool (okK s)) ∧ w' = w := by
  by_cases h0 : s.size = 0
  · have e : okK s = false := by unfold okK; rw [decide_eq_false (by omega : ¬ 1 ≤ s.size)]; rfl
    have hs : s.toList = [] := List.eq_nil_of_length_eq_zero (by rw [str_len]; exact h0)
    rw [e]
    clear e h0
    go_enter Try.func34, Try.ntmps34
    go_wp2
    go_ret
    exact ⟨rfl, rfl⟩
  · have e : okK s = decide (s.size ≤ 32) := by unfold okK; rw [decide_eq_true (by omega : 1 ≤ s.size)]; rfl
    have hs : ¬ s.toList = [] := fun q => h0 (by rw [← str_len, q]; rfl)
    have HE := Lib.hid e
    clear e
    go_enter Try.func34, Try.ntmps34
    go_wp2
    go_ret
    refine ⟨?_, rfl⟩
    rw [HE.out]
    show Ending.returned (.bool (!s.toList.isEmpty && decide ((s.size : Int) ≤ 32))) = _
    have hs' : s.toList.isEmpty = false := by cases q : s.toList with | nil => exact absurd q hs | cons a r => rfl
    rw [hs']
    simp only [Bool.not_false, Bool.true_and]
    rw [show decide ((s.size : Int) ≤ 32) = decide (s.size ≤ 32) from decide_eq_decide.2 (by omega)]
/-- a leaf and nothing else -/
def lf (l : List Pr) : Nd := ⟨true, l, [], []⟩
theorem put_lf {l : List Pr} (h : okN (lf l) = true) (hl : l.length ≤ 254) (x : Pr) : putN (lf l) x = if okK x.k && decide (x.v.size ≤ 48) then (lf (putL l x), 0) else (.none, 2) := by
  obtain ⟨-, -, -, hr, hv⟩ := okL_true h
  have hr' : risB (ksOf l) = true := hr
  have e : okN (lf (putL l x)) = (okK x.k && decide (x.v.size ≤ 48)) := by
    show okL (lf (putL l x)) = _
    cases hk : okK x.k with
    | true =>
      by_cases h48 : x.v.size ≤ 48
      · rw [decide_eq_true h48]
        refine okL_of rfl rfl ?_ (ris_put hr' hk) ?_
        · show (putL l x).length ≤ 255
          rw [put_length hr']
          split <;> omega
        · intro p hp
          rcases List.mem_append.1 hp with hp | hp
          · exact hv p (lo_mem hp).1
          · rcases List.mem_cons.1 hp with rfl | hp
            · exact h48
            · exact hv p (hi_mem hp).1
      · rw [decide_eq_false h48]
        cases q : okL (lf (putL l x)) with
        | false => rfl
        | true => exact absurd ((okL_true q).2.2.2.2 x (by show x ∈ putL l x; unfold putL; simp)) h48
    | false =>
      cases q : okL (lf (putL l x)) with
      | false => rfl
      | true =>
        have := (risB_mem (okL_true q).2.2.2.1).1 x.k (by show x.k ∈ ksOf (putL l x); unfold putL ksOf; simp)
        rw [hk] at this; cases this
  unfold putN
  rw [h]
  show (if okN (lf (putL l x)) then _ else _) = _
  rw [e]; rfl
theorem put_lf_len {l : List Pr} (h : okN (lf l) = true) (x : Pr) : (putL l x).length ≤ l.length + 1 := by
  have := put_length (l := l) (okL_true h).2.2.2.1 x
  rw [this]
  split <;> omega
theorem place_self {K : List ByteArray} (hr : risB K = true) {k : Nat} (hk : k < K.length) : PlaceAt K (kAt K k) k :=
  ⟨Nat.le_of_lt hk, fun _ hm => risB_lt hr hm hk, fun m h1 h2 => by
    rcases Nat.lt_or_eq_of_le h1 with c | c
    · exact ltS_asymm (risB_lt hr c h2)
    · rw [c]; exact ltS_irrefl _⟩
end Go.Proofs.Ytdkmfcmndncmcaa
