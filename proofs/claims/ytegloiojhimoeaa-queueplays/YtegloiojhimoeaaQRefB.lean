/- The contracts of the document's Peek, Pop, Push, Set, Drop. No statement of the seat is proved here. -/
import Derived.Test.YtegloiojhimoeaaQCut
namespace Go.Proofs.Ytegloiojhimoeaa
open Go.RowKit

theorem ent_storeR {w : World} {B : Nat} {a0 b0 : Value} (hg : w.heap[B]? = some (.cells #[a0, b0] 60 (0, 0))) (i : Int) (p : Nat) :
    w.cell? ⟨B, 0, none⟩ = some a0 ∧ w.frozen? ⟨B, 0, none⟩ = false ∧ (store ⟨B, 1, none⟩ (.float .f64 p)).run Try.prog (w.setCell ⟨B, 0, none⟩ (.int .i64 i)) = .ok () ((w.setCell ⟨B, 0, none⟩ (.int .i64 i)).setCell ⟨B, 1, none⟩ (.float .f64 p)) ∧
    ((w.setCell ⟨B, 0, none⟩ (.int .i64 i)).setCell ⟨B, 1, none⟩ (.float .f64 p)).heap[B]? = some (.cells #[.int .i64 i, .float .f64 p] 60 (0, 0)) ∧ (∀ k, k ≠ B → ((w.setCell ⟨B, 0, none⟩ (.int .i64 i)).setCell ⟨B, 1, none⟩ (.float .f64 p)).heap[k]? = w.heap[k]?) ∧
    ∀ b (a : World), Below b a w → b ≤ B → Below b a ((w.setCell ⟨B, 0, none⟩ (.int .i64 i)).setCell ⟨B, 1, none⟩ (.float .f64 p)) := by
  have hc0 := heap_setCell_same w B 0 _ _ (.int .i64 i) hg
  refine ⟨cell_row hg 0 rfl, free_row hg 0, run_store1 rfl (cell_row hc0 1 rfl) (free_row hc0 1), heap_setCell_same _ B 1 _ _ (.float .f64 p) hc0, fun k hk => ?_, fun b a h hb => (h.setCell hb _).setCell hb _⟩
  rw [Below.heap_setCell _ _ _ _ hk, Below.heap_setCell _ _ _ _ hk]
def PeekR (w : World) (S : List Wt) (e : Ending) (w' : World) : Prop := ∃ b, e = .returned (.tuple #[entV (at' S b), .int .i64 0]) ∧ Best S S.length b ∧ Below w.heap.size w w'
set_option maxRecDepth 20000 in
set_option maxHeartbeats 1600000 in
theorem rpeek_ok {X : Nat → Prop} {w : World} {rb : Nat} {S : List Wt} (h : RAt X w rb S) (h0 : 0 < S.length) (hl : S.length ≤ 10000) (hpr : ∀ x ∈ S, x.pr < 18446744073709551616) : Calls Try.prog 25 #[.pointer (some ⟨rb, 0, none⟩)] w (PeekR w S) := by
  go_enter Try.func25, Try.ntmps25
  go_wp2_with (with_reducible refine wpList_alloc_row rfl 60 rfl #[.int .i64 0, .float .f64 0] (by kernel_rfl) ?_)
  intro w2 hg2 hb2 hs2
  have FA := Lib.hid (first_any (h.below hb2) (by omega) h0 hpr)
  have R := Lib.hid h
  clear h hpr h0 hl
  go_wp2_with fail
  refine FA.out.mono ?_
  rintro e w3 ⟨b, rfl, hbest, b3⟩
  have hbb := hb2.trans (b3.mono hb2.size)
  obtain ⟨ao, cap, c0, -, -, hc⟩ := (R.out.below hbb).form
  obtain ⟨g, rfl, w0', w1'⟩ := hc b hbest.1
  have hbl := hbest.1
  have hb0 : ¬ ((b : Int) < 0) := by omega
  have hg3 := (b3.block _ hs2).trans hg2
  have HBEST := Lib.hid hbest
  generalize hxx : at' S b = xx at w0' w1'
  obtain ⟨mb, mi, mp, mt⟩ := xx
  simp only at w0' w1'
  obtain ⟨d0, g0, hst, hg4, -, hbl4⟩ := ent_storeR hg3 mi mp
  have HB4 := Lib.hid (hbl4 _ _ hbb (Nat.le_refl _))
  have HG4 := Lib.hid hg4
  have HXX := Lib.hid hxx
  clear hbest hb2 b3 hbb hc hg2 hg3 hg4 hbl4 R FA hs2 hxx
  generalize S.length = n at c0 hbl
  go_wp2
  have e0 := cell_row HG4.out 0 rfl
  have e1 := cell_row HG4.out 1 rfl
  clear HG4 hst g0 d0 c0 w0' w1'
  generalize (w3.setCell ⟨w.heap.size, 0, none⟩ (.int .i64 mi)).setCell ⟨w.heap.size, 1, none⟩ (.float .f64 mp) = w5 at HB4 e0 e1 ⊢
  exact bodyPost_ret (v := .tuple #[.agg #[.int .i64 mi, .float .f64 mp], .int .i64 0]) (by simp [results, Try.results25, go_sem, e0, e1]) rfl ⟨b, by rw [HXX.out], HBEST.out, HB4.out⟩
set_option maxRecDepth 20000 in
set_option maxHeartbeats 1600000 in
theorem rpeek_none {X : Nat → Prop} {w : World} {rb : Nat} (h : RAt X w rb []) : Calls Try.prog 25 #[.pointer (some ⟨rb, 0, none⟩)] w (MissPost w) := by
  go_enter Try.func25, Try.ntmps25
  go_wp2_with (with_reducible refine wpList_alloc_row rfl 60 rfl #[.int .i64 0, .float .f64 0] (by kernel_rfl) ?_)
  intro w2 hg2 hb2 hs2
  have FA := first_none (h.below hb2)
  obtain ⟨d0, g0, hst, hg4, -, hbl4⟩ := ent_storeR hg2 0 0
  have FIN := Lib.hid (And.intro hg4 (hbl4 _ _ hb2 (Nat.le_refl _)))
  clear h hg2 hb2 hs2 hg4 hbl4
  go_wp2_with fail
  refine FA.mono ?_
  rintro e _ ⟨rfl, rfl⟩
  go_wp2
  have e0 := cell_row FIN.out.1 0 rfl
  have e1 := cell_row FIN.out.1 1 rfl
  clear hst g0 d0 FA
  generalize (w2.setCell ⟨w.heap.size, 0, none⟩ (.int .i64 0)).setCell ⟨w.heap.size, 1, none⟩ (.float .f64 0) = w5 at FIN e0 e1 ⊢
  exact bodyPost_ret (v := .tuple #[.agg #[.int .i64 0, .float .f64 0], .int .i64 7]) (by simp [results, Try.results25, go_sem, e0, e1]) rfl ⟨rfl, FIN.out.2⟩
theorem best_uniq {S : List Wt} {k b b' : Nat} (h : Best S k b) (h' : Best S k b') : b = b' := by
  rcases Nat.lt_trichotomy b b' with e | e | e
  · have h1 := h'.2.2 b e
    have h2 := h.2.1 b' h'.1
    omega
  · exact e
  · have h1 := h.2.2 b' e
    have h2 := h'.2.1 b h.1
    omega
theorem split_at {S : List Wt} {b : Nat} (h : b < S.length) : S = S.take b ++ [at' S b] ++ S.drop (b + 1) ∧ (S.take b).length = b := by
  refine ⟨?_, by simp; omega⟩
  rw [List.append_assoc, List.singleton_append, at_eq h, ← List.drop_eq_getElem_cons h, List.take_append_drop]
theorem cut_del {S : List Wt} {b : Nat} (h : b < S.length) (ids : S.Pairwise (fun a b => a.id ≠ b.id)) : S.take b ++ S.drop (b + 1) = del S (at' S b).id := by
  obtain ⟨hs, -⟩ := split_at h
  have h3 := ids
  rw [hs] at h3
  rw [List.append_assoc, List.pairwise_append] at h3
  obtain ⟨-, h5, h6⟩ := h3
  rw [List.singleton_append, List.pairwise_cons] at h5
  have e1 : (S.take b).filter (fun y => decide (y.id ≠ (at' S b).id)) = S.take b := List.filter_eq_self.2 (fun a ha => by simpa using h6 a ha (at' S b) (by simp))
  have e2 : (S.drop (b + 1)).filter (fun y => decide (y.id ≠ (at' S b).id)) = S.drop (b + 1) := List.filter_eq_self.2 (fun a ha => by simpa using Ne.symm (h5.1 a ha))
  have e := congrArg (List.filter (fun y => decide (y.id ≠ (at' S b).id))) hs
  rw [List.filter_append, List.filter_append, e1, e2] at e
  unfold del
  rw [e]
  simp
def PopR (X : Nat → Prop) (w : World) (rb : Nat) (S : List Wt) (e : Ending) (w' : World) : Prop := ∃ b, e = .returned (.tuple #[entV (at' S b), .int .i64 0]) ∧ Best S S.length b ∧ RAt X w' rb (S.take b ++ S.drop (b + 1)) ∧ Kp X w w'
set_option maxRecDepth 20000 in
set_option maxHeartbeats 3200000 in
theorem rpop_ok {X : Nat → Prop} {w : World} {rb : Nat} {S : List Wt} (h : RAt X w rb S) (h0 : 0 < S.length) (hl : S.length ≤ 10000) (hpr : ∀ x ∈ S, x.pr < 18446744073709551616) : Calls Try.prog 23 #[.pointer (some ⟨rb, 0, none⟩)] w (PopR X w rb S) := by
  go_enter Try.func23, Try.ntmps23
  go_wp2_with (with_reducible refine wpList_alloc_row rfl 60 rfl #[.int .i64 0, .float .f64 0] (by kernel_rfl) ?_)
  intro w1 hg1 hb1 hs1
  have P := Lib.hid (rpeek_ok (h.below hb1) h0 hl hpr)
  have R := Lib.hid (And.intro h hpr)
  clear h hpr
  go_wp2_with fail
  refine P.out.mono ?_
  rintro e w2 ⟨b, rfl, hbest, hb2⟩
  have b12 : Below w.heap.size w w2 := hb1.trans (hb2.mono hb1.size)
  have hg2 := (hb2.block _ hs1).trans hg1
  have hs2 := Nat.lt_of_lt_of_le hs1 hb2.size
  have HBE := Lib.hid hbest
  generalize hxx : at' S b = xx
  obtain ⟨mb, mi, mp, mt⟩ := xx
  have HXX := Lib.hid hxx
  clear hb1 hb2 hg1 P hbest hxx hs1
  go_wp2_with (with_reducible refine wpList_alloc_row rfl 60 rfl #[.int .i64 0, .float .f64 0] (by kernel_rfl) ?_)
  intro w3 hg3 hb3 hs3
  obtain ⟨d0, g0, hst, hg4, ho4, hbl4⟩ := ent_storeR hg3 mi mp
  have hg4a := (ho4 w.heap.size (by omega)).trans ((hb3.block _ hs2).trans hg2)
  have b4 := hbl4 _ _ (b12.trans (hb3.mono b12.size)) b12.size
  have hs4 : w2.heap.size < ((w3.setCell ⟨w2.heap.size, 0, none⟩ (.int .i64 mi)).setCell ⟨w2.heap.size, 1, none⟩ (.float .f64 mp)).heap.size := by simpa [World.setCell] using hs3
  have F4 := Lib.hid (And.intro hg4 (And.intro hg4a (And.intro b4 (And.intro hs4 hs2))))
  clear hg4 hg4a ho4 hbl4 b4 hg3 hb3 b12 hg2 hs4 hs3 hs2
  generalize hw4 : (w3.setCell ⟨w2.heap.size, 0, none⟩ (.int .i64 mi)).setCell ⟨w2.heap.size, 1, none⟩ (.float .f64 mp) = w4 at *
  clear hw4
  have FA := Lib.hid (first_any (R.out.1.below F4.out.2.2.1) (by omega) h0 R.out.2)
  go_wp2_with fail
  refine FA.out.mono ?_
  rintro e w5 ⟨b', rfl, hbest', b5⟩
  have hbb : b' = b := best_uniq hbest' HBE.out
  subst hbb
  have b05 := F4.out.2.2.1.trans (b5.mono F4.out.2.2.1.size)
  obtain ⟨hsp, hsl⟩ := split_at hbest'.1
  have CU := Lib.hid (cut_any (R.out.1.wider b05) hsp hl)
  rw [hsl] at CU
  have F5 := Lib.hid (And.intro ((b5.block _ F4.out.2.2.2.1).trans F4.out.1) (And.intro ((b5.block _ (Nat.lt_trans F4.out.2.2.2.2 F4.out.2.2.2.1)).trans F4.out.2.1) (And.intro b05 (And.intro (Nat.lt_of_lt_of_le F4.out.2.2.2.1 b5.size) F4.out.2.2.2.2))))
  clear FA b5 b05 hsp hsl F4 hbest' hst d0 g0
  go_wp2_with fail
  refine CU.out.mono ?_
  rintro e w6 ⟨rfl, r6, k6⟩
  obtain ⟨hg5, hg5a, b05, hs5, hs2⟩ := F5.out
  have hg6 := k6.keep _ _ (Or.inr ⟨Nat.le_of_lt hs2, hs5⟩) hg5
  have hg6a := k6.keep _ _ (Or.inr ⟨Nat.le_refl _, Nat.lt_trans hs2 hs5⟩) hg5a
  have x0 : w6.cell? ⟨w2.heap.size, 0, none⟩ = some (.int .i64 mi) := cell_row hg6 0 rfl
  have x1 : w6.cell? ⟨w2.heap.size, 1, none⟩ = some (.float .f64 mp) := cell_row hg6 1 rfl
  obtain ⟨d0, g0, hst, hg7, ho7, hbl7⟩ := ent_storeR hg6a mi mp
  have r7 : RAt X ((w6.setCell ⟨w.heap.size, 0, none⟩ (.int .i64 mi)).setCell ⟨w.heap.size, 1, none⟩ (.float .f64 mp)) rb (S.take b' ++ S.drop (b' + 1)) :=
    r6.keep (fun k o hk ho => (ho7 k (fun e => hk (Or.inr ⟨by omega, by omega⟩))).trans ho) (fun k _ e => Or.inl e) (fun k e => by
      have := r6.lt k (Or.inl e)
      simpa [World.setCell] using this)
  have k7 : Kp X w ((w6.setCell ⟨w.heap.size, 0, none⟩ (.int .i64 mi)).setCell ⟨w.heap.size, 1, none⟩ (.float .f64 mp)) :=
    (((Kp.of_below b05).trans (k6.mono (fun k e => Or.inl e))).setCell (fun e => by have := R.out.1.lt _ e; simp at this) _).setCell (fun e => by have := R.out.1.lt _ e; simp at this) _
  have FIN : Hid (PopR X w rb S (.returned (.tuple #[.agg #[.int .i64 mi, .float .f64 mp], .int .i64 0])) ((w6.setCell ⟨w.heap.size, 0, none⟩ (.int .i64 mi)).setCell ⟨w.heap.size, 1, none⟩ (.float .f64 mp))) := ⟨b', by rw [HXX.out], HBE.out, r7, k7⟩
  have HG7 := Lib.hid hg7
  clear r7 k7 hg7 ho7 hbl7 hg6 hg6a r6 k6 hg5 hg5a b05 hs5 hs2 F5 CU
  go_wp2
  have e0 := cell_row HG7.out 0 rfl
  have e1 := cell_row HG7.out 1 rfl
  clear HG7 hst d0 g0 x0 x1
  generalize (w6.setCell ⟨w.heap.size, 0, none⟩ (.int .i64 mi)).setCell ⟨w.heap.size, 1, none⟩ (.float .f64 mp) = w8 at FIN e0 e1 ⊢
  exact bodyPost_ret (v := .tuple #[.agg #[.int .i64 mi, .float .f64 mp], .int .i64 0]) (by simp [results, Try.results23, go_sem, e0, e1]) rfl FIN.out
end Go.Proofs.Ytegloiojhimoeaa
