/- The contract of the document's List. No statement of the seat is proved here. -/
import Derived.Test.YtegloiojhimoeaaQRefC
namespace Go.Proofs.Ytegloiojhimoeaa
open Go.RowKit

def OutR (X : Nat → Prop) (w : World) (v : Value) (M : List Wt) : Prop := w.ownsRow 0 60 2 v M.length (cellsE M) ∧ ∀ k, v.ownBlock = some k → X k
theorem OutR.kp {X : Nat → Prop} {w w' : World} {v : Value} {M : List Wt} (h : OutR X w v M) (kp : Kp X w w') : OutR X w' v M :=
  ⟨ownsRow_keep h.1 (fun k hk => by
    obtain ⟨_, h2⟩ := World.ownsRow.lt h.1 k hk
    have e : w.heap[k]? = some w.heap[k] := Array.getElem?_eq_getElem h2
    rw [kp.keep k _ (h.2 k hk) e, e]), h.2⟩
theorem OutR.below {X : Nat → Prop} {w w' : World} {v : Value} {M : List Wt} (h : OutR X w v M) (hb : Below w.heap.size w w') : OutR X w' v M := ⟨ownsRow_below h.1 hb, h.2⟩
/-- one more at the end of the list, beside a queue that is not touched -/
theorem out_push {X : Nat → Prop} {B : Nat} {w : World} {v : Value} {M S' : List Wt} {cb : Nat} (h : OutR X w v M) (hr : RAt X w cb S') (x : Wt) (hl : M.length ≤ 10000) (hB : ∀ k, v.ownBlock = some k → B ≤ k) (hBw : B ≤ w.heap.size) :
    ∃ ao cap w', (Builtin.append_ #[27, 27] 27 #[v, .slice (some ⟨w.heap.size, 0, none⟩) 1 1]).run Try.prog (w.alloc (.cells #[.int .i64 x.id, .float .f64 x.pr] 60)) = .ok (.slice ao (M.length + 1) cap) w' ∧
      OutR (fun k => X k ∨ (w.heap.size ≤ k ∧ k < w'.heap.size)) w' (.slice ao (M.length + 1) cap) (M ++ [x]) ∧ RAt (fun k => X k ∨ (w.heap.size ≤ k ∧ k < w'.heap.size)) w' cb S' ∧ Below B w w' ∧ (∀ k, (Value.slice ao (M.length + 1) cap).ownBlock = some k → B ≤ k) := by
  obtain ⟨i0, hi0, hz0, hz1, hz2⟩ := infoR
  have o0 : w.ownsRow B 60 2 v M.length (cellsE M) := ownsRow_base h.1 hB
  have o1 := World.ownsRow.alloc o0 (.cells #[.int .i64 x.id, .float .f64 x.pr] 60)
  obtain ⟨v', w3, hrr, o3, hbel, hs3, hgr⟩ := own_push (t := 27) (ty := 27) Try.underlying27 hi0 hz0 hz1 hz2 rfl (by decide) o1 (b := w.heap.size) (ys := entC x) (heap_alloc_new w _) rfl (by simp [entC, Value.oneCell']) (by omega) (by unfold maxLen; omega) (by simp; omega)
  obtain ⟨ao', cap', rfl, -, -⟩ := ownsRow_form o3
  rw [← cellsE_append] at o3
  have hs3' : w.heap.size + 1 ≤ w3.heap.size := by simpa using hs3
  refine ⟨ao', cap', w3, hrr, ⟨by rw [List.length_append]; exact ownsRow_base o3 (fun _ _ => Nat.zero_le _), fun k hk => ?_⟩, hr.keep (fun k o hx ho => ?_) (fun k hk e => ?_) (fun k e => ?_), ((Below.refl _ _).alloc hBw _).trans hbel, fun k hk => (World.ownsRow.lt o3 k hk).1⟩
  · have hlt := (World.ownsRow.lt o3 k hk).2
    rcases hgr.2.2 with e1 | ⟨k', hk', e1⟩
    · rw [e1] at hk; exact Or.inl (h.2 k hk)
    · rw [e1] at hk
      cases hk
      exact Or.inr ⟨by have : w.heap.size + 1 ≤ k := (by simpa using hk'); omega, hlt⟩
  · have hlt : k < w.heap.size := lt_of_heap ho
    rw [hgr.1 k (by simp; omega) (fun e => hx (h.2 k e.symm)), Below.heap_alloc _ _ _ hlt]; exact ho
  · rcases e with e | e
    · exact e
    · omega
  · rcases e with e | e
    · have := hr.lt k e; omega
    · exact e.2
def sliceLen : Value → Nat
  | .slice _ m _ => m
  | _ => 0
def ListR (S : List Wt) (w : World) (e : Ending) (w' : World) : Prop := ∃ ao cap M, e = .returned (.slice ao M.length cap) ∧ M.Perm S ∧ M.Pairwise (fun a b => a.ky < b.ky) ∧ w'.ownsRow w.heap.size 60 2 (.slice ao M.length cap) M.length (cellsE M) ∧ Below w.heap.size w w'
/-- what waits still, and what is out -/
structure Half (S out S' : List Wt) (pu : Nat) : Prop where
  perm : (out ++ S').Perm S
  srt : S'.Pairwise (fun a b => a.turn < b.turn)
  ids : S'.Pairwise (fun a b => a.id ≠ b.id)
  tu : ∀ x ∈ S', x.turn < pu
  ord : out.Pairwise (fun a b => a.ky < b.ky)
  ahead : ∀ a ∈ out, ∀ b ∈ S', a.ky < b.ky
theorem half_step {S out S' : List Wt} {pu b : Nat} (h : Half S out S' pu) (hpu : pu ≤ 4611686018427387904) (hb : Best S' S'.length b) : Half S (out ++ [at' S' b]) (S'.take b ++ S'.drop (b + 1)) pu := by
  have hm := best_min hb h.srt h.tu hpu
  have hd := cut_del hb.1 h.ids
  obtain ⟨hsp, -⟩ := split_at hb.1
  have hsub : ∀ y ∈ del S' (at' S' b).id, y ∈ S' ∧ y.id ≠ (at' S' b).id := fun y hy => by
    obtain ⟨a, c⟩ := List.mem_filter.1 hy
    exact ⟨a, by simpa using c⟩
  refine ⟨?_, ?_, ?_, ?_, ?_, ?_⟩
  · refine List.Perm.trans ?_ h.perm
    rw [List.append_assoc]
    refine List.Perm.append_left _ ?_
    conv => rhs; rw [hsp]
    rw [List.append_assoc, List.singleton_append]
    exact (List.perm_middle).symm
  · rw [hd]; exact h.srt.filter _
  · rw [hd]; exact h.ids.filter _
  · rw [hd]; exact fun x hx => h.tu x (hsub x hx).1
  · exact List.pairwise_append.2 ⟨h.ord, List.pairwise_singleton _ _, fun a ha c hc => by
      rw [List.mem_singleton] at hc; subst hc; exact h.ahead a ha _ hm.1⟩
  · rw [hd]
    intro a ha c hc
    obtain ⟨hc1, hc2⟩ := hsub c hc
    rcases List.mem_append.1 ha with ha | ha
    · exact h.ahead a ha c hc1
    · rw [List.mem_singleton] at ha
      subst ha
      have h1 := hm.2 c hc1
      have h2 : (at' S' b).ky ≠ c.ky := fun e => hc2 (by
        have := min_uniq h.srt h.tu hpu hm (m' := c) ⟨hc1, fun y hy => by rw [← e]; exact hm.2 y hy⟩
        rw [this])
      omega
set_option maxRecDepth 20000 in
set_option maxHeartbeats 3200000 in
theorem rlist_any {X : Nat → Prop} {w : World} {rb : Nat} {S : List Wt} {pu : Nat} (h : RAt X w rb S) (hl : S.length ≤ 10000) (hpr : ∀ x ∈ S, x.pr < 18446744073709551616) (srt : S.Pairwise (fun a b => a.turn < b.turn)) (ids : S.Pairwise (fun a b => a.id ≠ b.id)) (tu : ∀ x ∈ S, x.turn < pu) (hpu : pu ≤ 4611686018427387904) :
    Calls Try.prog 29 #[.pointer (some ⟨rb, 0, none⟩)] w (ListR S w) := by
  obtain ⟨ao, cap, c0, hcap, ho, hc⟩ := h.form
  have hgl := World.ownsRow.lt ho
  have o1 : (w.alloc (.cells #[] 60)).ownsRow w.heap.size 60 2 (.slice (some ⟨w.heap.size, 0, none⟩) 0 0) ([] : List Wt).length (cellsE []) := World.ownsRow_made w #[] 0 (Nat.le_refl _) (by simp [maxLen]) rfl
  have c0a : (w.alloc (.cells #[] 60)).cell? ⟨rb, 0, none⟩ = some (.slice ao S.length cap) := (((Below.refl w.heap.size w).alloc (Nat.le_refl _) _).cell (p := ⟨rb, 0, none⟩) (World.block_lt_of_cell? _ _ c0)).trans c0
  have hap : ∃ a1 k1 w2, (Builtin.append_ #[27, 27] 27 #[.slice (some ⟨w.heap.size, 0, none⟩) 0 0, .slice ao S.length cap]).run Try.prog (w.alloc (.cells #[] 60)) = .ok (.slice a1 S.length k1) w2 ∧ w2.ownsRow w.heap.size 60 2 (.slice a1 S.length k1) S.length (cellsE S) ∧ Below w.heap.size w w2 := by
    cases ao with
    | none =>
      have hS : S = [] := by
        rcases ho.2 with ⟨h', h2⟩ | ⟨g', cap', cur, h', _⟩
        · exact List.eq_nil_of_length_eq_zero h2
        · simp at h'
      subst hS
      obtain rfl : cap = 0 := by
        rcases ho.2 with ⟨h', h2⟩ | ⟨g', cap', cur, h', _⟩
        · simpa using h'
        · simp at h'
      refine ⟨some ⟨w.heap.size, 0, none⟩, 0, w.alloc (.cells #[] 60), ?_, o1, (Below.refl _ _).alloc (Nat.le_refl _) _⟩
      kernel_rfl
    | some a =>
      obtain ⟨g, rfl⟩ : ∃ g, a = ⟨g, 0, none⟩ := by
        rcases ho.2 with ⟨h', _⟩ | ⟨g', cap', cur, h', _⟩
        · simp at h'
        · simp only [Value.slice.injEq, Option.some.injEq, true_and] at h'; exact ⟨g', h'.1⟩
      have ho1 := World.ownsRow.alloc ho (.cells #[] 60)
      obtain ⟨a1, k1, w2, r1, o2, -, b2⟩ := own_app (a := ⟨g, 0, none⟩) (c := cap) o1 (B := S) rfl (fun j u hj => by
        have := cells_from ho1 rfl [] S [] (by simp) j u hj
        rw [Addr.add_mid]; simpa using this) (by simp; omega) (by simp)
      simp only [List.length_nil, Nat.zero_add, List.nil_append] at r1 o2
      exact ⟨a1, k1, w2, r1, o2, ((Below.refl _ _).alloc (Nat.le_refl _) _).trans b2⟩
  obtain ⟨a1, k1, w2, r1, o2, b2⟩ := hap
  have HR1 := Lib.hid r1
  have HH : Hid (Half S [] S pu) := ⟨by simp, srt, ids, tu, List.Pairwise.nil, by simp⟩
  have HP := Lib.hid hpr
  have O2 := Lib.hid (And.intro o2 b2)
  clear h hpr srt ids tu hc ho hgl o1 r1 o2 b2 hcap
  generalize hn : S.length = n at c0 c0a HR1 O2
  go_enter Try.func29, Try.ntmps29
  go_wp2_with (first | (with_reducible refine wpList_append_own rfl (.tmp 7) (.tmp 11) 27 27 rfl (.slice (some ⟨w.heap.size, 0, none⟩) 0 0) (.slice ao n cap) (.slice a1 n k1) rfl rfl HR1.out ?_) | (with_reducible refine wpList_box_row rfl 29 (.tmp 13) rfl #[.slice a1 n k1] rfl ?_))
  intro w3 hg3 hb3 hs3
  have hw2 := O2.out.2.size
  have r3 : RAt (fun k => k < w.heap.size) w3 w2.heap.size S :=
    ⟨fun k e => by omega, fun e => by omega, _, hg3, by rw [hn]; exact ownsRow_below (ownsRow_base O2.out.1 (fun _ _ => Nat.zero_le _)) hb3, fun k hk e => by have := (World.ownsRow.lt O2.out.1 k hk).1; omega⟩
  have b3 : Below w.heap.size w w3 := O2.out.2.trans (hb3.mono hw2)
  have R3 := Lib.hid (And.intro r3 b3)
  clear r3 b3 hg3 hb3 hs3 HR1 O2 c0 c0a
  go_wp2
  go_loopw [4] (fun tv wr => ∃ (Xc : Nat → Prop) (out S' : List Wt), RAt Xc wr w2.heap.size S' ∧ OutR Xc wr tv out ∧ Half S out S' pu ∧ (∀ k, k < w.heap.size → Xc k) ∧ (∀ k, tv.ownBlock = some k → w.heap.size ≤ k) ∧ Below w.heap.size w wr) (fun tv _ => n - sliceLen tv)
  case atStart => exact ⟨_, [], S, R3.out.1, ⟨World.ownsRow_nil _ _ _ _, fun k e => by cases e⟩, HH.out, fun _ e => e, (fun k e => by cases e), R3.out.2⟩
  case round =>
    clear R3 HH
    obtain ⟨Xc, out, S', hr, hout, hh, hX, hB, hbel⟩ := hrel
    obtain ⟨ao2, cap2, rfl, -, -⟩ := ownsRow_form hout.1
    obtain ⟨ao', cap', c0', -, -, -⟩ := hr.form
    have hpl := hh.perm.length_eq
    rw [List.length_append, hn] at hpl
    by_cases h0 : 0 < S'.length
    · have h0' : (0 : Int) < (S'.length : Int) := by omega
      have PO := Lib.hid (rpop_ok hr h0 (by omega) (fun x hx => HP.out x (hh.perm.mem_iff.1 (List.mem_append_right _ hx))))
      have H := Lib.hid (And.intro hout (And.intro hh (And.intro hX (And.intro hB hbel))))
      clear hr hout hh hX hB hbel
      go_wp2_with fail
      refine PO.out.mono ?_
      rintro e w4 ⟨b, rfl, hbest, r4, k4⟩
      obtain ⟨hout, hh, hX, hB, hbel⟩ := H.out
      have out4 := hout.kp k4
      have b4 := hbel.trans (k4.below hbel.size hX)
      have hh' := half_step hh hpu hbest
      generalize hxx : at' S' b = xx at hh'
      obtain ⟨mb, mi, mp, mt⟩ := xx
      have F4 := Lib.hid (And.intro r4 (And.intro out4 (And.intro b4 (And.intro hh' (And.intro hX hB)))))
      clear r4 k4 hout hh hX hB hbel out4 b4 hh' hbest PO H hxx c0'
      go_wp2_with (with_reducible refine wpList_alloc_row rfl 60 rfl #[.int .i64 0, .float .f64 0] (by kernel_rfl) ?_)
      intro w5 hg5 hb5 hs5
      obtain ⟨d0, g0, hst, hg6, -, hbl6⟩ := ent_storeR hg5 mi mp
      have b6 := hbl6 _ _ hb5 (Nat.le_refl _)
      have x0 := cell_row hg6 0 rfl
      have x1 := cell_row hg6 1 rfl
      obtain ⟨r4, out4, b4, hh', hX, hB⟩ := F4.out
      have r6 := r4.below b6
      have out6 := out4.below b6
      have b06 := b4.trans (b6.mono b4.size)
      clear hg6 hbl6 hg5 hb5 hs5 r4 out4 b4 F4 b6
      generalize hw6 : (w5.setCell ⟨w4.heap.size, 0, none⟩ (.int .i64 mi)).setCell ⟨w4.heap.size, 1, none⟩ (.float .f64 mp) = w6 at *
      clear hw6
      obtain ⟨ao3, cap3, w7, hr7, out7, r7, b7, hB7⟩ := out_push out6 r6 ⟨mb, mi, mp, mt⟩ (by omega) hB b06.size
      have FIN := Lib.hid (And.intro r7 (And.intro out7 (And.intro hh' (And.intro hX (And.intro hB7 (b06.trans b7))))))
      have HR7 := Lib.hid hr7
      clear hr7 r7 out7 hh' hX hB7 b06 b7 r6 out6 hB
      generalize hol : out.length = ol at *
      generalize hol1 : ol + 1 = ol1 at *
      go_wp2_with (with_reducible refine wpList_append_own rfl (.tmp 26) (.tmp 28) 27 27 rfl (.slice ao2 ol cap2) (.slice (some ⟨w6.heap.size, 0, none⟩) 1 1) (.slice ao3 ol1 cap3) rfl rfl HR7.out ?_)
      go_roundw
      case rel => exact ⟨_, _, _, FIN.out.1, FIN.out.2.1, FIN.out.2.2.1, fun k hk => Or.inl (FIN.out.2.2.2.1 k hk), FIN.out.2.2.2.2.1, FIN.out.2.2.2.2.2⟩
      case measure => simp [sliceLen]; omega
    · have h0' : ¬ ((0 : Int) < (S'.length : Int)) := by omega
      have hS' : S' = [] := List.eq_nil_of_length_eq_zero (by omega)
      have hF : ListR S w (.returned (.slice ao2 out.length cap2)) wr := ⟨ao2, cap2, out, rfl, by have := hh.perm; rw [hS'] at this; simpa using this, hh.ord, ownsRow_base hout.1 hB, hbel⟩
      have FIN := Lib.hid hF
      clear hF hr hout hh hX hB hbel hS'
      generalize out.length = ol at *
      generalize S'.length = sl at *
      go_wp2
      go_ret
      exact FIN.out
end Go.Proofs.Ytegloiojhimoeaa
