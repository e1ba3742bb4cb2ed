/- Equal lists; the law's alike. No statement of the seat is proved here. -/
import Derived.Test.YtkmaikmbjebjeaaDoorADoc5
namespace Go.Proofs.YtkmaikmbjebjeaaDoor
set_option maxRecDepth 20000
open Go.RowKit

theorem listN_le (f : Nat → Bool) (n : Nat) : (listN f n).length ≤ n := by rw [listN_length]; exact cnt_le _ _
set_option maxRecDepth 20000 in
set_option maxHeartbeats 1600000 in
theorem asame_any {w : World} {va vb : Value} {zs : List Int} {B1 B2 : Nat} (ha : OwnZ B1 w va zs) (hb : OwnZ B2 w vb zs) (hz : zs.length ≤ 4096) : Calls Tryd.prog 35 #[va, vb] w fun e w' => e = .returned (.bool true) ∧ Below w.heap.size w w' := by
  obtain ⟨ao, am, ac, rfl, hma⟩ := ha.form'
  obtain ⟨bo, bm, bc, rfl, hmb⟩ := hb.form'
  obtain ⟨m, hm⟩ : ∃ m, zs.length = m := ⟨_, rfl⟩
  have HM := Lib.hid hm
  obtain rfl : m = am := (hma.out.trans hm).symm
  obtain rfl : m = bm := (hmb.out.trans hm).symm
  have hlen : m ≤ 4096 := by rw [← hm]; exact hz
  clear hm hma hmb hz
  have HA := Lib.hid ha
  have HB := Lib.hid hb
  clear ha hb
  go_enter Tryd.func35, Tryd.ntmps35
  go_wp2
  go_loopw [5] (fun iv wr => ∃ k : Nat, k ≤ m ∧ iv = .int .i64 k ∧ OwnZ B1 wr (.slice ao m ac) zs ∧ OwnZ B2 wr (.slice bo m bc) zs ∧ Below w.heap.size w wr) (fun iv _ => m - (intOf iv).toNat)
  case atStart => exact ⟨0, Nat.zero_le _, rfl, HA.out, HB.out, Below.refl _ _⟩
  case round =>
    clear HA HB
    obtain ⟨k, hk, rfl, ha, hb, hw⟩ := hrel
    by_cases hlt : k < m
    · obtain ⟨-, g1, rfl, -, c1, -⟩ := ha.at (i := k) (by rw [HM.out]; exact hlt)
      obtain ⟨-, g2, rfl, -, c2, -⟩ := hb.at (i := k) (by rw [HM.out]; exact hlt)
      generalize zs.getD k 0 = z at c1 c2
      have FIN : Hid (OwnZ B1 wr.drew (.slice (some ⟨g1, 0, none⟩) m ac) zs ∧ OwnZ B2 wr.drew (.slice (some ⟨g2, 0, none⟩) m bc) zs ∧ Below w.heap.size w wr.drew) := Lib.hid ⟨ha, hb, hw.drew⟩
      clear ha hb hw
      go_wp2
      go_region
      all_goals
        go_wp2
        go_roundw
        case rel => exact ⟨k + 1, by omega, by go_num, FIN.out⟩
        case measure => simp [intOf]; omega
    · obtain rfl : k = m := by omega
      clear ha hb
      go_wp2
      go_ret
      exact ⟨rfl, hw⟩
def OwnN (base : Nat) (w : World) (v : Value) (m : Nat) : Prop := ∃ zs, zs.length = m ∧ OwnZ base w v zs
theorem OwnN.store {base : Nat} {w : World} {ao : Option Addr} {m c : Nat} (h : OwnN base w (.slice ao m c) m) {i : Nat} (hi : i < m) (x : Int) : ∃ g y, ao = some ⟨g, 0, none⟩ ∧ base ≤ g ∧ w.cell? ⟨g, i, none⟩ = some (.int .i64 y) ∧ w.frozen? ⟨g, i, none⟩ = false ∧ OwnN base (w.setCell ⟨g, i, none⟩ (.int .i64 x)) (.slice ao m c) m := by
  obtain ⟨zs, hl, ho⟩ := h
  subst hl
  obtain ⟨-, g, rfl, hg, cc, fz⟩ := ho.at hi
  refine ⟨g, _, rfl, hg, cc, fz, zs.set i x, by simp, ?_⟩
  have hs := (World.ownsRow.stored ho i (.int .i64 x)).1
  unfold OwnZ
  rw [List.length_set, List.map_set]
  exact hs
set_option maxRecDepth 20000 in
set_option maxHeartbeats 3200000 in
theorem alike_any {B : Nat} {w : World} {ab rb : Nat} {A : Al} (h : AlAt w ab A) (hT : tabG w) (r : RS B w rb A.n (stA A) A.k) (ok : A.Ok) : Calls Tryd.prog 24 #[.pointer (some ⟨ab, 0, none⟩), .pointer (some ⟨rb, 0, none⟩)] w fun e w' => e = .returned (.bool true) ∧ Below w.heap.size w w' := by
  have HA := Lib.hid h
  have HR := Lib.hid r
  have HOK := Lib.hid ok
  have HTT := Lib.hid hT
  have hu := used_any h hT
  clear h r ok hT
  go_enter Tryd.func24, Tryd.ntmps24
  go_wp2_with fail
  refine Calls.mono hu ?_
  rintro e w1 ⟨vu, rfl, ou, b1⟩
  have hl := leaving_any (HA.out.below b1) (HTT.out.mono b1)
  clear hu
  go_wp2_with fail
  refine Calls.mono hl ?_
  rintro e w2 ⟨vl, rfl, ol, b2⟩
  have ou2 := ou.below b2
  have bw2 := b1.trans (b2.mono b1.size)
  have hd1 := rlist_any (HR.out.below bw2) 1
  rw [list_used HOK.out] at hd1
  have s1 := b1.size
  have hus := Lib.hid (World.ownsRow.lt ou)
  clear hl ou b2
  go_wp2_with fail
  refine Calls.mono hd1 ?_
  rintro e w3 ⟨v3, rfl, o3, b3⟩
  have ou3 := ou2.below b3
  have ol3 := ol.below b3
  have bw3 := bw2.trans (b3.mono bw2.size)
  have hs1 := asame_any ou3 o3 (listN_le _ _)
  clear hd1 ou2 ol b3 bw2
  go_wp2_with fail
  refine Calls.mono hs1 ?_
  rintro e w4 ⟨rfl, b4⟩
  have ou4 := ou3.below b4
  have ol4 := ol3.below b4
  have bw4 := bw3.trans (b4.mono bw3.size)
  have hd2 := rlist_any (HR.out.below bw4) 2
  rw [list_leaving HOK.out] at hd2
  clear hs1 ou3 ol3 o3 b4 bw3
  go_wp2_with fail
  refine Calls.mono hd2 ?_
  rintro e w5 ⟨v5, rfl, o5, b5⟩
  have ou5 := ou4.below b5
  have ol5 := ol4.below b5
  have bw5 := bw4.trans (b5.mono bw4.size)
  have hs2 := asame_any ol5 o5 (listN_le _ _)
  clear hd2 ou4 ol4 b5 bw4
  go_wp2_with fail
  refine Calls.mono hs2 ?_
  rintro e w6 ⟨rfl, b6⟩
  have ou6 := ou5.below b6
  have ol6 := ol5.below b6
  have bw6 := bw5.trans (b6.mono bw5.size)
  have hf1 := free_any (HA.out.below bw6) HOK.out
  clear hs2 ou5 ol5 o5 b6 bw5
  go_wp2_with fail
  refine Calls.mono hf1 ?_
  rintro e w7 ⟨rfl, b7⟩
  have ou7 := ou6.below b7
  have ol7 := ol6.below b7
  have bw7 := bw6.trans (b7.mono bw6.size)
  have hf2 := dfree_any (HR.out.below bw7) HOK.out
  clear hf1 ou6 ol6 b7 bw6
  go_wp2_with fail
  refine Calls.mono hf2 ?_
  rintro e w8 ⟨rfl, b8⟩
  have ou8 := ou7.below b8
  have ol8 := ol7.below b8
  have bw8 := bw7.trans (b8.mono bw7.size)
  clear hf2 ou7 ol7 b8 bw7
  obtain ⟨uo, um, uc, rfl, hum⟩ := ou8.form'
  obtain ⟨lo, lm, lc, rfl, hlm⟩ := ol8.form'
  have nu : OwnN w.heap.size w8 (.slice uo um uc) um := ⟨_, hum.out.symm, ou8⟩
  have nl : OwnN w1.heap.size w8 (.slice lo lm lc) lm := ⟨_, hlm.out.symm, ol8⟩
  have hu4 : um ≤ 4096 := by rw [hum.out]; exact listN_le _ _
  have hl4 : lm ≤ 4096 := by rw [hlm.out]; exact listN_le _ _
  have hub : ∀ g, uo = some ⟨g, 0, none⟩ → g < w1.heap.size := fun g e => by
    subst e
    exact (hus.out g rfl).2
  clear ou8 ol8 hum hlm
  go_wp2
  go_loopw [8] (fun iv wr => ∃ k : Nat, k ≤ um ∧ iv = .int .i64 k ∧ OwnN w.heap.size wr (.slice uo um uc) um ∧ OwnN w1.heap.size wr (.slice lo lm lc) lm ∧ Below w.heap.size w wr) (fun iv _ => um - (intOf iv).toNat)
  case atStart => exact ⟨0, Nat.zero_le _, rfl, nu, nl, bw8⟩
  case round =>
    clear nu nl bw8
    obtain ⟨k, hk, rfl, nu, nl, hw⟩ := hrel
    by_cases hlt : k < um
    · obtain ⟨g, y, rfl, hg, cc, fz, n2⟩ := nu.store hlt (-7)
      have hg1 := hub g rfl
      have nl2 : OwnN w1.heap.size (wr.setCell ⟨g, k, none⟩ (.int .i64 (-7))) (.slice lo lm lc) lm := by
        obtain ⟨zs, h1, h2⟩ := nl
        exact ⟨zs, h1, h2.setCell hg1 _ _⟩
      have hw2 : Below w.heap.size w (wr.setCell ⟨g, k, none⟩ (.int .i64 (-7))) := hw.setCell (p := ⟨g, k, none⟩) hg _
      clear nu nl hw
      go_wp2
      go_roundw
      case rel => exact ⟨k + 1, by omega, by go_num, n2, nl2, hw2⟩
      case measure => simp [intOf]; omega
    · obtain rfl : k = um := by omega
      obtain ⟨wo, rfl⟩ : ∃ x, x = wr := ⟨_, rfl⟩
      clear nu
      go_wp2
      go_loopw [9] (fun iv wr => ∃ i : Nat, i ≤ lm ∧ iv = .int .i64 i ∧ OwnN w1.heap.size wr (.slice lo lm lc) lm ∧ Below w.heap.size w wr) (fun iv _ => lm - (intOf iv).toNat)
      case atStart => exact ⟨0, Nat.zero_le _, rfl, nl, hw⟩
      case round =>
        clear nl hw
        obtain ⟨i, hi, rfl, nl, hw⟩ := hrel
        by_cases hlt : i < lm
        · obtain ⟨g, y, rfl, hg, cc, fz, n2⟩ := nl.store hlt (-8)
          have hw2 : Below w.heap.size w (wr.setCell ⟨g, i, none⟩ (.int .i64 (-8))) := hw.setCell (p := ⟨g, i, none⟩) (Nat.le_trans s1 hg) _
          clear nl hw
          go_wp2
          go_roundw
          case rel => exact ⟨i + 1, by omega, by go_num, n2, hw2⟩
          case measure => simp [intOf]; omega
        · obtain rfl : i = lm := by omega
          clear nl
          go_wp2
          go_ret
          exact ⟨rfl, hw⟩
end Go.Proofs.YtkmaikmbjebjeaaDoor
