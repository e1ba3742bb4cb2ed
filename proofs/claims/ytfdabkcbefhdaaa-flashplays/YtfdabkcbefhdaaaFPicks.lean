/- Writes to sectors of their own are lost, kept and torn each by its own pick alone: the law cisternlaw01.FlashPicks returns true at every input. No condition. -/
import Derived.Test.YtfdabkcbefhdaaaFNewest
import Derived.Laws.AppendOwnNone
namespace Go.Proofs.Ytfdabkcbefhdaaa
set_option maxRecDepth 20000
open Go.RowKit

/-- A copy of a slice of ints that came in: 'append([]int{}, xs...)'. -/
theorem info3 : (Try.prog.info? 3).map (fun i => (i.zero, i.size, i.bytes)) = some (some (.int .i64 0), 1, 8) := by kernel_rfl
theorem IntsArg.src {W w : World} {ao : Option Addr} {cap : Nat} {zs : List Int} (h : IntsArg W (.slice ao zs.length cap) zs) (hb : Below W.heap.size W w) {ad : Addr} (e : ao = some ad) : ∀ j u, (zs.map (Value.int .i64))[j]? = some u → w.cell? (ad.add j) = some u := by
  intro j u hj
  have hjl : j < zs.length := by have := (List.getElem?_eq_some_iff.1 hj).1; simpa using this
  obtain ⟨b, off, h1, h2⟩ := ArgRow.at h.1 hb hjl
  rw [e] at h1
  cases h1
  rw [Addr.add_mid, h2, ← hj]
  simp [List.getD_eq_getElem?_getD, hjl]
theorem wpList_copy_ints {W w : World} {ops : Array Oper} {rest : List Oper} {o : Oper} {a : Act} {Q : Exit → Act → World → Prop} (hgd : o.guard = none) (s x : Operand)
    (ho : o.op = .call { callee := .builtin .append, args := #[s, x], argTypes := #[40, 40] }) (base : Nat) {v : Value} {ao : Option Addr} {cap : Nat} {zs : List Int}
    (hs : a.eval s = v) (hown : w.ownsRow base 3 1 v 0 []) (hx : a.eval x = .slice ao zs.length cap) (h : IntsArg W (.slice ao zs.length cap) zs) (hb : Below W.heap.size W w) (hbase : base ≤ w.heap.size)
    (hK : ∀ v' w', w'.ownsRow base 3 1 v' zs.length (zs.map (Value.int .i64)) → w.grownBy w' v.ownBlock → wpList Try.prog ops Q rest (a.put o.dst v') w') : wpList Try.prog ops Q (o :: rest) a w := by
  obtain ⟨i0, hi0, hz0, hz1, hz2⟩ := info_parts info3
  have hsz := h.2.2
  cases ao with
  | some ad =>
    refine wpList_append_own w hgd s x 40 ho base 3 i0 (.int .i64 0) 1 8 Try.underlying40 hi0 hz0 hz1 hz2 rfl (by decide) v 0 [] hs hown ad zs.length cap (zs.map (Value.int .i64)) hx (by simp) (h.src hb rfl) (fun u hu => by
      obtain ⟨z, _, rfl⟩ := List.mem_map.1 hu; rfl) (by unfold maxLen; omega) (by omega) hbase ?_
    intro v' w' h1 h2 _
    rw [Nat.zero_add, List.nil_append] at h1
    exact hK v' w' h1 h2
  | none =>
    obtain ⟨ao', cap', hv, _, h0, hc⟩ := h.1
    cases hv
    have hl : zs.length = 0 := by
      rcases Nat.eq_zero_or_pos zs.length with e | e
      · exact e
      · obtain ⟨b, off, h1, _⟩ := hc 0 e; cases h1
    have hzs : zs = [] := List.eq_nil_of_length_eq_zero hl
    subst hzs
    have hcap := h0 rfl
    subst hcap
    refine wpList_append_own_none hgd s x 40 ho base 3 i0 1 Try.underlying40 hi0 v 0 [] hs hown hx ?_
    exact hK v w hown ⟨rfl, rfl, rfl, Nat.le_refl _, fun _ _ _ => rfl⟩
/-- A slice of ints of one's own, and one that came in, as the device's calls take them. -/
theorem ints_own {K : Obj → Bool} {B base : Nat} {w : World} {v : Value} {zs : List Int} (h : w.ownsRow base 3 1 v zs.length (zs.map (Value.int .i64))) (hl : zs.length * 8 ≤ 140737488351232) (hK : ∀ cs, K (.cells cs 3 (0, 0)) = false) : Ints K B w v zs := by
  rcases h.2 with ⟨h1, h2⟩ | ⟨g, cap, cur, hv, _, hg, _, _, _, htake⟩
  · exact ⟨none, 0, by rw [h1, h2], by omega, fun i hi => by omega⟩
  · refine ⟨_, cap, hv, by omega, fun i hi => ⟨g, 0, _, rfl, hg, Or.inr (hK _), ?_⟩⟩
    rw [cell_of_row w g (0 + i) cur _ _ hg, Nat.zero_add]
    have hc : (zs.map (Value.int .i64))[i]? = some (.int .i64 (zs.getD i 0)) := by simp [List.getD_eq_getElem?_getD, hi]
    rw [← htake, List.getElem?_take, Nat.mul_one, if_pos hi] at hc
    simpa using hc
theorem IntsArg.ints {K : Obj → Bool} {W w : World} {v : Value} {zs : List Int} (h : IntsArg W v zs) (hb : Below W.heap.size W w) : Ints K W.heap.size w v zs := by
  obtain ⟨ao, cap, rfl, hl, h0, hc⟩ := h.1
  refine ⟨ao, cap, rfl, hl, fun i hi => ?_⟩
  obtain ⟨b, off, h1, h2, h3⟩ := hc i hi
  have e : W.heap[b]? = some W.heap[b] := Array.getElem?_eq_getElem h2
  exact ⟨b, off, W.heap[b], h1, (hb.block b h2).trans e, Or.inl h2, (hb.cell (p := ⟨b, off + i, none⟩) h2).trans h3⟩

end Go.Proofs.Ytfdabkcbefhdaaa
namespace Go.Proofs.Ytfdabkcbefhdaaa.flashPicks
open Go.RowKit
open Go.ChangeShapes Go.WideShapes Go.ChangeAt
open Go.Proofs.Ytfdabkcbefhdaaa.flashNewest (own ownB_made)

def wk (k : Nat) : List (Int × List UInt8) := (List.range k).map fun (j : Nat) => ((j : Int), bytesL (100 + (j : Int)) 256)
theorem wk_length (k : Nat) : (wk k).length = k := by simp [wk]
theorem wk_succ (k : Nat) : wk (k + 1) = wk k ++ [((k : Int), bytesL (100 + (k : Int)) 256)] := by simp [wk, List.range_succ]
theorem wk_at {k j : Nat} (h : j < k) : (wk k)[j]? = some ((j : Int), bytesL (100 + (j : Int)) 256) := by simp [wk, h]
def dP (k : Nat) : Dev := { Dev.fresh 32 with waits := wk k }
def what (zs : List Int) (i : Int) : List UInt8 × Bool := if pickOf zs i.toNat = 1 then (bytesL (100 + i) 256, false) else if pickOf zs i.toNat = 2 then (zeros, true) else (zeros, false)
theorem crash_last (m : Nat) (zs : List Int) (i : Int) : ∀ k, k ≤ m → ((dP m).apply (crashF zs) k).last i = if 0 ≤ i ∧ i < k then what zs i else (zeros, false)
  | 0, _ => by rw [if_neg (by omega)]; rfl
  | k + 1, h => by
    have hat : (dP m).waits[k]? = some ((k : Int), bytesL (100 + (k : Int)) 256) := wk_at (by omega)
    have ih := crash_last m zs i k (by omega)
    rw [apply_next hat]
    by_cases e : i = (k : Int)
    · subst e
      rw [if_pos (by omega)]
      unfold crashF what
      rw [if_neg (by omega)] at ih
      simp only [Int.toNat_natCast]
      by_cases h1 : pickOf zs k = 1
      · rw [if_pos h1, if_pos h1]; simp [Dev.keep, upd]
      · rw [if_neg h1, if_neg h1]
        by_cases h2 : pickOf zs k = 2
        · rw [if_pos h2, if_pos h2]; simp [Dev.keep, upd]
        · rw [if_neg h2, if_neg h2]; exact ih
    · have e2 : (if 0 ≤ i ∧ i < ((k + 1 : Nat) : Int) then what zs i else (zeros, false)) = if 0 ≤ i ∧ i < (k : Int) then what zs i else (zeros, false) := by
        by_cases hh : 0 ≤ i ∧ i < (k : Int)
        · rw [if_pos hh, if_pos (by omega)]
        · rw [if_neg hh, if_neg (by omega)]
      rw [e2, ← ih]
      split
      · simp [Dev.keep, upd, e]
      · rfl
theorem read_crash (m : Nat) (zs : List Int) (i : Int) (hi : 0 ≤ i ∧ i < 32) : ((dP m).crash zs).read i = if ((if i < m then what zs i else (zeros, false)) : List UInt8 × Bool).2 = true then ([], 3) else ((if i < m then what zs i else (zeros, false)).1, 0) := by
  obtain ⟨h1, h2, h3, _, _⟩ := crash_same (dP m) zs
  rw [read_free h3 (by rw [h2]; exact hi), h1]
  have hl : ((dP m).crash zs).last i = if i < m then what zs i else (zeros, false) := by
    show ((dP m).apply (crashF zs) (dP m).waits.length).last i = _
    have : (dP m).waits.length = m := wk_length m
    rw [this, crash_last m zs i m (Nat.le_refl _)]
    by_cases hh : i < m
    · rw [if_pos hh, if_pos ⟨hi.1, hh⟩]
    · rw [if_neg hh, if_neg (fun x => hh x.2)]
  rw [hl]
  rfl

theorem read_is {m : Nat} {zs : List Int} {j : Nat} (hj : j < 32) {p : List UInt8 × Bool} (hp : (if (j : Int) < m then what zs j else (zeros, false)) = p) {r : List UInt8 × Int} (hr : (if p.2 = true then ([], 3) else (p.1, 0)) = r) : ((dP m).crash zs).read j = r := by
  rw [read_crash m zs j (by omega), hp, hr]

set_option maxHeartbeats 1600000 in
set_option maxRecDepth 20000 in
theorem walk (v0 : Value) (z0 : List Int) (a1 : Int) (_w1 : (Lit.int .i64 a1).wf = true) (W : World) (w0 : IntsArg W v0 z0) :
    Calls Try.prog 6 #[v0, .int .i64 a1] W fun e w' => e = .returned (.bool true) ∧ Below W.heap.size W w' := by
  obtain ⟨ao, cap, rfl, hlen, -⟩ := w0.1.form
  go_enter Try.func6, Try.ntmps6
  go_wp2_with fail
  refine (known_any W).mono ?_
  rintro e wa ⟨rfl, ba⟩
  go_wp2_with fail
  obtain ⟨m, hm, en⟩ := mod_form a1 30 (by decide) (by decide)
  rw [en]
  clear en _w1
  refine (new_any W.heap.size wa 32 (by decide) (by decide) ba.size).mono ?_
  rintro e wb ⟨rfl, db, bb, -⟩
  have bc : Below W.heap.size W wb := ba.trans (bb.mono ba.size)
  go_wp2
  go_loopw [7] (fun iv wr => ∃ k : Nat, k ≤ m ∧ iv = .int .i64 k ∧ DevAt W.heap.size wr wa.heap.size (dP k) 0 ∧ Below W.heap.size W wr) (fun iv _ => m - (intOf iv).toNat)
  case atStart => exact ⟨0, Nat.zero_le _, rfl, db, bc⟩
  case round =>
    clear db bc ba bb
    obtain ⟨k, hk1, rfl, dk, bk⟩ := hrel
    have hl : (dP k).waits.length = k := wk_length k
    by_cases hlt : k < m
    · go_wp2_with fail
      refine (bytes0_any wr (100 + (k : Int)) (by omega)).mono ?_
      rintro e wd ⟨vd, rfl, od, bd⟩
      have hbl : (bytesL (100 + (k : Int)) 256).length = 256 := bytesL_length _ _
      have hwr := write_any (dk.below bd) k (od.bytes (by rw [hbl]; unfold maxLen; omega)) (by omega) (Nat.le_trans bk.size bd.size)
      have hw : (dP k).write k (bytesL (100 + (k : Int)) 256) = (0, dP (k + 1)) := by
        rw [write_free rfl rfl (by show 0 ≤ (k : Int) ∧ (k : Int) < (32 : Nat); omega) hbl]
        unfold dP; rw [wk_succ]
      rw [hw] at hwr
      go_wp2_with fail
      refine hwr.mono ?_
      rintro e we ⟨rfl, de, fe⟩
      have be := (bk.trans (bd.mono bk.size)).trans (fe.below (Nat.le_trans bk.size bd.size))
      clear hwr dk fe bk od bd hbl hw hl
      go_wp2
      go_roundw
      case rel => exact ⟨k + 1, by omega, by go_num, de, be⟩
      case measure => simp [intOf]; omega
    · obtain rfl : k = m := by omega
      have hpe : Calls Try.prog 19 #[.pointer (some ⟨wa.heap.size, 0, none⟩)] wr fun e w' => e = .returned (.int .i64 k) ∧ wr = w' := by
        have := pending_any dk
        rwa [hl] at this
      have HL := Lib.hid hl
      clear hl
      go_wp2_with fail
      refine hpe.mono ?_
      rintro e wr' ⟨rfl, rfl⟩
      clear hpe
      go_wp2_with (at_builtin; refine wpList_copy_ints (W := W) rfl (.tmp 46) (.tmp 47) rfl wr.heap.size rfl (World.ownsRow_made wr #[] 0 (Nat.le_refl _) (by simp [maxLen]) rfl) rfl w0 (bk.alloc bk.size _) (by simp) ?_)
      intro vp wp hop hgp
      have bp : Below wr.heap.size wr wp := ((Below.refl wr.heap.size wr).alloc (Nat.le_refl _) _).grown hgp (by simp) (fun k e => by cases e; exact Nat.le_refl _)
      have hip : Ints FK W.heap.size wp vp z0 := ints_own hop w0.2.2.1 (fun _ => rfl)
      have dp := dk.below bp
      have bW := bk.trans (bp.mono bk.size)
      clear hop hgp bp dk bk
      go_wp2_with fail
      refine (crash_any dp (by rw [HL.out]; unfold maxLen; omega) (by rw [HL.out]; omega) hip).mono ?_
      rintro e wq ⟨rfl, dq, fq⟩
      have bq := bW.trans (fq.below bW.size)
      clear hip dp bW fq
      go_wp2
      go_loopw [8] (fun iv wr => ∃ j : Nat, j ≤ 32 ∧ iv = .int .i64 j ∧ DevAt W.heap.size wr wa.heap.size ((dP k).crash z0) (0 + (dP k).waits.length) ∧ Below W.heap.size W wr) (fun iv _ => 32 - (intOf iv).toNat)
      case atStart => exact ⟨0, Nat.zero_le _, rfl, dq, bq⟩
      case round =>
        clear dq bq
        obtain ⟨j, hj1, rfl, dj, bj⟩ := hrel
        by_cases hj : j < 32
        · obtain ⟨i0, hi0, hz0, hz1, hz2⟩ := info_parts info5
          have hpr := pick_range z0 j
          by_cases hjk : j < k
          · rcases (show pickOf z0 j = 0 ∨ pickOf z0 j = 1 ∨ pickOf z0 j = 2 by omega) with hq | hq | hq
            · have hwh : what z0 (j : Int) = (zeros, false) := by unfold what; simp [hq]
              have hrd := read_any dj (j : Int) (by rw [(crash_same (dP k) z0).1]; simp)
              rw [read_is hj (show _ = what z0 j from if_pos (by omega)) (by rw [hwh])] at hrd
              go_wp2_with fail
              refine hrd.mono ?_
              rintro e wd ⟨vd, rfl, od, bd⟩
              have dd := dj.below bd
              have bW := bj.trans (bd.mono bj.size)
              clear hrd dj bd bj
              go_wp2_with fail
              refine (Pick_any (K := FK) (w0.ints bW) j (by omega)).mono ?_
              rintro e wd' ⟨rfl, rfl⟩
              rw [hq]
              clear hq hwh hpr
              go_wp2_with (at_make; refine wpList_make_full _ rfl (.const (.int .i64 256)) (.const (.int .i64 256)) 31 rfl wd.heap.size 5 i0 (.int .u8 0) 1 Try.underlying31 hi0 hz0 hz1 .i64 .i64 _ _ 256 rfl rfl rfl rfl ?b2 (by unfold maxLen; decide) (Nat.le_refl _) ?_)
              case b2 => first | (rw [hz2]; decide) | decide
              intro wm om gm
              have bm : Below wd.heap.size wd wm := (Below.refl _ _).grown gm (Nat.le_refl _) (fun k e => by cases e)
              have hcm := run_string (ownB_made om)
              have hcd := run_string (row_keep (K := fun _ => false) (B' := 0) od (Fr.of_below bm) (fun _ => rfl))
              have dm := dd.below bm
              have bM := bW.trans (bm.mono bW.size)
              clear om gm bm dd bW od
              go_wp2
              go_roundw
              case rel => exact ⟨j + 1, by omega, by go_num, dm, bM⟩
              case measure => simp [intOf]; omega
            · have hwh : what z0 (j : Int) = (bytesL (100 + (j : Int)) 256, false) := by unfold what; simp [hq]
              have hrd := read_any dj (j : Int) (by rw [(crash_same (dP k) z0).1]; simp)
              rw [read_is hj (show _ = what z0 j from if_pos (by omega)) (by rw [hwh])] at hrd
              go_wp2_with fail
              refine hrd.mono ?_
              rintro e wd ⟨vd, rfl, od, bd⟩
              have dd := dj.below bd
              have bW := bj.trans (bd.mono bj.size)
              clear hrd dj bd bj
              go_wp2_with fail
              refine (Pick_any (K := FK) (w0.ints bW) j (by omega)).mono ?_
              rintro e wd' ⟨rfl, rfl⟩
              rw [hq]
              clear hq hwh hpr
              go_wp2_with (at_make; refine wpList_make_full _ rfl (.const (.int .i64 256)) (.const (.int .i64 256)) 31 rfl wd.heap.size 5 i0 (.int .u8 0) 1 Try.underlying31 hi0 hz0 hz1 .i64 .i64 _ _ 256 rfl rfl rfl rfl ?b2 (by unfold maxLen; decide) (Nat.le_refl _) ?_)
              case b2 => first | (rw [hz2]; decide) | decide
              intro wm om gm
              have bm : Below wd.heap.size wd wm := (Below.refl _ _).grown gm (Nat.le_refl _) (fun k e => by cases e)
              have hcm := run_string (ownB_made om)
              have hcd := run_string (row_keep (K := fun _ => false) (B' := 0) od (Fr.of_below bm) (fun _ => rfl))
              have dm := dd.below bm
              have bM := bW.trans (bm.mono bW.size)
              clear om gm
              go_wp2_with fail
              refine (bytes0_any wm (100 + (j : Int)) (by omega)).mono ?_
              rintro e wn ⟨vn, rfl, on, bn⟩
              have hcn := run_string on
              have hcd2 := run_string (row_keep (K := fun _ => false) (B' := 0) (row_keep (K := fun _ => false) (B' := 0) od (Fr.of_below bm) (fun _ => rfl)) (Fr.of_below bn) (fun _ => rfl))
              have dn := dm.below bn
              have bN := bM.trans (bn.mono bM.size)
              clear dm bM bn on bm dd bW od hcd hcm
              go_wp2
              go_roundw
              case rel => exact ⟨j + 1, by omega, by go_num, dn, bN⟩
              case measure => simp [intOf]; omega
            · have hwh : what z0 (j : Int) = (zeros, true) := by unfold what; simp [hq]
              have hrd := read_any dj (j : Int) (by rw [(crash_same (dP k) z0).1]; simp)
              rw [read_is hj (show _ = what z0 j from if_pos (by omega)) (by rw [hwh])] at hrd
              go_wp2_with fail
              refine hrd.mono ?_
              rintro e wd ⟨vd, rfl, od, bd⟩
              have dd := dj.below bd
              have bW := bj.trans (bd.mono bj.size)
              clear hrd dj bd bj
              go_wp2_with fail
              refine (Pick_any (K := FK) (w0.ints bW) j (by omega)).mono ?_
              rintro e wd' ⟨rfl, rfl⟩
              rw [hq]
              obtain ⟨sa, sc, rfl⟩ := ownsRow_slice od
              clear hq hwh hpr od
              go_wp2
              go_roundw
              case rel => exact ⟨j + 1, by omega, by go_num, dd, bW⟩
              case measure => simp [intOf]; omega
          · have hrd := read_any dj (j : Int) (by rw [(crash_same (dP k) z0).1]; simp)
            rw [read_is hj (show _ = (zeros, false) from if_neg (by omega)) rfl] at hrd
            go_wp2_with fail
            refine hrd.mono ?_
            rintro e wd ⟨vd, rfl, od, bd⟩
            have dd := dj.below bd
            have bW := bj.trans (bd.mono bj.size)
            clear hrd dj bd bj
            go_wp2_with fail
            refine (Pick_any (K := FK) (w0.ints bW) j (by omega)).mono ?_
            rintro e wd' ⟨rfl, rfl⟩
            clear hpr
            go_wp2_with (at_make; refine wpList_make_full _ rfl (.const (.int .i64 256)) (.const (.int .i64 256)) 31 rfl wd.heap.size 5 i0 (.int .u8 0) 1 Try.underlying31 hi0 hz0 hz1 .i64 .i64 _ _ 256 rfl rfl rfl rfl ?b2 (by unfold maxLen; decide) (Nat.le_refl _) ?_)
            case b2 => first | (rw [hz2]; decide) | decide
            intro wm om gm
            have bm : Below wd.heap.size wd wm := (Below.refl _ _).grown gm (Nat.le_refl _) (fun k e => by cases e)
            have hcm := run_string (ownB_made om)
            have hcd := run_string (row_keep (K := fun _ => false) (B' := 0) od (Fr.of_below bm) (fun _ => rfl))
            have dm := dd.below bm
            have bM := bW.trans (bm.mono bW.size)
            clear om gm bm dd bW od
            go_wp2
            go_roundw
            case rel => exact ⟨j + 1, by omega, by go_num, dm, bM⟩
            case measure => simp [intOf]; omega
        · obtain rfl : j = 32 := by omega
          go_wp2
          go_ret
          exact ⟨rfl, bj⟩

/-! ### the row -/
theorem laidOut : laidOutB Try.prog = true := by kernel_rfl
theorem bytesInt : Try.prog.bytesOf 3 = 8 := by kernel_rfl
set_option maxRecDepth 100000 in
theorem lifted (os : Os) (started : os.Started) (H : Type) (enc : TypeId × Value → H) :
    ReturnsInHanded {} Try.checked os 6 .any (Rows.flashPicksSpec.pre6 enc Try.prog Try.f6 Rows.flashPicksRow.domain false) (Rows.flashPicksSpec.post enc Try.prog Try.f6 false true false false) := by
  refine returnsInHanded_of_change_sized (C := Try.checked) own started (by kernel_rfl) Try.func6
    (ChangeSpec.witness6 (enc := enc) (C := Try.checked) false ⟨#[], #[.slice none 0 0, .int .i64 0], []⟩ 8 (by kernel_rfl) (by kernel_rfl) (by kernel_rfl) (by kernel_rfl)) ?_
  intro W base args ds gs before hval0 hW hcnd hsz0 _
  have hval : ∀ (j : Nat) t v, Try.f6.params[j]? = some t → args[j]? = some v → Value.okWide Try.prog W .any base t v := hval0
  have hW' := hW
  obtain ⟨p, q, hA0, hV, rfl, hfz, hnd⟩ := hW
  have hA : DataW.TrodAll enc Try.prog W 0 (fun _ => true) true Try.f6.params.toList args.toList ds p := hA0
  have hsz : (DataW.weightsEach Try.prog (Try.f6.params.toList ++ Rows.flashPicksSpec.plain.varTypes Try.prog) (ds ++ gs)).all (· ≤ reachBytes) = true := hsz0
  rw [Try.params6] at hA hval hsz
  obtain ⟨v0, vs0, d0, ds0, p0, q0, hargs, rfl, rfl, h0, r0⟩ := trodAll_cons hA
  obtain ⟨v1, vs1, d1, ds1, p1, q1, rfl, rfl, rfl, h1, r1⟩ := trodAll_cons r0
  obtain ⟨rfl, rfl, rfl⟩ := trodAll_nil r1
  obtain rfl : args = #[v0, v1] := by cases args; simp_all
  obtain ⟨rfl, rfl⟩ := trodVars_none hV
  have k0 := h0
  have lt0 := args_lt k0
  obtain ⟨z0, w0⟩ := ints_arg Try.underlying40 Try.underlying3 (by kernel_rfl) (hval 0 40 v0 rfl rfl) (fun el sp e => by subst e; have := sized_slice hsz (j := 0) (t := 40) (e := 3) rfl rfl Try.underlying40; rwa [bytesInt] at this) h0
  obtain ⟨a1, rfl, rfl, rfl, w1⟩ := open_int Try.underlying3 (hval 1 3 v1 rfl rfl) h1
  clear hA0 hval0 hsz0
  refine (walk v0 z0 a1 w1 W w0).mono fun e W' ⟨he, bel⟩ => ?_
  subst he
  exact ⟨_, rfl, _, _, _, [], _, [], hW', trodAll_mk1 (shut_bool Try.underlying4 _), (trodAll_cons_mk (Below.trod laidOut (by kernel_rfl) (of_decide_eq_true (by kernel_rfl)) k0 bel lt0) (trodAll_cons_mk (shut_int Try.underlying3 w1) trodAll_mk0)), rfl, bel.frame _, fun h => by cases h⟩

theorem over : Rows.flashPicksRow.holds Try.pinned (OpenSpec.ofChange Rows.flashPicksSpec) :=
  OpenClaim.holds_of_wide 6 Try.f6 rfl rfl rfl rfl rfl rfl rfl ⟨rfl, rfl, rfl, rfl, rfl⟩ rfl rfl rfl rfl rfl (by kernel_rfl) Try.func6 (by kernel_rfl)
    (of_decide_eq_true (by kernel_rfl)) (by unfold Func.isWrapper; first | (rw [if_pos (by decide +kernel)]; kernel_rfl) | (rw [if_neg (by decide +kernel)]; exact ⟨rfl, rfl⟩))
    (fun os started H enc _ => lifted os started H enc)
end Go.Proofs.Ytfdabkcbefhdaaa.flashPicks

namespace Go.Proofs.Ytfdabkcbefhdaaa
/-- The law returns true at every input. -/
theorem flashPicks_holds : Rows.FlashPicksSaid := flashPicks.over
end Go.Proofs.Ytfdabkcbefhdaaa

