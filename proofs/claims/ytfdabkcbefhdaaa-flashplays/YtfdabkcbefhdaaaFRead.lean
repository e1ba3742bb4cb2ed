/- The contracts of slices.Clone at bytes, of the statements' own bytes, and of the flash device's Read. No statement of the seat is proved here. -/
import Derived.Test.YtfdabkcbefhdaaaFCrash
namespace Go.Proofs.Ytfdabkcbefhdaaa
set_option maxRecDepth 20000
open Go.RowKit

/-- A slice of the call's own that holds bs. -/
def OwnB (base : Nat) (w : World) (v : Value) (bs : List UInt8) : Prop := w.ownsRow base 5 1 v bs.length (cellsB bs)
theorem OwnB.bytes {base : Nat} {w : World} {v : Value} {bs : List UInt8} (h : OwnB base w v bs) (hl : bs.length ≤ maxLen) : BytesAt w v bs := by
  rcases h.2 with ⟨h1, h2⟩ | ⟨g, cap, cur, hv, _, hg, _, _, _, htake⟩
  · exact ⟨none, 0, by rw [h1, h2], hl, fun h0 => by omega⟩
  · refine ⟨_, cap, hv, hl, fun h0 => ⟨g, 0, cur, (0, 0), rfl, hg, fun i hi => ?_⟩⟩
    have : (cellsB bs)[i]? = some (byteV (bs.getD i 0)) := by
      simp only [cellsB, List.getElem?_map, List.getElem?_eq_getElem hi, Option.map_some, List.getD_eq_getElem?_getD, Option.getD_some]
    rw [← htake, List.getElem?_take] at this
    split at this
    · simpa using this
    · cases this
theorem info5 : (Try.prog.info? 5).map (fun i => (i.zero, i.size, i.bytes)) = some (some (.int .u8 0), 1, 1) := by kernel_rfl

set_option maxHeartbeats 400000 in
theorem clone_any {w : World} (a : Addr) (n cap : Nat) (bs : List UInt8) (hn : bs.length = n) (hsrc : ∀ j v, (cellsB bs)[j]? = some v → w.cell? (a.add j) = some v) (h1 : n ≤ 100000) :
    Calls Try.prog 26 #[.slice (some a) n cap] w fun e w' => ∃ v, e = .returned v ∧ OwnB w.heap.size w' v bs ∧ Below w.heap.size w w' := by
  subst hn
  have HS := Lib.hid hsrc
  clear hsrc
  have heq := fun (n c : Nat) (x : Option Addr) (w : World) => Lib.run_eql_slice_nil (P := Try.prog) w 31 5 x n c 0 0 Try.underlying31
  obtain ⟨i0, hi0, hz0, hz1, hz2⟩ := info_parts info5
  go_enter Try.func26, Try.ntmps26
  go_wp2_with (at_builtin; refine wpList_append_own _ rfl (.tmp 5) (.tmp 6) 31 rfl w.heap.size 5 i0 (.int .u8 0) 1 1 Try.underlying31 hi0 hz0 hz1 hz2 rfl (by decide) _ 0 [] rfl ?own a bs.length cap (cellsB bs) rfl ?len ?src (oneCell_cellsB bs) ?b1 ?b2 ?b3 ?_)
  case own => exact World.ownsRow_made w #[] 0 (Nat.le_refl _) (by simp [maxLen]) rfl
  case len => simp [cellsB_length]
  case src => exact fun j u hj => (Below.cell ((Below.refl w.heap.size w).alloc (Nat.le_refl _) _) (World.block_lt_of_cell? w _ (HS.out j u hj))).trans (HS.out j u hj)
  case b1 => simp only [maxLen]; omega
  case b2 => omega
  case b3 => simp
  intro v' w1 hown hgr hnil
  have hbl : Below w.heap.size w w1 := ((Below.refl w.heap.size w).alloc (Nat.le_refl _) _).grown hgr (by simp) (fun k e => by cases e; exact Nat.le_refl _)
  have HO := Lib.hid hown
  clear hown hgr hnil
  go_wp2
  go_ret
  exact ⟨_, rfl, HO.out, hbl⟩

def newest (l : List (Int × List UInt8)) (i : Int) : Option (List UInt8) := l.foldl (fun acc p => if p.1 = i then some p.2 else acc) none
theorem newest_succ {l : List (Int × List UInt8)} {i : Int} {k : Nat} {p : Int × List UInt8} (h : l[k]? = some p) : newest (l.take (k + 1)) i = if p.1 = i then some p.2 else newest (l.take k) i := by
  have hk : k < l.length := (List.getElem?_eq_some_iff.1 h).1
  have hp : l[k] = p := (List.getElem?_eq_some_iff.1 h).2
  unfold newest
  rw [List.take_succ_eq_append_getElem hk, List.foldl_append, hp]
  rfl
def Dev.read (d : Dev) (i : Int) : List UInt8 × Int :=
  if d.has i = false then ([], 1) else if d.off = true then ([], 4) else match newest d.waits i with
    | some bs => (bs, 0)
    | none => if (d.last i).2 = true then ([], 3) else ((d.last i).1, 0)
theorem sec_at (p : List UInt8 × Bool) (j : Nat) (v : Value) (hj : (cellsB p.1)[j]? = some v) : (secCells p)[j]? = some v := by
  unfold secCells
  rw [List.getElem?_append_left (List.getElem?_eq_some_iff.1 hj).1]; exact hj
theorem sec_torn (p : List UInt8 × Bool) (hp : p.1.length = 256) : (secCells p).toArray[256]? = some (.bool p.2) := by
  simp only [List.getElem?_toArray, secCells]
  rw [List.getElem?_append_right (by rw [cellsB_length]; omega), cellsB_length, hp]; rfl
theorem secCells_one (p : List UInt8 × Bool) : ∀ u ∈ secCells p, u.oneCell' = true := by
  intro u hu
  rcases List.mem_append.1 hu with hu | hu
  · exact oneCell_cellsB _ u hu
  · rw [List.mem_singleton.1 hu]; rfl
theorem last_look {B : Nat} {w : World} {mv : Value} {f : Int → List UInt8 × Bool} {N : Nat} (h : LastIs B w mv f N) (i : Int) (hi : 0 ≤ i ∧ i < 4097) : (Instr.lookup 58 mv (.int .i64 i) false).run Try.prog w = .ok (secV (f i)) w := by
  have hz : (zeroValue 68).run Try.prog w = .ok (secV (zeros, false)) w := by kernel_rfl
  have hkey := Maps.keyOf_int_mk (k := 3) Try.underlying3 (a := i) (WalkArith.wf_i64 (by omega))
  rcases h with ⟨rfl, h0⟩ | ⟨mb, D, rfl, _, ho, _, hat⟩
  · rw [h0 i]; exact Maps.look_nil false keyed3 Try.underlying58 hz hkey
  · obtain ⟨v, ps, hrun, hv⟩ := ho.lookup keyed3 Try.underlying58 hz (secR_mk _) hkey
    rw [hat i] at hv
    rw [hrun, secR_inv hv]
theorem zero68 (w : World) : (zeroValue 68).run Try.prog w = .ok (.agg (secCells (zeros, false)).toArray) w := by kernel_rfl
theorem read_end {d : Dev} {i : Int} {r : List UInt8 × Int} (hr : d.read i = r) {w w' : World} {v : Value} (ho : OwnB w.heap.size w' v r.1) (hb : Below w.heap.size w w') :
    ∃ v', Ending.returned (.tuple #[v, .int .i64 r.2]) = .returned (.tuple #[v', .int .i64 (d.read i).2]) ∧ OwnB w.heap.size w' v' (d.read i).1 ∧ Below w.heap.size w w' := by
  rw [hr]; exact ⟨v, rfl, ho, hb⟩
theorem ownB_nil (base : Nat) (w : World) : OwnB base w (.slice none 0 0) [] := World.ownsRow_nil _ _ _ _

set_option maxHeartbeats 400000 in
theorem read_nil (w : World) (i : Int) : Calls Try.prog 13 #[.pointer none, .int .i64 i] w fun e w' => e = .returned (.tuple #[.slice none 0 0, .int .i64 1]) ∧ w = w' := by
  go_enter Try.func13, Try.ntmps13
  go_wp2_with (go_at_call 25; refine (has_nil _ _).mono ?_; rintro e w' ⟨rfl, rfl⟩)
  go_ret2
  exact ⟨rfl, rfl⟩

set_option maxHeartbeats 400000 in
set_option maxRecDepth 10000 in
theorem read_any {B : Nat} {w : World} {db : Nat} {d : Dev} {N : Nat} (h : DevAt B w db d N) (i : Int) (hlen : d.waits.length < 1000000) :
    Calls Try.prog 13 #[.pointer (some ⟨db, 0, none⟩), .int .i64 i] w fun e w' => ∃ v, e = .returned (.tuple #[v, .int .i64 (d.read i).2]) ∧ OwnB w.heap.size w' v (d.read i).1 ∧ Below w.heap.size w w' := by
  have hc := has_any h i
  obtain ⟨mv, sv, -, c1, c2, c3, -, -, -, hl, hrow⟩ := h.cells
  by_cases hh : d.has i = true
  · rw [hh] at hc
    have HC := Lib.hid hc
    by_cases ho : d.off = true
    · have HR : Hid (d.read i = ([], 4)) := by unfold Dev.read; rw [if_neg (by simp [hh]), if_pos ho]; exact rfl
      rw [ho] at c3
      clear hc hh ho hl hrow
      go_enter Try.func13, Try.ntmps13
      go_wp2_with fail
      refine HC.out.mono ?_
      rintro e w' ⟨rfl, rfl⟩
      go_wp2
      go_ret2
      exact read_end HR.out (ownB_nil _ _) (Below.refl _ _)
    · have ho' : d.off = false := by simpa using ho
      rw [ho'] at c3
      have HI : Hid (0 ≤ i ∧ i < d.size) := by simpa [Dev.has, Hid] using hh
      have HR : Hid (d.read i = match newest d.waits i with | some bs => (bs, 0) | none => if (d.last i).2 = true then ([], 3) else ((d.last i).1, 0)) := by
        show d.read i = _
        unfold Dev.read; rw [if_neg (by simp [hh]), if_neg (by simp [ho'])]
      obtain ⟨sa, cap, rfl⟩ := ownsRow_slice hrow
      clear hc hh ho ho'
      go_enter Try.func13, Try.ntmps13
      go_wp2_with fail
      refine HC.out.mono ?_
      rintro e w' ⟨rfl, rfl⟩
      go_wp2
      go_loop [6] (fun iv => ∃ k : Nat, k ≤ d.waits.length ∧ iv = .int .i64 ((k : Int) - 1) ∧ newest d.waits i = newest (d.waits.take k) i) (fun iv => (intOf iv + 1).toNat)
      case atStart => exact ⟨d.waits.length, Nat.le_refl _, rfl, by rw [List.take_of_length_le (Nat.le_refl _)]⟩
      case round =>
        obtain ⟨k, hk, rfl, hnew⟩ := hrel
        rcases k with _ | m
        · have hn0 : newest d.waits i = none := by rw [hnew]; rfl
          have HR2 : Hid (d.read i = if (d.last i).2 = true then ([], 3) else ((d.last i).1, 0)) := by show d.read i = _; rw [HR.out, hn0]
          clear hnew hn0
          have hll := h.ok.last i
          have hmem := HI.out
          have hsz := h.ok.size
          have HLK := Lib.hid (last_look hl i ⟨hmem.1, by omega⟩)
          generalize hq : d.last i = q at *
          have HQ := Lib.hid hq
          have hl0 : (secCells (zeros, false)).toArray.size = (secCells q).toArray.size := by rw [secCells_size _ zeros_length, secCells_size _ hll]
          have HZ2 := Lib.hid hl0
          have HZ3 := Lib.hid (all_oneCell_toArray (secCells_one q))
          have HZ5 : Hid ((Try.prog.info? 68).map (·.size) = some (secCells q).toArray.size) := by rw [secCells_size _ hll]; exact sz68
          clear hq hl hrow hl0 hmem
          by_cases ht : q.2 = true
          · have HR3 : Hid (d.read i = ([], 3)) := by show _ = _; rw [HR2.out, if_pos ht]
            have HT := Lib.hid ht
            clear ht
            go_wp2_with (first
              | (with_reducible refine wpList_lookup_eq rfl 58 (.tmp 48) (.tmp 49) false rfl mv (.int .i64 i) (secV q) rfl rfl HLK.out ?_)
              | (with_reducible refine wpList_alloc_row rfl 68 rfl (secCells (zeros, false)).toArray (zero68 _) ?_; intro w2 hg2 hb2 hs2)
              | (with_reducible refine wpList_store_row rfl 68 (.tmp 7) (.tmp 50) rfl w.heap.size 68 (secCells (zeros, false)).toArray (secCells q).toArray rfl rfl hg2 HZ5.out HZ2.out HZ3.out ?_; intro w3 hg3 hgr3 hs3; have hb3 := Below.grown hb2 hgr3 (Nat.le_of_lt hs2) (fun k e => by cases e; exact Nat.le_refl _); have c0 := cell_row hg3 256 (v := .bool true) (by rw [← HT.out]; exact sec_torn q hll); have HG3 := Lib.hid hg3; clear hg3 hg2))
            go_ret2
            exact read_end HR3.out (ownB_nil _ _) hb3
          · have ht' : q.2 = false := by simpa using ht
            have HR3 : Hid (d.read i = (q.1, 0)) := by show _ = _; rw [HR2.out, if_neg ht]
            have HT := Lib.hid ht'
            clear ht ht'
            go_wp2_with (first
              | (with_reducible refine wpList_lookup_eq rfl 58 (.tmp 48) (.tmp 49) false rfl mv (.int .i64 i) (secV q) rfl rfl HLK.out ?_)
              | (with_reducible refine wpList_alloc_row rfl 68 rfl (secCells (zeros, false)).toArray (zero68 _) ?_; intro w2 hg2 hb2 hs2)
              | (with_reducible refine wpList_store_row rfl 68 (.tmp 7) (.tmp 50) rfl w.heap.size 68 (secCells (zeros, false)).toArray (secCells q).toArray rfl rfl hg2 HZ5.out HZ2.out HZ3.out ?_; intro w3 hg3 hgr3 hs3; have hb3 := Below.grown hb2 hgr3 (Nat.le_of_lt hs2) (fun k e => by cases e; exact Nat.le_refl _); have c0 := cell_row hg3 256 (v := .bool false) (by rw [← HT.out]; exact sec_torn q hll); have HG3 := Lib.hid hg3; clear hg3 hg2))
            refine (clone_any (w := w3) ⟨w.heap.size, 0, none⟩ 256 256 q.1 hll (fun j v hj => by rw [Addr.add_mid]; exact cell_row HG3.out _ (by simpa using sec_at q j v hj)) (by omega)).mono ?_
            rintro e w4 ⟨v, rfl, hown, hbl⟩
            have hsz3 : w.heap.size ≤ w3.heap.size := hb3.size
            have HO := Lib.hid (ownsRow_base hown (base' := w.heap.size) (fun k e => Nat.le_trans hsz3 (hown.lt k e).1))
            have hb4 := hb3.trans (hbl.mono hsz3)
            clear hown
            go_wp2
            go_ret2
            exact read_end HR3.out HO.out hb4
        · obtain ⟨p, hp⟩ : ∃ p, d.waits[m]? = some p := ⟨_, List.getElem?_eq_getElem (by omega)⟩
          obtain ⟨g, cap', cur, hsv, hg, hcur⟩ := row_at hrow h.ok.len hp
          simp only [Value.slice.injEq] at hsv
          obtain ⟨rfl, -, rfl⟩ := hsv
          have hca := cell_row hg (m * 257) (v := .int .i64 p.1) (by simpa using hcur 0 _ rfl)
          have hnx := newest_succ (i := i) hp
          rw [← hnew] at hnx
          have e1 : (((m + 1 : Nat) : Int) - 1) = (m : Int) := by omega
          rw [e1]
          have HP := Lib.hid hp
          have HG := Lib.hid hg
          have HCUR := Lib.hid hcur
          have HNX := Lib.hid hnx
          clear hp hg hcur hnx hnew e1 hl hrow
          have hpl : p.2.length = 256 := h.ok.len p (List.mem_of_getElem? HP.out)
          by_cases hpi : p.1 = i
          · have hpi' : (p.1 == i) = true := by simpa using hpi
            have HPI := Lib.hid hpi
            clear hpi
            have hcl := clone_any (w := w) ⟨g, m * 257 + 1, none⟩ 256 256 p.2 hpl (fun j v hj => by rw [Addr.add_mid]; exact cell_row HG.out _ (by rw [Nat.add_assoc]; exact HCUR.out _ _ (by have := wr_bytes p j v hj; simpa using this))) (by omega)
            have HCL := Lib.hid hcl
            clear hcl
            go_wp2_with fail
            refine HCL.out.mono ?_
            rintro e w1 ⟨v, rfl, hown, hbl⟩
            have HO := Lib.hid hown
            clear hown
            go_wp2
            go_ret2
            exact read_end (by rw [HR.out, HNX.out, if_pos HPI.out]) HO.out hbl
          · have hpi' : (p.1 == i) = false := by simpa using hpi
            go_wp2
            go_round
            case rel => exact ⟨m, by omega, by go_num, by rw [HNX.out, if_neg hpi]⟩
            case measure => simp [intOf]
  · have hh' : d.has i = false := by simpa using hh
    have HR : Hid (d.read i = ([], 1)) := by unfold Dev.read; rw [if_pos hh']; exact rfl
    rw [hh'] at hc
    have HC := Lib.hid hc
    clear hc hh hh' hl hrow
    go_enter Try.func13, Try.ntmps13
    go_wp2_with fail
    refine HC.out.mono ?_
    rintro e w' ⟨rfl, rfl⟩
    go_wp2
    go_ret2
    exact read_end HR.out (ownB_nil _ _) (Below.refl _ _)
end Go.Proofs.Ytfdabkcbefhdaaa
