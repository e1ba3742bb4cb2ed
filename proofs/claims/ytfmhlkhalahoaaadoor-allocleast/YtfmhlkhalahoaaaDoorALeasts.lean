/- The least free block is taken, each time: the law cisternlaw09.AllocLeast returns true at every input. Condition: the table of math/bits is as the program's text lays it (tied). -/
import Derived.Test.YtfmhlkhalahoaaaDoorALift
import Derived.Test.YtfmhlkhalahoaaaDoorARow
import Derived.Test.YtfmhlkhalahoaaaDoorTie
import Derived.Test.YtfmhlkhalahoaaaDoorCards
import Derived.SevenTiedAt
import Derived.Deep.CutRange
import Derived.Deep.Cut
namespace Go.Proofs.YtfmhlkhalahoaaaDoor.allocLeast
set_option maxRecDepth 20000
open Go.RowKit Go.ChangeShapes Go.WideShapes Go.ChangeAt

theorem own : ownKnob Tryd.prog.godebug = none := by kernel_rfl
/-- what was drawn so far: a list without repeats, its set -/
structure Drawn (n : Nat) (zs : List Int) (S : Nat → Bool) : Prop where
  inr : ∀ i, i < zs.length → inR n (zs.getD i 0) = true
  set : memK zs zs.length = S
  cnt : cnt S 4096 = zs.length
theorem memK_append (zs : List Int) (z : Int) : ∀ k, k ≤ zs.length → memK (zs ++ [z]) k = memK zs k
  | 0, _ => rfl
  | k + 1, h => by
    rw [memK, memK, memK_append zs z k (by omega), List.getD_eq_getElem?_getD, List.getElem?_append_left (by omega), ← List.getD_eq_getElem?_getD]
theorem Drawn.nil (n : Nat) : Drawn n [] (fun _ => false) := ⟨fun i hi => absurd hi (by simp), rfl, by rw [cnt_void]; rfl⟩
theorem Drawn.more {n : Nat} (hn : n ≤ 4096) {zs : List Int} {S : Nat → Bool} (h : Drawn n zs S) {b : Nat} (hb : b < n) (hS : S b = false) : Drawn n (zs ++ [(b : Int)]) (setB S b true) := by
  refine ⟨fun i hi => ?_, ?_, ?_⟩
  · by_cases e : i < zs.length
    · have := h.inr i e
      rw [List.getD_eq_getElem?_getD, List.getElem?_append_left e, ← List.getD_eq_getElem?_getD]; exact this
    · have : i = zs.length := by simp at hi; omega
      subst this
      rw [List.getD_eq_getElem?_getD, List.getElem?_append_right (Nat.le_refl _)]
      simp [inR]; omega
  · rw [List.length_append]
    show memK (zs ++ [(b : Int)]) (zs.length + 1) = _
    rw [memK, memK_append zs _ _ (Nat.le_refl _), h.set]
    have e : (zs ++ [(b : Int)]).getD zs.length 0 = (b : Int) := by
      rw [List.getD_eq_getElem?_getD, List.getElem?_append_right (Nat.le_refl _)]; simp
    rw [e]; rfl
  · rw [cnt_reset (by omega) hS, h.cnt, List.length_append]; rfl
/-- behind the blocks below b all are used -/
structure Left (n : Nat) (S : Nat → Bool) (b : Nat) (A : Al) : Prop where
  ok : A.Ok
  nn : A.n = n
  uu : ∀ j, j < n → A.u j = (S j || decide (j < b))
  ll : A.l = fun _ => false
  kk : A.k = 0
theorem Left.free {n : Nat} {S : Nat → Bool} {b : Nat} {A : Al} (h : Left n S b A) (hb : b < n) (hS : S b = false) : LeastF A b ∧ A.free ≠ 0 := by
  have hu : A.u b = false := by rw [h.uu b hb, hS]; simp
  refine ⟨⟨hu, by rw [h.ll], fun j hj => .inl (by rw [h.uu j (by omega), decide_eq_true hj]; simp)⟩, ?_⟩
  have h1 := h.ok.counts.1
  have h2 := cnt_reset (f := A.u) (b := b) (n := A.n) (by rw [h.nn]; exact hb) hu
  have h3 := cnt_le (setB A.u b true) A.n
  unfold Al.free
  rw [h.ll, cnt_void, h.kk]
  omega
theorem Left.take {n : Nat} {S : Nat → Bool} {b : Nat} {A : Al} (h : Left n S b A) (hb : b < n) (hS : S b = false) : Left n S (b + 1) (A.take b) := by
  obtain ⟨hl, hf⟩ := h.free hb hS
  refine ⟨(h.ok.take (by rw [h.nn]; exact hb) hl hf).1, h.nn, fun j hj => ?_, h.ll, h.kk⟩
  show setB A.u b true j = _
  unfold setB
  by_cases e : j = b
  · rw [if_pos e, decide_eq_true (by omega)]; simp
  · rw [if_neg e, h.uu j hj]
    congr 1
    exact decide_eq_decide.2 (by omega)
theorem Left.skip {n : Nat} {S : Nat → Bool} {b : Nat} {A : Al} (h : Left n S b A) (hS : S b = true) : Left n S (b + 1) A :=
  ⟨h.ok, h.nn, fun j hj => by
    rw [h.uu j hj]
    by_cases e : j = b
    · subst e; rw [hS]; simp
    · congr 1; exact decide_eq_decide.2 (by omega), h.ll, h.kk⟩
theorem Left.full {n : Nat} {S : Nat → Bool} {A : Al} (h : Left n S n A) : A.free = 0 ∧ cnt A.u 4096 = n := by
  have h1 := h.ok.counts.1
  have h2 := cnt_not A.u A.n
  have h3 : cnt (fun j => !A.u j) A.n = 0 := cnt_none (fun j hj => by rw [h.uu j (by rw [← h.nn]; exact hj), decide_eq_true (by rw [← h.nn]; exact hj)]; simp)
  have h4 := h.nn
  unfold Al.free
  rw [h.ll, cnt_void, h.kk]
  omega
set_option maxHeartbeats 6400000 in
set_option maxRecDepth 400000 in
theorem walk (v0 : Value) (z0 : List Int) (a1 : Int) (_ : (Lit.int .i64 a1).wf = true) (W : World) (w0 : IntsArg W v0 z0) (hT : tabG W) :
    Calls Tryd.prog 6 #[v0, .int .i64 a1] W fun e w' => e = .returned (.bool true) ∧ Below W.heap.size W w' := by
  obtain ⟨ao, cap, rfl, hlen, -⟩ := w0.1.form
  obtain ⟨a, ha, ea⟩ := mod_form a1 60 (by decide) (by decide)
  go_enter Tryd.func6, Tryd.ntmps6
  go_wp2_with fail
  refine (aknown_any hT).mono ?_
  rintro e wa ⟨rfl, ba⟩
  obtain ⟨n, hn⟩ : ∃ n : Nat, (1 : Int) + (a : Int) = n := ⟨1 + a, by omega⟩
  have hn1 : 1 ≤ n := by omega
  have hn60 : n ≤ 60 := by omega
  obtain ⟨ib, hib, hib0, hib1, hib2⟩ := infoBool'
  obtain ⟨wb, hmk, rb, bb⟩ := made_rowF wa 44 4 ib _ Tryd.underlying44 hib hib0 hib1 rfl n (by rw [hib2]; omega) (by omega)
  have bw := ba.trans (bb.mono ba.size)
  have hgB : wa.heap.size < wb.heap.size := rb.lt
  have hgW : W.heap.size ≤ wa.heap.size := ba.size
  have rb' : RowF wb wa.heap.size 4 n (fun j => .bool ((fun _ => false) j)) := rb
  clear ha bb ba
  have hwn : IntKind.u64.wrap (n : Int) = n := by rw [IntKind.wrap_u64]; omega
  go_wp2
  clear ea hn
  go_loopw [6, 7] (fun lv iv wr => ∃ (k : Nat) (zs : List Int) (S : Nat → Bool), k ≤ 60 ∧ k ≤ z0.length ∧ iv = .int .i64 k ∧ Hid (Drawn n zs S) ∧ zs.length ≤ k ∧ OwnZ wb.heap.size wr lv zs ∧ RowF wr wa.heap.size 4 n (fun j => .bool (S j)) ∧ Below W.heap.size W wr ∧ wb.heap.size ≤ wr.heap.size) (fun _ iv _ => z0.length - (intOf iv).toNat)
  case atStart => exact ⟨0, [], fun _ => false, Nat.zero_le _, Nat.zero_le _, rfl, Lib.hid (Drawn.nil n), Nat.le_refl _, OwnZ.nil _ _, rb', bw, Nat.le_refl _⟩
  case round =>
    clear rb rb' bw hmk
    obtain ⟨k, zs, S, hk60, hkl, rfl, hD, hzl, oz, rr, bw, sw⟩ := hrel
    obtain ⟨lo, lm, lc, hlv, hlm⟩ := oz.form'
    subst hlv
    by_cases hlt : k < z0.length ∧ k < 60
    · obtain ⟨hlt1, hlt2⟩ := hlt
      obtain ⟨b, off, rfl, hcell⟩ := w0.1.at bw hlt1
      generalize z0.getD k 0 = z at hcell
      obtain ⟨c, hc, ec⟩ := mod_form z n (by omega) (by omega)
      have hcn : c < n := by omega
      have hin := rr.cell hcn
      have hfz := rr.free c
      cases hS : S c
      · obtain ⟨v2, w2, hr2, o2, bl2⟩ := own_pushZ oz (c : Int) sw (by omega)
        have hbz := build_z (c : Int) wr
        have r2 := rr.below bl2 hgB
        have hin2 := r2.cell hcn
        have hfz2 := r2.free c
        have r3 := r2.set hcn (.bool true)
        have o3 := o2.setCell hgB c (.bool true)
        have b2w := bw.trans (bl2.mono (by omega))
        have b3 : Below W.heap.size W (w2.setCell ⟨wa.heap.size, c, none⟩ (.bool true)) := b2w.setCell (p := ⟨wa.heap.size, c, none⟩) hgW _
        have s3 : wb.heap.size ≤ (w2.setCell ⟨wa.heap.size, c, none⟩ (.bool true)).heap.size := by have := bl2.size; simp [World.setCell]; omega
        have r3' : RowF (w2.setCell ⟨wa.heap.size, c, none⟩ (.bool true)) wa.heap.size 4 n (fun j => .bool (setB S c true j)) := by
          obtain ⟨cs, q1, q2, q3⟩ := r3
          refine ⟨cs, q1, q2, fun j hj => ?_⟩
          rw [q3 j hj]
          unfold updF setB
          by_cases e : j = c <;> simp [e]
        have hD2 := Lib.hid (hD.out.more (by omega) hcn hS)
        have hzl2 : (zs ++ [(c : Int)]).length ≤ k + 1 := by rw [List.length_append]; simp; omega
        obtain ⟨lo2, lm2, lc2, hv2, hm2⟩ := o2.form'
        subst hv2
        have HR2 := Lib.hid hr2
        rw [hS] at hin hin2
        have FIN := Lib.hid (And.intro o3 (And.intro r3' (And.intro b3 s3)))
        clear hr2 o2 bl2 r2 r3 o3 b2w b3 s3 r3' oz rr bw hD hm2 hS sw
        go_wp2_with (first | (simp only [ec]) | with_reducible refine wpList_append_own rfl (.tmp 47) (.tmp 49) 22 22 rfl (.slice lo lm lc) (.slice (some ⟨wr.heap.size, 0, none⟩) 1 1) (.slice lo2 lm2 lc2) rfl rfl HR2.out ?_)
        go_roundw
        case rel => exact ⟨k + 1, _, _, by omega, by omega, by go_num, hD2, hzl2, FIN.out⟩
        case measure => simp [intOf]; omega
      · have r3 := rr.set hcn (.bool true)
        have o3 := oz.setCell hgB c (.bool true)
        have b3 : Below W.heap.size W (wr.setCell ⟨wa.heap.size, c, none⟩ (.bool true)) := bw.setCell (p := ⟨wa.heap.size, c, none⟩) hgW _
        have s3 : wb.heap.size ≤ (wr.setCell ⟨wa.heap.size, c, none⟩ (.bool true)).heap.size := by simp [World.setCell]; omega
        have r3' : RowF (wr.setCell ⟨wa.heap.size, c, none⟩ (.bool true)) wa.heap.size 4 n (fun j => .bool (S j)) := by
          obtain ⟨cs, q1, q2, q3⟩ := r3
          refine ⟨cs, q1, q2, fun j hj => ?_⟩
          rw [q3 j hj]
          unfold updF
          by_cases e : j = c <;> simp [e, hS]
        rw [hS] at hin
        have FIN := Lib.hid (And.intro o3 (And.intro r3' (And.intro b3 s3)))
        clear r3 o3 b3 s3 r3' oz rr bw hS sw
        go_wp2_with (simp only [ec])
        go_roundw
        case rel => exact ⟨k + 1, _, _, by omega, by omega, by go_num, hD, by omega, FIN.out⟩
        case measure => simp [intOf]; omega
    · have hcond : ¬ (k < z0.length) ∨ (k < z0.length ∧ ¬ k < 60) := by omega
      clear hlt
      have hgo : ∀ {Q : Prop}, (k < z0.length → ¬ k < 60 → Q) → (¬ k < z0.length → Q) → Q := fun h1 h2 => by
        rcases hcond with h | ⟨h, h'⟩
        · exact h2 h
        · exact h1 h h'
      clear hcond
      go_upto_region 7 with fail
      go_cut [30] from 23 to 53 (fun s wx => s = .bool false ∧ wx = wr)
      case first =>
        refine hgo (fun h1 h2 => ?_) (fun h1 => ?_)
        all_goals
          go_wp2
          go_meet
          exact ⟨by first | rfl | (simp; omega), rfl⟩
      case rest =>
        obtain ⟨rfl, rfl⟩ := hcut
        clear hgo
        have hnew := new_any (oz.reads (by omega)) hn1 (by omega : n ≤ 4096)
        have hrow := rr
        go_wp2_with fail
        refine Calls.mono hnew ?_
        rintro e w1 h1
        rcases h1 with ⟨-, ⟨i, hi, hbad⟩, -⟩ | ⟨-, b1, ⟨-, hlt⟩ | ⟨ab, rfl, hab, x1, -⟩⟩
        · rw [hD.out.inr i hi] at hbad; exact absurd hbad (by simp)
        · have := hD.out.cnt
          rw [← hD.out.set] at this
          omega
        have hab' : W.heap.size ≤ ab := Nat.le_trans bw.size hab
        have hgw := rr.lt
        have r1 := rr.below b1 hgw
        have bw1 := bw.trans (b1.mono bw.size)
        have hne : wa.heap.size ≠ ab := by omega
        have hset := hD.out.set
        have L0 : Left n S 0 (newA n zs zs.length) := ⟨(newA_ok hn1 (by omega) hD.out.inr).1, rfl, fun j hj => by
          show memK zs zs.length j = _
          rw [hset]; simp, rfl, rfl⟩
        have HL0 := Lib.hid L0
        generalize newA n zs zs.length = A0 at x1 HL0
        clear hnew oz bw rr hrow b1 hset L0 hD hab hgw
        go_wp2
        go_loopw [11] (fun iv wr => ∃ (b : Nat) (A : Al), b ≤ n ∧ iv = .int .i64 b ∧ Hid (Left n S b A) ∧ AlAt wr ab A ∧ RowF wr wa.heap.size 4 n (fun j => .bool (S j)) ∧ Below W.heap.size W wr) (fun iv _ => n - (intOf iv).toNat)
        case atStart => exact ⟨0, A0, Nat.zero_le _, rfl, HL0, x1, r1, bw1⟩
        case round =>
          clear x1 r1 bw1 HL0
          obtain ⟨b, A, hb, rfl, hL, xr, rr, bw⟩ := hrel
          by_cases hbn : b < n
          · have hin := rr.cell hbn
            cases hS : S b
            · rw [hS] at hin
              obtain ⟨hlf, hfr⟩ := hL.out.free hbn hS
              have htk := take_ok xr hL.out.ok (hT.mono bw) hfr (by rw [hL.out.nn]; exact hbn) hlf
              go_wp2_with fail
              refine Calls.mono htk ?_
              rintro e w4 ⟨rfl, x4, o4⟩
              have bw4 := bw.trans (o4.below hab' xr.lt)
              have r4 := rr.only o4 hne
              have HL4 := Lib.hid (hL.out.take hbn hS)
              clear htk o4 xr rr bw hin hlf hfr hL
              go_wp2
              go_roundw
              case rel => exact ⟨b + 1, A.take b, by omega, by go_num, HL4, x4, r4, bw4⟩
              case measure => simp [intOf]; omega
            · rw [hS] at hin
              have HL4 := Lib.hid (hL.out.skip hS)
              clear hL
              go_wp2
              go_roundw
              case rel => exact ⟨b + 1, A, by omega, by go_num, HL4, xr, rr, bw⟩
              case measure => simp [intOf]; omega
          · obtain rfl : b = n := by omega
            obtain ⟨hf, hcn⟩ := hL.out.full
            have htk := take_full xr hL.out.ok hf
            go_wp2_with fail
            refine Calls.mono htk ?_
            rintro e w4 ⟨rfl, b4⟩
            have x4 := xr.below b4
            have bw4 := bw.trans (b4.mono bw.size)
            have hfa := free_any x4 hL.out.ok
            rw [hf] at hfa
            clear htk b4 xr rr bw
            go_wp2_with fail
            refine Calls.mono hfa ?_
            rintro e w5 ⟨rfl, b5⟩
            have x5 := x4.below b5
            have bw5 := bw4.trans (b5.mono bw4.size)
            have hus := used_any x5 (hT.mono bw5)
            clear hfa b5 x4 bw4
            go_wp2_with fail
            refine Calls.mono hus ?_
            rintro e w6 ⟨v6, rfl, o6, b6⟩
            obtain ⟨ao6, m6, cap6, hv6, hm6⟩ := o6.form'
            subst hv6
            have bw6 := bw5.trans (b6.mono bw5.size)
            obtain rfl : m6 = b := by rw [hm6.out, listN_length]; exact hcn
            clear hus b6 x5 bw5 o6 hm6 hcn
            go_wp2
            go_ret
            exact ⟨rfl, bw6⟩

/-! ### the row -/
theorem laidOut : laidOutB Tryd.prog = true := by kernel_rfl
theorem bytesInt : Tryd.prog.bytesOf 3 = 8 := by kernel_rfl
set_option maxRecDepth 100000 in
theorem lifted (os : Os) (started : os.Started) (H : Type) (enc : TypeId × Value → H) :
    ReturnsInHanded {} Tryd.checked os 6 .any (fun w args => (Rows.allocLeastSpec.pre enc Tryd.prog Tryd.f6 [] false w args ∧ laidMetH Tryd.prog laidL w) ∧ sizedMet enc Tryd.prog Tryd.f6 (OpenSpec.ofChange Rows.allocLeastSpec) false w args) (Rows.allocLeastSpec.post enc Tryd.prog Tryd.f6 false true false false) := by
  refine returnsInHanded_of_change_and (C := Tryd.checked) (X := fun w _ => laidMetH Tryd.prog laidL w) (fun _ _ _ hh h => h.of_heap hh) own started (by kernel_rfl) Tryd.func6
    (ChangeSpec.witness_shaped (enc := enc) (C := Tryd.checked) (os := os) (X := fun w _ => laidMetH Tryd.prog laidL w) false (World.doorLaid Tryd.prog 14 os) #[.slice none 0 0, .int .i64 0] 8 rfl (World.shaped_of_RefB (by kernel_rfl) (by kernel_rfl)) (by kernel_rfl) (by kernel_rfl) (by kernel_rfl) (door_met os _)) ?_
  intro W base args ds gs before hval0 hW hcnd hsz0 hL _
  have hval : ∀ (j : Nat) t v, Tryd.f6.params[j]? = some t → args[j]? = some v → Value.okWide Tryd.prog W .any base t v := hval0
  have hW' := hW
  obtain ⟨p, q, hA0, hV, rfl, hfz, hnd⟩ := hW
  have hA : DataW.TrodAll enc Tryd.prog W 0 (fun _ => true) true Tryd.f6.params.toList args.toList ds p := hA0
  have hsz : (DataW.weightsEach Tryd.prog (Tryd.f6.params.toList ++ Rows.allocLeastSpec.plain.varTypes Tryd.prog) (ds ++ gs)).all (· ≤ reachBytes) = true := hsz0
  rw [Tryd.params6] at hA hval hsz
  obtain ⟨v0, vs0, d0, ds0, p0, q0, hargs, rfl, rfl, h0, r0⟩ := trodAll_cons hA
  obtain ⟨v1, vs1, d1, ds1, p1, q1, rfl, rfl, rfl, h1, r1⟩ := trodAll_cons r0
  obtain ⟨rfl, rfl, rfl⟩ := trodAll_nil r1
  obtain rfl : args = #[v0, v1] := by cases args; simp_all
  obtain ⟨rfl, rfl⟩ := trodVars_none hV
  have k0 := h0
  have lt0 := args_lt k0
  obtain ⟨z0, w0⟩ := ints_arg Tryd.underlying22 Tryd.underlying3 (by kernel_rfl) (hval 0 22 v0 rfl rfl) (fun el sp e => by subst e; have := sized_slice hsz (j := 0) (t := 22) (e := 3) rfl rfl Tryd.underlying22; rwa [bytesInt] at this) h0
  obtain ⟨a1, rfl, rfl, rfl, w1⟩ := open_int Tryd.underlying3 (hval 1 3 v1 rfl rfl) h1
  clear hA0 hval0 hsz0
  refine (walk v0 z0 a1 w1 W w0 (tab_of_laid hL)).mono fun e W' ⟨he, bel⟩ => ?_
  subst he
  exact ⟨_, rfl, _, _, _, [], _, [], hW', trodAll_mk1 (shut_bool Tryd.underlying4 _), (trodAll_cons_mk (Below.trod laidOut (by kernel_rfl) (of_decide_eq_true (by kernel_rfl)) k0 bel lt0) (trodAll_cons_mk (shut_int Tryd.underlying3 w1) trodAll_mk0)), rfl, bel.frame _, fun h => by cases h⟩

theorem over : Rows.allocLeastRow.holds Tryd.pinned (OpenSpec.ofChange Rows.allocLeastSpec) :=
  OpenClaim.holds_of_wide 6 Tryd.f6 rfl rfl rfl rfl rfl rfl rfl ⟨rfl, rfl, rfl, rfl, rfl⟩ rfl rfl rfl rfl rfl (by kernel_rfl) Tryd.func6 (by kernel_rfl)
    (of_decide_eq_true (by kernel_rfl)) (by unfold Func.isWrapper; first | (rw [if_pos (by decide +kernel)]; kernel_rfl) | (rw [if_neg (by decide +kernel)]; exact ⟨rfl, rfl⟩))
    (fun os started H enc _ => lifted os started H enc)
end Go.Proofs.YtfmhlkhalahoaaaDoor.allocLeast

namespace Go.Proofs.YtfmhlkhalahoaaaDoor
/-- The law returns true at every input at which the table of math/bits is as the program's text lays it; that tie is part of the card. -/
theorem allocLeast_holds : Rows.AllocLeastCardSaid :=
  Claim7.holds_tied_plain_at .later [] [.data] true Rows.allocLeastCard.stood.harness false
    allocLeast.over (fun _ h => by cases h) (by kernel_rfl) (fun _ h => by cases h) allocLeast_row_tie rfl ⟨rfl, rfl⟩ (by kernel_rfl) rfl
    (fun f fn hf hfn => by
      obtain rfl : f = 6 := Option.some.inj ((show Tryd.prog.funcNamed "cistern/cisternlaw09.AllocLeast" = some 6 by kernel_rfl).symm.trans hf) |>.symm
      obtain rfl : fn = Tryd.f6 := (Option.some.inj (Tryd.func6.symm.trans hfn)).symm
      exact ⟨by kernel_rfl, fun j t ht => by
        rw [Tryd.params6] at ht
        have hm : t ∈ [22, 3] := by simpa using Array.mem_of_getElem? ht
        have hall : ([22, 3].all fun u => !Tryd.prog.wantsStandIn u) = true := by kernel_rfl
        exact (show Tryd.prog.wantsStandIn t = false by simpa using List.all_eq_true.1 hall t hm)⟩)
    (by kernel_rfl)
end Go.Proofs.YtfmhlkhalahoaaaDoor

