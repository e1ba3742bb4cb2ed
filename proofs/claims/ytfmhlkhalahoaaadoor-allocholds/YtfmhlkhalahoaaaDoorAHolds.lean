/- No block is taken that is held, or that was given back and isn't settled; what is kept back may be taken when it is released: the law cisternlaw09.AllocHolds returns true at every input. Condition: the table of math/bits is as the program's text lays it (tied). -/
import Derived.Test.YtfmhlkhalahoaaaDoorAOps
import Derived.Test.YtfmhlkhalahoaaaDoorTie
import Derived.Test.YtfmhlkhalahoaaaDoorCards
import Derived.SevenTiedAt
import Derived.Deep.CutRange
import Derived.Deep.Cut
namespace Go.Proofs.YtfmhlkhalahoaaaDoor.allocHolds
set_option maxRecDepth 20000
open Go.RowKit Go.ChangeShapes Go.WideShapes Go.ChangeAt

theorem own : ownKnob Tryd.prog.godebug = none := by kernel_rfl
theorem atN {W : World} {b off pcap : Nat} {l : List OpQ} (h : OpsArg W (.slice (some ⟨b, off, Option.none⟩) l.length pcap) l) {k : Nat} (hk : k < l.length) {w : World} (hb : Below W.heap.size W w) : w.cell? ⟨b, off + k * 2, Option.none⟩ = some (.int .i64 (opAt l k).k) ∧ w.cell? ⟨b, off + k * 2 + 1, Option.none⟩ = some (.int .i64 (opAt l k).id) := by
  obtain ⟨b', off', e, -, c0, c⟩ := h.get hb hk
  injection e with e; injection e with e1 e2
  subst e1; subst e2; exact ⟨c0, c⟩
/-- the state of a block -/
def stA (A : Al) (j : Nat) : Int := if A.u j then 1 else if A.l j then 2 else 0
def fz (A : Al) (j : Nat) : Bool := !(A.u j || A.l j)
abbrev stV (A : Al) : Nat → Value := fun j => .int .i64 (stA A j)
theorem stA_zero (A : Al) (j : Nat) : fz A j = true → stA A j = 0 := by unfold fz stA; cases A.u j <;> cases A.l j <;> simp
theorem stA_not (A : Al) (j : Nat) : fz A j = false → (stA A j == 0) = false := by unfold fz stA; cases A.u j <;> cases A.l j <;> simp
structure St (n : Nat) (A : Al) (B : Int) : Prop where
  ok : A.Ok
  nn : A.n = n
  bk : B = (A.k : Nat)
theorem St.count {n : Nat} {A : Al} {B : Int} (h : St n A B) : ((cnt (fz A) n : Nat) : Int) - B = (A.free : Nat) := by
  obtain ⟨h1, h2⟩ := h.ok.counts
  have hs := h.ok.sum
  have hor := cnt_or (f := A.u) (g := A.l) h.ok.dis A.n
  have hnot := cnt_not (fun j => A.u j || A.l j) A.n
  have hn := h.nn
  have hb := h.bk
  have e : cnt (fz A) n = cnt (fun j => !(A.u j || A.l j)) A.n := by rw [hn]; rfl
  rw [e]
  unfold Al.free
  omega
theorem row_of {w : World} {g n : Nat} {f f' : Nat → Value} (h : RowF w g 3 n f) (e : ∀ j, j < n → f j = f' j) : RowF w g 3 n f' := by
  obtain ⟨cs, h1, h2, h3⟩ := h
  exact ⟨cs, h1, h2, fun j hj => (h3 j hj).trans (by rw [e j hj])⟩
theorem row_take {w : World} {g n b : Nat} {A : Al} (h : RowF w g 3 n (stV A)) (hb : b < n) : RowF (w.setCell ⟨g, b, none⟩ (.int .i64 1)) g 3 n (stV (A.take b)) :=
  row_of (h.set hb _) (fun j _ => by
    unfold updF
    by_cases e : j = b
    · subst e; rw [if_pos rfl]; simp [stV, stA, Al.take, setB]
    · rw [if_neg e]
      show Value.int .i64 (stA A j) = .int .i64 (stA (A.take b) j)
      congr 1
      unfold stA Al.take setB
      simp only [if_neg e])
theorem row_give {w : World} {g n b : Nat} {A : Al} (h : RowF w g 3 n (stV A)) (hb : b < n) : RowF (w.setCell ⟨g, b, none⟩ (.int .i64 2)) g 3 n (stV (A.give b)) :=
  row_of (h.set hb _) (fun j _ => by
    unfold updF
    by_cases e : j = b
    · subst e; rw [if_pos rfl]; simp [stV, stA, Al.give, setB]
    · rw [if_neg e]
      show Value.int .i64 (stA A j) = .int .i64 (stA (A.give b) j)
      congr 1
      unfold stA Al.give setB
      simp only [if_neg e])
/-- a row that is settled up to k -/
def stK (A : Al) (k : Nat) : Nat → Value := fun j => .int .i64 (if j < k then stA A.settle j else stA A j)
theorem settle_st (A : Al) (j : Nat) (h : stA A j ≠ 2) : stA A.settle j = stA A j := by
  revert h; unfold stA Al.settle; cases A.u j <;> cases A.l j <;> simp
theorem settle_st2 (A : Al) (j : Nat) (h : stA A j = 2) : stA A.settle j = 0 := by
  revert h; unfold stA Al.settle; cases A.u j <;> cases A.l j <;> simp
theorem stA_range (A : Al) (j : Nat) : stA A j = 0 ∨ stA A j = 1 ∨ stA A j = 2 := by
  unfold stA; cases A.u j <;> cases A.l j <;> simp
open Classical in
noncomputable def zerosR (w : World) (g n : Nat) : Nat := cnt (fun j => decide (w.cell? ⟨g, j, none⟩ = some (.int .i64 0))) n
theorem zerosR_eq {w : World} {g n : Nat} {A : Al} (h : RowF w g 3 n (stV A)) : zerosR w g n = cnt (fz A) n := by
  unfold zerosR
  refine cnt_congr (fun j hj => ?_)
  rw [h.cell hj]
  cases hf : fz A j
  · have := stA_not A j hf
    simp only [beq_eq_false_iff_ne, ne_eq] at this
    simp [stV, this]
  · have := stA_zero A j hf
    simp [stV, this]
theorem mixedH : Tryd.prog.follows .mixedOrders = true := mixed
set_option maxHeartbeats 12800000 in
set_option maxRecDepth 400000 in
theorem walk (a0 : Int) (_ : (Lit.int .i64 a0).wf = true) (v1 : Value) (z1 : List OpQ) (W : World) (w1 : OpsArg W v1 z1) (hT : tabG W) :
    Calls Tryd.prog 4 #[.int .i64 a0, v1] W fun e w' => e = .returned (.bool true) ∧ Below W.heap.size W w' := by
  obtain ⟨po, pcap, rfl, hplen⟩ := w1.form
  obtain ⟨a, ha, ea⟩ := mod_form a0 40 (by decide) (by decide)
  go_enter Tryd.func4, Tryd.ntmps4
  go_wp2_with fail
  refine (aknown_any hT).mono ?_
  rintro e wa ⟨rfl, ba⟩
  obtain ⟨n, hn⟩ : ∃ n : Nat, (1 : Int) + (a : Int) = n := ⟨1 + a, by omega⟩
  have hn1 : 1 ≤ n := by omega
  have hn60 : n ≤ 40 := by omega
  have hnew := new_any (ReadZ.nil wa) hn1 (by omega : n ≤ 4096)
  go_wp2_with fail
  clear ea hn ha
  refine Calls.mono hnew ?_
  rintro e w2 h1
  rcases h1 with ⟨-, ⟨i, hi, -⟩, -⟩ | ⟨-, b1, ⟨-, hlt⟩ | ⟨ab, rfl, hab, x1, -⟩⟩
  · exact absurd hi (by simp)
  · exact absurd hlt (by simp)
  replace x1 : AlAt w2 ab (newA n [] 0) := x1
  have ok1 : (newA n [] 0).Ok := (newA_ok hn1 (by omega) (zs := []) (k := 0) (fun i hi => by omega)).1
  have hst1 : St n (newA n [] 0) 0 := ⟨ok1, rfl, rfl⟩
  have hz1 : ∀ j, stV (newA n [] 0) j = .int .i64 0 := fun j => rfl
  have hab' : W.heap.size ≤ ab := Nat.le_trans ba.size hab
  have bw := ba.trans (b1.mono ba.size)
  obtain ⟨ii, hii, hii0, hii1, hii2⟩ := infoInt'
  obtain ⟨w3, hmk, r3, b3⟩ := made_rowF w2 22 3 ii _ Tryd.underlying22 hii hii0 hii1 rfl n (by rw [hii2]; omega) (by omega)
  have r3' : RowF w3 w2.heap.size 3 n (stV (newA n [] 0)) := row_of r3 (fun j _ => (hz1 j).symm)
  have x3 := x1.below b3
  have bw3 := bw.trans (b3.mono bw.size)
  have hgW : W.heap.size ≤ w2.heap.size := bw.size
  have hga : ab < w2.heap.size := x1.lt
  have hne : w2.heap.size ≠ ab := by omega
  generalize newA n [] 0 = A1 at *
  generalize hg : w2.heap.size = g at *
  have HST := Lib.hid hst1
  clear hnew b1 ba x1 ok1 r3 b3 hz1 hst1 bw
  have hwn : IntKind.u64.wrap (n : Int) = n := by rw [IntKind.wrap_u64]; omega
  go_wp2
  clear hmk
  go_loopw [8, 9] (fun bv iv wr => ∃ (k : Nat) (A : Al) (B : Int), k ≤ 150 ∧ k ≤ z1.length ∧ iv = .int .i64 k ∧ bv = .int .i64 B ∧ Hid (St n A B) ∧ AlAt wr ab A ∧ RowF wr g 3 n (stV A) ∧ Below W.heap.size W wr) (fun _ iv _ => z1.length - (intOf iv).toNat)
  case atStart => exact ⟨0, A1, 0, Nat.zero_le _, Nat.zero_le _, rfl, rfl, HST, x3, r3', bw3⟩
  case round =>
    clear x3 r3' bw3 HST
    obtain ⟨k, A, B, hk60, hkl, rfl, rfl, hS, xr, rr, bw⟩ := hrel
    by_cases hlt : k < z1.length ∧ k < 150
    · obtain ⟨hlt1, hlt2⟩ := hlt
      obtain ⟨ob, off, hoe, -, -, -⟩ := w1.get bw hlt1
      subst hoe
      obtain ⟨cK, cN⟩ := atN w1 hlt1 bw
      generalize (opAt z1 k).k = K at cK
      generalize (opAt z1 k).id = N at cN
      obtain ⟨m, hm, em⟩ := mod_form N n (by omega) (by omega)
      have hmn : m < n := by omega
      have hBn : 0 ≤ B ∧ B ≤ 4096 := by have := hS.out.bk; have := hS.out.ok.sum; have := hS.out.ok.n2; omega
      by_cases hK1 : K = 1
      · have hK := hK1
        subst hK
        have htk := take_any xr hS.out.ok (hT.mono bw)
        go_wp2_with (simp only [em])
        refine Calls.mono htk ?_
        rintro e w4 h4
        rcases h4 with ⟨hf, rfl, b4⟩ | ⟨c, hf, hc, hl, rfl, y4, o4⟩
        · have x4 := xr.below b4
          have r4 := rr.below b4 rr.lt
          have bw4 := bw.trans (b4.mono bw.size)
          have HS4 := hS
          clear htk b4 xr rr bw hS
          go_wp2
          skip
          go_loopw [14, 15] (fun fv jv wx => ∃ j : Nat, j ≤ n ∧ jv = .int .i64 j ∧ fv = .int .i64 (cnt (fz A) j : Nat) ∧ wx = w4) (fun _ jv _ => n - (intOf jv).toNat)
          case atStart => exact ⟨0, Nat.zero_le _, rfl, rfl, rfl⟩
          case round =>
            obtain ⟨j, hj, rfl, rfl, rfl⟩ := hrel
            have hcl := cnt_le (fz A) j
            by_cases hjn : j < n
            · have hce := r4.cell hjn
              have hsc : cnt (fz A) (j + 1) = cnt (fz A) j + (if fz A j then 1 else 0) := rfl
              cases hz : fz A j
              · have hne0 := stA_not A j hz
                rw [hz] at hsc
                have hsc' : cnt (fz A) (j + 1) = cnt (fz A) j := by simpa using hsc
                have HSC := Lib.hid hsc'
                simp only [stV] at hce
                generalize stA A j = sv at hce hne0
                generalize cnt (fz A) j = cc at hcl HSC
                clear hsc hsc'
                go_wp2
                go_roundw
                case rel => exact ⟨j + 1, by omega, by go_num, by rw [HSC.out], trivial⟩
                case measure => simp [intOf]; omega
              · have h0 := stA_zero A j hz
                simp only [stV, h0] at hce
                rw [hz] at hsc
                have hsc' : cnt (fz A) (j + 1) = cnt (fz A) j + 1 := by simpa using hsc
                have HSC := Lib.hid hsc'
                generalize cnt (fz A) j = cc at hcl HSC
                clear hsc hsc'
                go_wp2
                go_roundw
                case rel => exact ⟨j + 1, by omega, by go_num, by rw [HSC.out]; go_num, trivial⟩
                case measure => simp [intOf]; omega
            · obtain rfl : j = n := by omega
              have hcount := HS4.out.count
              have hfa := free_any x4 HS4.out.ok
              have hb4 : 0 ≤ B ∧ B ≤ 4096 := by have := HS4.out.bk; have := HS4.out.ok.sum; have := HS4.out.ok.n2; omega
              generalize cnt (fz A) j = cc at hcount hcl ⊢
              obtain ⟨F, hF⟩ : ∃ F, A.free = F := ⟨_, rfl⟩
              have HF := Lib.hid hF
              rw [hF] at hfa hcount
              have hq1 : ((F : Int) != (cc : Int) - B) = false := by rw [hcount]; simp
              have hF0 : ¬ (F : Int) < 0 := by omega
              have hB0 : ¬ B < 0 := by omega
              clear hF hcount
              go_wp2_with fail
              refine Calls.mono hfa ?_
              rintro e w5 ⟨rfl, b5⟩
              have x5 := x4.below b5
              have r5 := r4.below b5 r4.lt
              have bw5 := bw4.trans (b5.mono bw4.size)
              have hfa2 := free_any x5 HS4.out.ok
              rw [HF.out] at hfa2
              clear hfa b5 x4 r4 bw4
              go_wp2_with fail
              refine Calls.mono hfa2 ?_
              rintro e w6 ⟨rfl, b6⟩
              have x6 := x5.below b6
              have r6 := r5.below b6 r5.lt
              have bw6 := bw5.trans (b6.mono bw5.size)
              clear hfa2 b6 x5 r5 bw5
              go_wp2
              go_roundw
              case rel => exact ⟨k + 1, A, B, by omega, by omega, by go_num, rfl, HS4, x6, r6, bw6⟩
              case measure => simp [intOf]; omega
        · have hcn : c < n := by have := hS.out.nn; omega
          have ry := rr.only o4 hne
          have hce := ry.cell hcn
          have hc0 : stA A c = 0 := stA_zero A c (by unfold fz; rw [hl.1, hl.2.1]; rfl)
          simp only [stV, hc0] at hce
          have hfr := ry.free c
          have r4 := row_take ry hcn
          have bwy := bw.trans (o4.below hab' xr.lt)
          have bw4 : Below W.heap.size W (w4.setCell ⟨g, c, none⟩ (.int .i64 1)) := bwy.setCell (p := ⟨g, c, none⟩) hgW _
          have x4 : AlAt (w4.setCell ⟨g, c, none⟩ (.int .i64 1)) ab (A.take c) := y4.keep (Below.heap_setCell _ _ _ _ (show ab ≠ g by omega))
          have HS4 := Lib.hid (show St n (A.take c) B from ⟨(hS.out.ok.take hc hl hf).1, hS.out.nn, hS.out.bk⟩)
          clear htk o4 y4 ry xr rr bw bwy hS hc0 hl hf hc
          go_wp2
          skip
          go_loopw [14, 15] (fun fv jv wx => ∃ j : Nat, j ≤ n ∧ jv = .int .i64 j ∧ fv = .int .i64 (cnt (fz (A.take c)) j : Nat) ∧ wx = w4.setCell ⟨g, c, none⟩ (.int .i64 1)) (fun _ jv _ => n - (intOf jv).toNat)
          case atStart => exact ⟨0, Nat.zero_le _, rfl, rfl, rfl⟩
          case round =>
            obtain ⟨j, hj, rfl, rfl, rfl⟩ := hrel
            have hcl := cnt_le (fz (A.take c)) j
            by_cases hjn : j < n
            · have hce := r4.cell hjn
              have hsc : cnt (fz (A.take c)) (j + 1) = cnt (fz (A.take c)) j + (if fz (A.take c) j then 1 else 0) := rfl
              cases hz : fz (A.take c) j
              · have hne0 := stA_not (A.take c) j hz
                rw [hz] at hsc
                have hsc' : cnt (fz (A.take c)) (j + 1) = cnt (fz (A.take c)) j := by simpa using hsc
                have HSC := Lib.hid hsc'
                simp only [stV] at hce
                generalize stA (A.take c) j = sv at hce hne0
                generalize cnt (fz (A.take c)) j = cc at hcl HSC
                clear hsc hsc'
                go_wp2
                go_roundw
                case rel => exact ⟨j + 1, by omega, by go_num, by rw [HSC.out], trivial⟩
                case measure => simp [intOf]; omega
              · have h0 := stA_zero (A.take c) j hz
                simp only [stV, h0] at hce
                rw [hz] at hsc
                have hsc' : cnt (fz (A.take c)) (j + 1) = cnt (fz (A.take c)) j + 1 := by simpa using hsc
                have HSC := Lib.hid hsc'
                generalize cnt (fz (A.take c)) j = cc at hcl HSC
                clear hsc hsc'
                go_wp2
                go_roundw
                case rel => exact ⟨j + 1, by omega, by go_num, by rw [HSC.out]; go_num, trivial⟩
                case measure => simp [intOf]; omega
            · obtain rfl : j = n := by omega
              have hcount := HS4.out.count
              have hfa := free_any x4 HS4.out.ok
              have hb4 : 0 ≤ B ∧ B ≤ 4096 := by have := HS4.out.bk; have := HS4.out.ok.sum; have := HS4.out.ok.n2; omega
              generalize cnt (fz (A.take c)) j = cc at hcount hcl ⊢
              obtain ⟨F, hF⟩ : ∃ F, (A.take c).free = F := ⟨_, rfl⟩
              have HF := Lib.hid hF
              rw [hF] at hfa hcount
              have hq1 : ((F : Int) != (cc : Int) - B) = false := by rw [hcount]; simp
              have hF0 : ¬ (F : Int) < 0 := by omega
              have hB0 : ¬ B < 0 := by omega
              clear hF hcount
              go_wp2_with fail
              refine Calls.mono hfa ?_
              rintro e w5 ⟨rfl, b5⟩
              have x5 := x4.below b5
              have r5 := r4.below b5 r4.lt
              have bw5 := bw4.trans (b5.mono bw4.size)
              have hfa2 := free_any x5 HS4.out.ok
              rw [HF.out] at hfa2
              clear hfa b5 x4 r4 bw4
              go_wp2_with fail
              refine Calls.mono hfa2 ?_
              rintro e w6 ⟨rfl, b6⟩
              have x6 := x5.below b6
              have r6 := r5.below b6 r5.lt
              have bw6 := bw5.trans (b6.mono bw5.size)
              clear hfa2 b6 x5 r5 bw5
              go_wp2
              go_roundw
              case rel => exact ⟨k + 1, (A.take c), B, by omega, by omega, by go_num, rfl, HS4, x6, r6, bw6⟩
              case measure => simp [intOf]; omega
      · skip
        by_cases hK2 : K = 2
        · have hK := hK2
          subst hK
          have HSt := hS
          have hisB : isB A (m : Int) = true := decide_eq_true ⟨by omega, by have := hS.out.nn; omega⟩
          have hgv := give_any xr.drew hS.out.ok (m : Int)
          unfold giveR at hgv
          rw [hisB, if_neg (by simp)] at hgv
          simp only [Int.toNat_natCast] at hgv
          have hcell := rr.cell hmn
          cases hu : A.u m
          · rw [hu, if_pos rfl] at hgv
            have hne1 : (stA A m == 1) = false := by unfold stA; rw [hu]; cases A.l m <;> simp
            simp only [stV] at hcell
            generalize stA A m = sv at hcell hne1
            go_wp2_with (simp only [em])
            have hS : wr.drew.cell? ⟨g, m, none⟩ = some (.int .i64 sv) := hcell
            refine wp_region_held_drew (S := fun w' => w'.cell? ⟨g, m, none⟩ = some (.int .i64 sv)) mixed hS (fun _ => ?_)
            show wpAnyH _ _ _ _ _ 10 (Array.replicate 10 false) _ _
            refine wpAnyH_take_d 0 (some 87) (.pointer (some ⟨ab, 0, none⟩)) rfl (by kernel_rfl) (by kernel_rfl) (by kernel_rfl) (by kernel_rfl) rfl (fun _ _ _ h => h) (fun _ _ => by kernel_rfl) (by exact hS) ?_
            simp only [Act.put, List.setIfInBounds_toArray, List.set_cons_succ, List.set_cons_zero]
            refine wpAnyH_take_d 1 (some 88) (.int .i64 m) rfl (by kernel_rfl) (by kernel_rfl) (by kernel_rfl) (by kernel_rfl) rfl (fun _ _ _ h => h) (fun _ _ => by kernel_rfl) (by exact hS) ?_
            simp only [Act.put, List.setIfInBounds_toArray, List.set_cons_succ, List.set_cons_zero]
            refine wpAnyH_take_d 4 (some 91) (.slice (some ⟨g, 0, none⟩) n n) rfl (by kernel_rfl) (by kernel_rfl) (by kernel_rfl) (by kernel_rfl) rfl (fun _ _ _ h => h) (fun _ _ => by kernel_rfl) (by exact hS) ?_
            simp only [Act.put, List.setIfInBounds_toArray, List.set_cons_succ, List.set_cons_zero]
            refine wpAnyH_take_d 5 (some 92) (.int .i64 m) rfl (by kernel_rfl) (by kernel_rfl) (by kernel_rfl) (by kernel_rfl) rfl (fun _ _ _ h => h) (fun _ _ => by kernel_rfl) (by exact hS) ?_
            simp only [Act.put, List.setIfInBounds_toArray, List.set_cons_succ, List.set_cons_zero]
            refine wpAnyH_take_d 6 (some 93) (.pointer (some ⟨g, 0 + m * 1, none⟩)) rfl (by kernel_rfl) (by kernel_rfl) (by kernel_rfl) (by kernel_rfl) rfl (fun _ _ _ h => h) (fun w' h => exec_indexAddrS rfl rfl rfl hmn Tryd.underlying22 (by kernel_rfl)) (by exact hS) ?_
            simp only [Act.put, List.setIfInBounds_toArray, List.set_cons_succ, List.set_cons_zero]
            rw [Nat.zero_add, Nat.mul_one]
            refine wpAnyH_take_d 7 (some 94) (.int .i64 sv) rfl (by kernel_rfl) (by kernel_rfl) (by kernel_rfl) (by kernel_rfl) rfl (fun _ _ _ h => h) (fun w' h => exec_load_cell rfl rfl h Tryd.underlying3 rfl) (by exact hS) ?_
            simp only [Act.put, List.setIfInBounds_toArray, List.set_cons_succ, List.set_cons_zero]
            refine wpAnyH_take_d 8 (some 95) (.bool false) rfl (by kernel_rfl) (by kernel_rfl) (by kernel_rfl) (by kernel_rfl) rfl (fun _ _ _ h => h) (fun w' h => exec_inteq rfl rfl rfl hne1) (by exact hS) ?_
            simp only [Act.put, List.setIfInBounds_toArray, List.set_cons_succ, List.set_cons_zero]
            refine wpAnyH_call 2 (some 89) 11 #[.pointer (some ⟨ab, 0, none⟩), .int .i64 (m : Nat)] rfl (by kernel_rfl) (by kernel_rfl) rfl (by kernel_rfl) hgv ?_
            rintro e w4 ⟨rfl, x4, o4⟩
            have r4 := RowF.only (w := wr.drew) rr o4 hne
            have hS : w4.cell? ⟨g, m, none⟩ = some (.int .i64 sv) := (World.cell?_of_block (o4.keep g rr.lt hne)).trans hcell
            refine ⟨_, rfl, hS, ?_⟩
            simp only [Act.put, List.setIfInBounds_toArray, List.set_cons_succ, List.set_cons_zero]
            refine wpAnyH_take_d 3 (some 90) (.bool false) rfl (by kernel_rfl) (by kernel_rfl) (by kernel_rfl) (by kernel_rfl) rfl (fun _ _ _ h => h) (fun _ _ => by kernel_rfl) (by exact hS) ?_
            simp only [Act.put, List.setIfInBounds_toArray, List.set_cons_succ, List.set_cons_zero]
            refine wpAnyH_take_d 9 (some 96) (.bool false) rfl (by kernel_rfl) (by kernel_rfl) (by kernel_rfl) (by kernel_rfl) rfl (fun _ _ _ h => h) (fun _ _ => by kernel_rfl) (by exact hS) ?_
            simp only [Act.put, List.setIfInBounds_toArray, List.set_cons_succ, List.set_cons_zero]
            refine wpAnyH_done (by kernel_rfl) ?_ _
            have bw4 := bw.drew.trans (o4.below hab' xr.lt)
            have HS4 := HSt
            clear hgv o4 xr rr bw HSt hcell
            go_wp2
            skip
            go_loopw [14, 15] (fun fv jv wx => ∃ j : Nat, j ≤ n ∧ jv = .int .i64 j ∧ fv = .int .i64 (cnt (fz A) j : Nat) ∧ wx = w4) (fun _ jv _ => n - (intOf jv).toNat)
            case atStart => exact ⟨0, Nat.zero_le _, rfl, rfl, rfl⟩
            case round =>
              obtain ⟨j, hj, rfl, rfl, rfl⟩ := hrel
              have hcl := cnt_le (fz A) j
              by_cases hjn : j < n
              · have hce := r4.cell hjn
                have hsc : cnt (fz A) (j + 1) = cnt (fz A) j + (if fz A j then 1 else 0) := rfl
                cases hz : fz A j
                · have hne0 := stA_not A j hz
                  rw [hz] at hsc
                  have hsc' : cnt (fz A) (j + 1) = cnt (fz A) j := by simpa using hsc
                  have HSC := Lib.hid hsc'
                  simp only [stV] at hce
                  generalize stA A j = sv at hce hne0
                  generalize cnt (fz A) j = cc at hcl HSC
                  clear hsc hsc'
                  go_wp2
                  go_roundw
                  case rel => exact ⟨j + 1, by omega, by go_num, by rw [HSC.out], trivial⟩
                  case measure => simp [intOf]; omega
                · have h0 := stA_zero A j hz
                  simp only [stV, h0] at hce
                  rw [hz] at hsc
                  have hsc' : cnt (fz A) (j + 1) = cnt (fz A) j + 1 := by simpa using hsc
                  have HSC := Lib.hid hsc'
                  generalize cnt (fz A) j = cc at hcl HSC
                  clear hsc hsc'
                  go_wp2
                  go_roundw
                  case rel => exact ⟨j + 1, by omega, by go_num, by rw [HSC.out]; go_num, trivial⟩
                  case measure => simp [intOf]; omega
              · obtain rfl : j = n := by omega
                have hcount := HS4.out.count
                have hfa := free_any x4 HS4.out.ok
                have hb4 : 0 ≤ B ∧ B ≤ 4096 := by have := HS4.out.bk; have := HS4.out.ok.sum; have := HS4.out.ok.n2; omega
                generalize cnt (fz A) j = cc at hcount hcl ⊢
                obtain ⟨F, hF⟩ : ∃ F, A.free = F := ⟨_, rfl⟩
                have HF := Lib.hid hF
                rw [hF] at hfa hcount
                have hq1 : ((F : Int) != (cc : Int) - B) = false := by rw [hcount]; simp
                have hF0 : ¬ (F : Int) < 0 := by omega
                have hB0 : ¬ B < 0 := by omega
                clear hF hcount
                go_wp2_with fail
                refine Calls.mono hfa ?_
                rintro e w5 ⟨rfl, b5⟩
                have x5 := x4.below b5
                have r5 := r4.below b5 r4.lt
                have bw5 := bw4.trans (b5.mono bw4.size)
                have hfa2 := free_any x5 HS4.out.ok
                rw [HF.out] at hfa2
                clear hfa b5 x4 r4 bw4
                go_wp2_with fail
                refine Calls.mono hfa2 ?_
                rintro e w6 ⟨rfl, b6⟩
                have x6 := x5.below b6
                have r6 := r5.below b6 r5.lt
                have bw6 := bw5.trans (b6.mono bw5.size)
                clear hfa2 b6 x5 r5 bw5
                go_wp2
                go_roundw
                case rel => exact ⟨k + 1, A, B, by omega, by omega, by go_num, rfl, HS4, x6, r6, bw6⟩
                case measure => simp [intOf]; omega
          · rw [hu, if_neg (by simp)] at hgv
            have h1 : stA A m = 1 := by unfold stA; rw [hu]; rfl
            simp only [stV, h1] at hcell
            go_wp2_with (simp only [em])
            have hS : wr.drew.cell? ⟨g, m, none⟩ = some (.int .i64 1) := hcell
            refine wp_region_held_drew (S := fun w' => w'.cell? ⟨g, m, none⟩ = some (.int .i64 1)) mixed hS (fun _ => ?_)
            show wpAnyH _ _ _ _ _ 10 (Array.replicate 10 false) _ _
            refine wpAnyH_take_d 0 (some 87) (.pointer (some ⟨ab, 0, none⟩)) rfl (by kernel_rfl) (by kernel_rfl) (by kernel_rfl) (by kernel_rfl) rfl (fun _ _ _ h => h) (fun _ _ => by kernel_rfl) (by exact hS) ?_
            simp only [Act.put, List.setIfInBounds_toArray, List.set_cons_succ, List.set_cons_zero]
            refine wpAnyH_take_d 1 (some 88) (.int .i64 m) rfl (by kernel_rfl) (by kernel_rfl) (by kernel_rfl) (by kernel_rfl) rfl (fun _ _ _ h => h) (fun _ _ => by kernel_rfl) (by exact hS) ?_
            simp only [Act.put, List.setIfInBounds_toArray, List.set_cons_succ, List.set_cons_zero]
            refine wpAnyH_take_d 4 (some 91) (.slice (some ⟨g, 0, none⟩) n n) rfl (by kernel_rfl) (by kernel_rfl) (by kernel_rfl) (by kernel_rfl) rfl (fun _ _ _ h => h) (fun _ _ => by kernel_rfl) (by exact hS) ?_
            simp only [Act.put, List.setIfInBounds_toArray, List.set_cons_succ, List.set_cons_zero]
            refine wpAnyH_take_d 5 (some 92) (.int .i64 m) rfl (by kernel_rfl) (by kernel_rfl) (by kernel_rfl) (by kernel_rfl) rfl (fun _ _ _ h => h) (fun _ _ => by kernel_rfl) (by exact hS) ?_
            simp only [Act.put, List.setIfInBounds_toArray, List.set_cons_succ, List.set_cons_zero]
            refine wpAnyH_take_d 6 (some 93) (.pointer (some ⟨g, 0 + m * 1, none⟩)) rfl (by kernel_rfl) (by kernel_rfl) (by kernel_rfl) (by kernel_rfl) rfl (fun _ _ _ h => h) (fun w' h => exec_indexAddrS rfl rfl rfl hmn Tryd.underlying22 (by kernel_rfl)) (by exact hS) ?_
            simp only [Act.put, List.setIfInBounds_toArray, List.set_cons_succ, List.set_cons_zero]
            rw [Nat.zero_add, Nat.mul_one]
            refine wpAnyH_take_d 7 (some 94) (.int .i64 1) rfl (by kernel_rfl) (by kernel_rfl) (by kernel_rfl) (by kernel_rfl) rfl (fun _ _ _ h => h) (fun w' h => exec_load_cell rfl rfl h Tryd.underlying3 rfl) (by exact hS) ?_
            simp only [Act.put, List.setIfInBounds_toArray, List.set_cons_succ, List.set_cons_zero]
            refine wpAnyH_take_d 8 (some 95) (.bool true) rfl (by kernel_rfl) (by kernel_rfl) (by kernel_rfl) (by kernel_rfl) rfl (fun _ _ _ h => h) (fun _ _ => by kernel_rfl) (by exact hS) ?_
            simp only [Act.put, List.setIfInBounds_toArray, List.set_cons_succ, List.set_cons_zero]
            refine wpAnyH_call 2 (some 89) 11 #[.pointer (some ⟨ab, 0, none⟩), .int .i64 (m : Nat)] rfl (by kernel_rfl) (by kernel_rfl) rfl (by kernel_rfl) hgv ?_
            rintro e w4 ⟨rfl, y4, o4⟩
            have ry := RowF.only (w := wr.drew) rr o4 hne
            have hS : w4.cell? ⟨g, m, none⟩ = some (.int .i64 1) := (World.cell?_of_block (o4.keep g rr.lt hne)).trans hcell
            refine ⟨_, rfl, hS, ?_⟩
            simp only [Act.put, List.setIfInBounds_toArray, List.set_cons_succ, List.set_cons_zero]
            refine wpAnyH_take_d 3 (some 90) (.bool true) rfl (by kernel_rfl) (by kernel_rfl) (by kernel_rfl) (by kernel_rfl) rfl (fun _ _ _ h => h) (fun _ _ => by kernel_rfl) (by exact hS) ?_
            simp only [Act.put, List.setIfInBounds_toArray, List.set_cons_succ, List.set_cons_zero]
            refine wpAnyH_take_d 9 (some 96) (.bool false) rfl (by kernel_rfl) (by kernel_rfl) (by kernel_rfl) (by kernel_rfl) rfl (fun _ _ _ h => h) (fun _ _ => by kernel_rfl) (by exact hS) ?_
            simp only [Act.put, List.setIfInBounds_toArray, List.set_cons_succ, List.set_cons_zero]
            refine wpAnyH_done (by kernel_rfl) ?_ _
            have hce := hS
            have hfr := ry.free m
            have r4 := row_give ry hmn
            have bwy := bw.drew.trans (o4.below hab' xr.lt)
            have bw4 : Below W.heap.size W (w4.setCell ⟨g, m, none⟩ (.int .i64 2)) := bwy.setCell (p := ⟨g, m, none⟩) hgW _
            have x4 : AlAt (w4.setCell ⟨g, m, none⟩ (.int .i64 2)) ab (A.give m) := y4.keep (Below.heap_setCell _ _ _ _ (show ab ≠ g by omega))
            have HS4 := Lib.hid (show St n (A.give m) B from ⟨(HSt.out.ok.give hu).1, HSt.out.nn, HSt.out.bk⟩)
            clear hgv o4 y4 ry xr rr bw bwy HSt h1 hS hcell
            go_wp2
            skip
            go_loopw [14, 15] (fun fv jv wx => ∃ j : Nat, j ≤ n ∧ jv = .int .i64 j ∧ fv = .int .i64 (cnt (fz (A.give m)) j : Nat) ∧ wx = w4.setCell ⟨g, m, none⟩ (.int .i64 2)) (fun _ jv _ => n - (intOf jv).toNat)
            case atStart => exact ⟨0, Nat.zero_le _, rfl, rfl, rfl⟩
            case round =>
              obtain ⟨j, hj, rfl, rfl, rfl⟩ := hrel
              have hcl := cnt_le (fz (A.give m)) j
              by_cases hjn : j < n
              · have hce := r4.cell hjn
                have hsc : cnt (fz (A.give m)) (j + 1) = cnt (fz (A.give m)) j + (if fz (A.give m) j then 1 else 0) := rfl
                cases hz : fz (A.give m) j
                · have hne0 := stA_not (A.give m) j hz
                  rw [hz] at hsc
                  have hsc' : cnt (fz (A.give m)) (j + 1) = cnt (fz (A.give m)) j := by simpa using hsc
                  have HSC := Lib.hid hsc'
                  simp only [stV] at hce
                  generalize stA (A.give m) j = sv at hce hne0
                  generalize cnt (fz (A.give m)) j = cc at hcl HSC
                  clear hsc hsc'
                  go_wp2
                  go_roundw
                  case rel => exact ⟨j + 1, by omega, by go_num, by rw [HSC.out], trivial⟩
                  case measure => simp [intOf]; omega
                · have h0 := stA_zero (A.give m) j hz
                  simp only [stV, h0] at hce
                  rw [hz] at hsc
                  have hsc' : cnt (fz (A.give m)) (j + 1) = cnt (fz (A.give m)) j + 1 := by simpa using hsc
                  have HSC := Lib.hid hsc'
                  generalize cnt (fz (A.give m)) j = cc at hcl HSC
                  clear hsc hsc'
                  go_wp2
                  go_roundw
                  case rel => exact ⟨j + 1, by omega, by go_num, by rw [HSC.out]; go_num, trivial⟩
                  case measure => simp [intOf]; omega
              · obtain rfl : j = n := by omega
                have hcount := HS4.out.count
                have hfa := free_any x4 HS4.out.ok
                have hb4 : 0 ≤ B ∧ B ≤ 4096 := by have := HS4.out.bk; have := HS4.out.ok.sum; have := HS4.out.ok.n2; omega
                generalize cnt (fz (A.give m)) j = cc at hcount hcl ⊢
                obtain ⟨F, hF⟩ : ∃ F, (A.give m).free = F := ⟨_, rfl⟩
                have HF := Lib.hid hF
                rw [hF] at hfa hcount
                have hq1 : ((F : Int) != (cc : Int) - B) = false := by rw [hcount]; simp
                have hF0 : ¬ (F : Int) < 0 := by omega
                have hB0 : ¬ B < 0 := by omega
                clear hF hcount
                go_wp2_with fail
                refine Calls.mono hfa ?_
                rintro e w5 ⟨rfl, b5⟩
                have x5 := x4.below b5
                have r5 := r4.below b5 r4.lt
                have bw5 := bw4.trans (b5.mono bw4.size)
                have hfa2 := free_any x5 HS4.out.ok
                rw [HF.out] at hfa2
                clear hfa b5 x4 r4 bw4
                go_wp2_with fail
                refine Calls.mono hfa2 ?_
                rintro e w6 ⟨rfl, b6⟩
                have x6 := x5.below b6
                have r6 := r5.below b6 r5.lt
                have bw6 := bw5.trans (b6.mono bw5.size)
                clear hfa2 b6 x5 r5 bw5
                go_wp2
                go_roundw
                case rel => exact ⟨k + 1, (A.give m), B, by omega, by omega, by go_num, rfl, HS4, x6, r6, bw6⟩
                case measure => simp [intOf]; omega
        · skip
          by_cases hK3 : K = 3
          · have hK := hK3
            subst hK
            have hse := settle_any xr
            go_wp2_with (simp only [em])
            refine Calls.mono hse ?_
            rintro e w4 ⟨rfl, y4, o4⟩
            have ry := rr.only o4 hne
            have bwy := bw.trans (o4.below hab' xr.lt)
            have hr0 : RowF w4 g 3 n (stK A 0) := row_of ry (fun j _ => by simp [stK])
            have HS4 := Lib.hid (show St n A.settle B from ⟨(hS.out.ok.settle).1, hS.out.nn, hS.out.bk⟩)
            clear hse o4 ry xr rr bw hS
            go_wp2
            go_loopw [13] (fun jv wx => ∃ j : Nat, j ≤ n ∧ jv = .int .i64 j ∧ AlAt wx ab A.settle ∧ RowF wx g 3 n (stK A j) ∧ Below W.heap.size W wx) (fun jv _ => n - (intOf jv).toNat)
            case atStart => exact ⟨0, Nat.zero_le _, rfl, y4, hr0, bwy⟩
            case round =>
              clear y4 hr0 bwy
              obtain ⟨j, hj, rfl, xj, rj, bj⟩ := hrel
              by_cases hjn : j < n
              · have hce := rj.cell hjn
                have hcv : stK A j j = .int .i64 (stA A j) := by simp [stK]
                rw [hcv] at hce
                have hfr := rj.free j
                by_cases h2 : stA A j = 2
                · rw [h2] at hce
                  have r5 := rj.set hjn (.int .i64 0)
                  have rn : RowF (wr.setCell ⟨g, j, none⟩ (.int .i64 0)) g 3 n (stK A (j + 1)) := row_of r5 (fun i _ => by
                    unfold updF stK
                    by_cases e : i = j
                    · subst e; rw [if_pos rfl, if_pos (by omega), settle_st2 A i h2]
                    · rw [if_neg e]
                      by_cases e2 : i < j
                      · rw [if_pos e2, if_pos (by omega)]
                      · rw [if_neg e2, if_neg (by omega)])
                  have bn : Below W.heap.size W (wr.setCell ⟨g, j, none⟩ (.int .i64 0)) := bj.setCell (p := ⟨g, j, none⟩) hgW _
                  have xn : AlAt (wr.setCell ⟨g, j, none⟩ (.int .i64 0)) ab A.settle := xj.keep (Below.heap_setCell _ _ _ _ (show ab ≠ g by omega))
                  clear rj xj bj r5 hcv
                  go_wp2
                  go_roundw
                  case rel => exact ⟨j + 1, by omega, by go_num, xn, rn, bn⟩
                  case measure => simp [intOf]; omega
                · have hne2 : (stA A j == 2) = false := by simpa using h2
                  have rn : RowF wr g 3 n (stK A (j + 1)) := row_of rj (fun i _ => by
                    unfold stK
                    by_cases e : i = j
                    · subst e; rw [if_neg (by omega), if_pos (by omega), settle_st A i h2]
                    · by_cases e2 : i < j
                      · rw [if_pos e2, if_pos (by omega)]
                      · rw [if_neg e2, if_neg (by omega)])
                  generalize stA A j = sv at hce hne2
                  clear rj hcv h2
                  go_wp2
                  go_roundw
                  case rel => exact ⟨j + 1, by omega, by go_num, xj, rn, bj⟩
                  case measure => simp [intOf]; omega
              · obtain rfl : n = j := by omega
                have x4 := xj
                have r4 : RowF wr g 3 n (stV A.settle) := row_of rj (fun i hi => by simp [stK, hi])
                have bw4 := bj
                clear xj rj bj
                go_wp2
                skip
                go_loopw [14, 15] (fun fv jv wx => ∃ j : Nat, j ≤ n ∧ jv = .int .i64 j ∧ fv = .int .i64 (cnt (fz A.settle) j : Nat) ∧ wx = wr) (fun _ jv _ => n - (intOf jv).toNat)
                case atStart => exact ⟨0, Nat.zero_le _, rfl, rfl, rfl⟩
                case round =>
                  obtain ⟨j, hj, rfl, rfl, rfl⟩ := hrel
                  have hcl := cnt_le (fz A.settle) j
                  by_cases hjn : j < n
                  · have hce := r4.cell hjn
                    have hsc : cnt (fz A.settle) (j + 1) = cnt (fz A.settle) j + (if fz A.settle j then 1 else 0) := rfl
                    cases hz : fz A.settle j
                    · have hne0 := stA_not A.settle j hz
                      rw [hz] at hsc
                      have hsc' : cnt (fz A.settle) (j + 1) = cnt (fz A.settle) j := by simpa using hsc
                      have HSC := Lib.hid hsc'
                      simp only [stV] at hce
                      generalize stA A.settle j = sv at hce hne0
                      generalize cnt (fz A.settle) j = cc at hcl HSC
                      clear hsc hsc'
                      go_wp2
                      go_roundw
                      case rel => exact ⟨j + 1, by omega, by go_num, by rw [HSC.out], trivial⟩
                      case measure => simp [intOf]; omega
                    · have h0 := stA_zero A.settle j hz
                      simp only [stV, h0] at hce
                      rw [hz] at hsc
                      have hsc' : cnt (fz A.settle) (j + 1) = cnt (fz A.settle) j + 1 := by simpa using hsc
                      have HSC := Lib.hid hsc'
                      generalize cnt (fz A.settle) j = cc at hcl HSC
                      clear hsc hsc'
                      go_wp2
                      go_roundw
                      case rel => exact ⟨j + 1, by omega, by go_num, by rw [HSC.out]; go_num, trivial⟩
                      case measure => simp [intOf]; omega
                  · obtain rfl : j = n := by omega
                    have hcount := HS4.out.count
                    have hfa := free_any x4 HS4.out.ok
                    have hb4 : 0 ≤ B ∧ B ≤ 4096 := by have := HS4.out.bk; have := HS4.out.ok.sum; have := HS4.out.ok.n2; omega
                    generalize cnt (fz A.settle) j = cc at hcount hcl ⊢
                    obtain ⟨F, hF⟩ : ∃ F, A.settle.free = F := ⟨_, rfl⟩
                    have HF := Lib.hid hF
                    rw [hF] at hfa hcount
                    have hq1 : ((F : Int) != (cc : Int) - B) = false := by rw [hcount]; simp
                    have hF0 : ¬ (F : Int) < 0 := by omega
                    have hB0 : ¬ B < 0 := by omega
                    clear hF hcount
                    go_wp2_with fail
                    refine Calls.mono hfa ?_
                    rintro e w5 ⟨rfl, b5⟩
                    have x5 := x4.below b5
                    have r5 := r4.below b5 r4.lt
                    have bw5 := bw4.trans (b5.mono bw4.size)
                    have hfa2 := free_any x5 HS4.out.ok
                    rw [HF.out] at hfa2
                    clear hfa b5 x4 r4 bw4
                    go_wp2_with fail
                    refine Calls.mono hfa2 ?_
                    rintro e w6 ⟨rfl, b6⟩
                    have x6 := x5.below b6
                    have r6 := r5.below b6 r5.lt
                    have bw6 := bw5.trans (b6.mono bw5.size)
                    clear hfa2 b6 x5 r5 bw5
                    go_wp2
                    go_roundw
                    case rel => exact ⟨k + 1, A.settle, B, by omega, by omega, by go_num, rfl, HS4, x6, r6, bw6⟩
                    case measure => simp [intOf]; omega
          · skip
            by_cases hK4 : K = 4
            · have hK := hK4
              subst hK
              by_cases hf : m ≤ A.free
              · have hrs := reserve_ok xr hS.out.ok m hf
                go_wp2_with (simp only [em])
                refine Calls.mono hrs ?_
                rintro e w4 ⟨rfl, x4, o4⟩
                have r4 := rr.only o4 hne
                have bw4 := bw.trans (o4.below hab' xr.lt)
                obtain ⟨B2, hB2⟩ : ∃ B2, B + (m : Int) = B2 := ⟨_, rfl⟩
                have HS4 := Lib.hid (show St n { A with k := A.k + m } B2 from ⟨(hS.out.ok.keep (k := A.k + m) (by omega)).1, hS.out.nn, by have := hS.out.bk; simp only; omega⟩)
                have r4 : RowF w4 g 3 n (stV { A with k := A.k + m }) := r4
                generalize ({ A with k := A.k + m } : Al) = A2 at x4 r4 HS4
                clear hrs o4 xr rr bw hS
                go_wp2
                skip
                go_loopw [14, 15] (fun fv jv wx => ∃ j : Nat, j ≤ n ∧ jv = .int .i64 j ∧ fv = .int .i64 (cnt (fz A2) j : Nat) ∧ wx = w4) (fun _ jv _ => n - (intOf jv).toNat)
                case atStart => exact ⟨0, Nat.zero_le _, rfl, rfl, rfl⟩
                case round =>
                  obtain ⟨j, hj, rfl, rfl, rfl⟩ := hrel
                  have hcl := cnt_le (fz A2) j
                  by_cases hjn : j < n
                  · have hce := r4.cell hjn
                    have hsc : cnt (fz A2) (j + 1) = cnt (fz A2) j + (if fz A2 j then 1 else 0) := rfl
                    cases hz : fz A2 j
                    · have hne0 := stA_not A2 j hz
                      rw [hz] at hsc
                      have hsc' : cnt (fz A2) (j + 1) = cnt (fz A2) j := by simpa using hsc
                      have HSC := Lib.hid hsc'
                      simp only [stV] at hce
                      generalize stA A2 j = sv at hce hne0
                      generalize cnt (fz A2) j = cc at hcl HSC
                      clear hsc hsc'
                      go_wp2
                      go_roundw
                      case rel => exact ⟨j + 1, by omega, by go_num, by rw [HSC.out], trivial⟩
                      case measure => simp [intOf]; omega
                    · have h0 := stA_zero A2 j hz
                      simp only [stV, h0] at hce
                      rw [hz] at hsc
                      have hsc' : cnt (fz A2) (j + 1) = cnt (fz A2) j + 1 := by simpa using hsc
                      have HSC := Lib.hid hsc'
                      generalize cnt (fz A2) j = cc at hcl HSC
                      clear hsc hsc'
                      go_wp2
                      go_roundw
                      case rel => exact ⟨j + 1, by omega, by go_num, by rw [HSC.out]; go_num, trivial⟩
                      case measure => simp [intOf]; omega
                  · obtain rfl : j = n := by omega
                    have hcount := HS4.out.count
                    have hfa := free_any x4 HS4.out.ok
                    have hb4 : 0 ≤ B2 ∧ B2 ≤ 4096 := by have := HS4.out.bk; have := HS4.out.ok.sum; have := HS4.out.ok.n2; omega
                    generalize cnt (fz A2) j = cc at hcount hcl ⊢
                    obtain ⟨F, hF⟩ : ∃ F, A2.free = F := ⟨_, rfl⟩
                    have HF := Lib.hid hF
                    rw [hF] at hfa hcount
                    have hq1 : ((F : Int) != (cc : Int) - B2) = false := by rw [hcount]; simp
                    have hF0 : ¬ (F : Int) < 0 := by omega
                    have hB0 : ¬ B2 < 0 := by omega
                    clear hF hcount
                    go_wp2_with fail
                    refine Calls.mono hfa ?_
                    rintro e w5 ⟨rfl, b5⟩
                    have x5 := x4.below b5
                    have r5 := r4.below b5 r4.lt
                    have bw5 := bw4.trans (b5.mono bw4.size)
                    have hfa2 := free_any x5 HS4.out.ok
                    rw [HF.out] at hfa2
                    clear hfa b5 x4 r4 bw4
                    go_wp2_with fail
                    refine Calls.mono hfa2 ?_
                    rintro e w6 ⟨rfl, b6⟩
                    have x6 := x5.below b6
                    have r6 := r5.below b6 r5.lt
                    have bw6 := bw5.trans (b6.mono bw5.size)
                    clear hfa2 b6 x5 r5 bw5
                    go_wp2
                    go_roundw
                    case rel => exact ⟨k + 1, A2, B2, by omega, by omega, by go_num, rfl, HS4, x6, r6, bw6⟩
                    case measure => simp [intOf]; omega
              · have hrs := reserve_full xr hS.out.ok (m : Int) (by omega) (by omega)
                go_wp2_with (simp only [em])
                refine Calls.mono hrs ?_
                rintro e w4 ⟨rfl, b4⟩
                have x4 := xr.below b4
                have r4 := rr.below b4 rr.lt
                have bw4 := bw.trans (b4.mono bw.size)
                have HS4 := hS
                clear hrs b4 xr rr bw hS hf
                go_wp2
                skip
                go_loopw [14, 15] (fun fv jv wx => ∃ j : Nat, j ≤ n ∧ jv = .int .i64 j ∧ fv = .int .i64 (cnt (fz A) j : Nat) ∧ wx = w4) (fun _ jv _ => n - (intOf jv).toNat)
                case atStart => exact ⟨0, Nat.zero_le _, rfl, rfl, rfl⟩
                case round =>
                  obtain ⟨j, hj, rfl, rfl, rfl⟩ := hrel
                  have hcl := cnt_le (fz A) j
                  by_cases hjn : j < n
                  · have hce := r4.cell hjn
                    have hsc : cnt (fz A) (j + 1) = cnt (fz A) j + (if fz A j then 1 else 0) := rfl
                    cases hz : fz A j
                    · have hne0 := stA_not A j hz
                      rw [hz] at hsc
                      have hsc' : cnt (fz A) (j + 1) = cnt (fz A) j := by simpa using hsc
                      have HSC := Lib.hid hsc'
                      simp only [stV] at hce
                      generalize stA A j = sv at hce hne0
                      generalize cnt (fz A) j = cc at hcl HSC
                      clear hsc hsc'
                      go_wp2
                      go_roundw
                      case rel => exact ⟨j + 1, by omega, by go_num, by rw [HSC.out], trivial⟩
                      case measure => simp [intOf]; omega
                    · have h0 := stA_zero A j hz
                      simp only [stV, h0] at hce
                      rw [hz] at hsc
                      have hsc' : cnt (fz A) (j + 1) = cnt (fz A) j + 1 := by simpa using hsc
                      have HSC := Lib.hid hsc'
                      generalize cnt (fz A) j = cc at hcl HSC
                      clear hsc hsc'
                      go_wp2
                      go_roundw
                      case rel => exact ⟨j + 1, by omega, by go_num, by rw [HSC.out]; go_num, trivial⟩
                      case measure => simp [intOf]; omega
                  · obtain rfl : j = n := by omega
                    have hcount := HS4.out.count
                    have hfa := free_any x4 HS4.out.ok
                    have hb4 : 0 ≤ B ∧ B ≤ 4096 := by have := HS4.out.bk; have := HS4.out.ok.sum; have := HS4.out.ok.n2; omega
                    generalize cnt (fz A) j = cc at hcount hcl ⊢
                    obtain ⟨F, hF⟩ : ∃ F, A.free = F := ⟨_, rfl⟩
                    have HF := Lib.hid hF
                    rw [hF] at hfa hcount
                    have hq1 : ((F : Int) != (cc : Int) - B) = false := by rw [hcount]; simp
                    have hF0 : ¬ (F : Int) < 0 := by omega
                    have hB0 : ¬ B < 0 := by omega
                    clear hF hcount
                    go_wp2_with fail
                    refine Calls.mono hfa ?_
                    rintro e w5 ⟨rfl, b5⟩
                    have x5 := x4.below b5
                    have r5 := r4.below b5 r4.lt
                    have bw5 := bw4.trans (b5.mono bw4.size)
                    have hfa2 := free_any x5 HS4.out.ok
                    rw [HF.out] at hfa2
                    clear hfa b5 x4 r4 bw4
                    go_wp2_with fail
                    refine Calls.mono hfa2 ?_
                    rintro e w6 ⟨rfl, b6⟩
                    have x6 := x5.below b6
                    have r6 := r5.below b6 r5.lt
                    have bw6 := bw5.trans (b6.mono bw5.size)
                    clear hfa2 b6 x5 r5 bw5
                    go_wp2
                    go_roundw
                    case rel => exact ⟨k + 1, A, B, by omega, by omega, by go_num, rfl, HS4, x6, r6, bw6⟩
                    case measure => simp [intOf]; omega
            · skip
              by_cases hK5 : K = 5
              · have hK := hK5
                subst hK
                by_cases hf : m ≤ A.k
                · have hrs := release_ok xr hS.out.ok m hf
                  go_wp2_with (simp only [em])
                  refine Calls.mono hrs ?_
                  rintro e w4 ⟨rfl, x4, o4⟩
                  have r4 := rr.only o4 hne
                  have bw4 := bw.trans (o4.below hab' xr.lt)
                  obtain ⟨B2, hB2⟩ : ∃ B2, B - (m : Int) = B2 := ⟨_, rfl⟩
                  have HS4 := Lib.hid (show St n { A with k := A.k - m } B2 from ⟨(hS.out.ok.keep (k := A.k - m) (by omega)).1, hS.out.nn, by have := hS.out.bk; simp only; omega⟩)
                  have r4 : RowF w4 g 3 n (stV { A with k := A.k - m }) := r4
                  generalize ({ A with k := A.k - m } : Al) = A2 at x4 r4 HS4
                  clear hrs o4 xr rr bw hS
                  go_wp2
                  skip
                  go_loopw [14, 15] (fun fv jv wx => ∃ j : Nat, j ≤ n ∧ jv = .int .i64 j ∧ fv = .int .i64 (cnt (fz A2) j : Nat) ∧ wx = w4) (fun _ jv _ => n - (intOf jv).toNat)
                  case atStart => exact ⟨0, Nat.zero_le _, rfl, rfl, rfl⟩
                  case round =>
                    obtain ⟨j, hj, rfl, rfl, rfl⟩ := hrel
                    have hcl := cnt_le (fz A2) j
                    by_cases hjn : j < n
                    · have hce := r4.cell hjn
                      have hsc : cnt (fz A2) (j + 1) = cnt (fz A2) j + (if fz A2 j then 1 else 0) := rfl
                      cases hz : fz A2 j
                      · have hne0 := stA_not A2 j hz
                        rw [hz] at hsc
                        have hsc' : cnt (fz A2) (j + 1) = cnt (fz A2) j := by simpa using hsc
                        have HSC := Lib.hid hsc'
                        simp only [stV] at hce
                        generalize stA A2 j = sv at hce hne0
                        generalize cnt (fz A2) j = cc at hcl HSC
                        clear hsc hsc'
                        go_wp2
                        go_roundw
                        case rel => exact ⟨j + 1, by omega, by go_num, by rw [HSC.out], trivial⟩
                        case measure => simp [intOf]; omega
                      · have h0 := stA_zero A2 j hz
                        simp only [stV, h0] at hce
                        rw [hz] at hsc
                        have hsc' : cnt (fz A2) (j + 1) = cnt (fz A2) j + 1 := by simpa using hsc
                        have HSC := Lib.hid hsc'
                        generalize cnt (fz A2) j = cc at hcl HSC
                        clear hsc hsc'
                        go_wp2
                        go_roundw
                        case rel => exact ⟨j + 1, by omega, by go_num, by rw [HSC.out]; go_num, trivial⟩
                        case measure => simp [intOf]; omega
                    · obtain rfl : j = n := by omega
                      have hcount := HS4.out.count
                      have hfa := free_any x4 HS4.out.ok
                      have hb4 : 0 ≤ B2 ∧ B2 ≤ 4096 := by have := HS4.out.bk; have := HS4.out.ok.sum; have := HS4.out.ok.n2; omega
                      generalize cnt (fz A2) j = cc at hcount hcl ⊢
                      obtain ⟨F, hF⟩ : ∃ F, A2.free = F := ⟨_, rfl⟩
                      have HF := Lib.hid hF
                      rw [hF] at hfa hcount
                      have hq1 : ((F : Int) != (cc : Int) - B2) = false := by rw [hcount]; simp
                      have hF0 : ¬ (F : Int) < 0 := by omega
                      have hB0 : ¬ B2 < 0 := by omega
                      clear hF hcount
                      go_wp2_with fail
                      refine Calls.mono hfa ?_
                      rintro e w5 ⟨rfl, b5⟩
                      have x5 := x4.below b5
                      have r5 := r4.below b5 r4.lt
                      have bw5 := bw4.trans (b5.mono bw4.size)
                      have hfa2 := free_any x5 HS4.out.ok
                      rw [HF.out] at hfa2
                      clear hfa b5 x4 r4 bw4
                      go_wp2_with fail
                      refine Calls.mono hfa2 ?_
                      rintro e w6 ⟨rfl, b6⟩
                      have x6 := x5.below b6
                      have r6 := r5.below b6 r5.lt
                      have bw6 := bw5.trans (b6.mono bw5.size)
                      clear hfa2 b6 x5 r5 bw5
                      go_wp2
                      go_roundw
                      case rel => exact ⟨k + 1, A2, B2, by omega, by omega, by go_num, rfl, HS4, x6, r6, bw6⟩
                      case measure => simp [intOf]; omega
                · have hrs := release_bad xr (m : Int) (.inr (by omega))
                  go_wp2_with (simp only [em])
                  refine Calls.mono hrs ?_
                  rintro e _ ⟨rfl, rfl⟩
                  have x4 := xr
                  have r4 := rr
                  have bw4 := bw
                  have HS4 := hS
                  clear hrs xr rr bw hS hf
                  go_wp2
                  skip
                  go_loopw [14, 15] (fun fv jv wx => ∃ j : Nat, j ≤ n ∧ jv = .int .i64 j ∧ fv = .int .i64 (cnt (fz A) j : Nat) ∧ wx = wr) (fun _ jv _ => n - (intOf jv).toNat)
                  case atStart => exact ⟨0, Nat.zero_le _, rfl, rfl, rfl⟩
                  case round =>
                    obtain ⟨j, hj, rfl, rfl, rfl⟩ := hrel
                    have hcl := cnt_le (fz A) j
                    by_cases hjn : j < n
                    · have hce := r4.cell hjn
                      have hsc : cnt (fz A) (j + 1) = cnt (fz A) j + (if fz A j then 1 else 0) := rfl
                      cases hz : fz A j
                      · have hne0 := stA_not A j hz
                        rw [hz] at hsc
                        have hsc' : cnt (fz A) (j + 1) = cnt (fz A) j := by simpa using hsc
                        have HSC := Lib.hid hsc'
                        simp only [stV] at hce
                        generalize stA A j = sv at hce hne0
                        generalize cnt (fz A) j = cc at hcl HSC
                        clear hsc hsc'
                        go_wp2
                        go_roundw
                        case rel => exact ⟨j + 1, by omega, by go_num, by rw [HSC.out], trivial⟩
                        case measure => simp [intOf]; omega
                      · have h0 := stA_zero A j hz
                        simp only [stV, h0] at hce
                        rw [hz] at hsc
                        have hsc' : cnt (fz A) (j + 1) = cnt (fz A) j + 1 := by simpa using hsc
                        have HSC := Lib.hid hsc'
                        generalize cnt (fz A) j = cc at hcl HSC
                        clear hsc hsc'
                        go_wp2
                        go_roundw
                        case rel => exact ⟨j + 1, by omega, by go_num, by rw [HSC.out]; go_num, trivial⟩
                        case measure => simp [intOf]; omega
                    · obtain rfl : j = n := by omega
                      have hcount := HS4.out.count
                      have hfa := free_any x4 HS4.out.ok
                      have hb4 : 0 ≤ B ∧ B ≤ 4096 := by have := HS4.out.bk; have := HS4.out.ok.sum; have := HS4.out.ok.n2; omega
                      generalize cnt (fz A) j = cc at hcount hcl ⊢
                      obtain ⟨F, hF⟩ : ∃ F, A.free = F := ⟨_, rfl⟩
                      have HF := Lib.hid hF
                      rw [hF] at hfa hcount
                      have hq1 : ((F : Int) != (cc : Int) - B) = false := by rw [hcount]; simp
                      have hF0 : ¬ (F : Int) < 0 := by omega
                      have hB0 : ¬ B < 0 := by omega
                      clear hF hcount
                      go_wp2_with fail
                      refine Calls.mono hfa ?_
                      rintro e w5 ⟨rfl, b5⟩
                      have x5 := x4.below b5
                      have r5 := r4.below b5 r4.lt
                      have bw5 := bw4.trans (b5.mono bw4.size)
                      have hfa2 := free_any x5 HS4.out.ok
                      rw [HF.out] at hfa2
                      clear hfa b5 x4 r4 bw4
                      go_wp2_with fail
                      refine Calls.mono hfa2 ?_
                      rintro e w6 ⟨rfl, b6⟩
                      have x6 := x5.below b6
                      have r6 := r5.below b6 r5.lt
                      have bw6 := bw5.trans (b6.mono bw5.size)
                      clear hfa2 b6 x5 r5 bw5
                      go_wp2
                      go_roundw
                      case rel => exact ⟨k + 1, A, B, by omega, by omega, by go_num, rfl, HS4, x6, r6, bw6⟩
                      case measure => simp [intOf]; omega
              · skip
                have hk1 : (K == 1) = false := by simpa using hK1
                have hk2 : (K == 2) = false := by simpa using hK2
                have hk3 : (K == 3) = false := by simpa using hK3
                have hk4 : (K == 4) = false := by simpa using hK4
                have hk5 : (K == 5) = false := by simpa using hK5
                have x4 := xr
                have r4 := rr
                have bw4 := bw
                have HS4 := hS
                clear xr rr bw hS hK1 hK2 hK3 hK4 hK5

                go_wp2_with (simp only [em])
                go_loopw [14, 15] (fun fv jv wx => ∃ j : Nat, j ≤ n ∧ jv = .int .i64 j ∧ fv = .int .i64 (cnt (fz A) j : Nat) ∧ wx = wr) (fun _ jv _ => n - (intOf jv).toNat)
                case atStart => exact ⟨0, Nat.zero_le _, rfl, rfl, rfl⟩
                case round =>
                  obtain ⟨j, hj, rfl, rfl, rfl⟩ := hrel
                  have hcl := cnt_le (fz A) j
                  by_cases hjn : j < n
                  · have hce := r4.cell hjn
                    have hsc : cnt (fz A) (j + 1) = cnt (fz A) j + (if fz A j then 1 else 0) := rfl
                    cases hz : fz A j
                    · have hne0 := stA_not A j hz
                      rw [hz] at hsc
                      have hsc' : cnt (fz A) (j + 1) = cnt (fz A) j := by simpa using hsc
                      have HSC := Lib.hid hsc'
                      simp only [stV] at hce
                      generalize stA A j = sv at hce hne0
                      generalize cnt (fz A) j = cc at hcl HSC
                      clear hsc hsc'
                      go_wp2
                      go_roundw
                      case rel => exact ⟨j + 1, by omega, by go_num, by rw [HSC.out], trivial⟩
                      case measure => simp [intOf]; omega
                    · have h0 := stA_zero A j hz
                      simp only [stV, h0] at hce
                      rw [hz] at hsc
                      have hsc' : cnt (fz A) (j + 1) = cnt (fz A) j + 1 := by simpa using hsc
                      have HSC := Lib.hid hsc'
                      generalize cnt (fz A) j = cc at hcl HSC
                      clear hsc hsc'
                      go_wp2
                      go_roundw
                      case rel => exact ⟨j + 1, by omega, by go_num, by rw [HSC.out]; go_num, trivial⟩
                      case measure => simp [intOf]; omega
                  · obtain rfl : j = n := by omega
                    have hcount := HS4.out.count
                    have hfa := free_any x4 HS4.out.ok
                    have hb4 : 0 ≤ B ∧ B ≤ 4096 := by have := HS4.out.bk; have := HS4.out.ok.sum; have := HS4.out.ok.n2; omega
                    generalize cnt (fz A) j = cc at hcount hcl ⊢
                    obtain ⟨F, hF⟩ : ∃ F, A.free = F := ⟨_, rfl⟩
                    have HF := Lib.hid hF
                    rw [hF] at hfa hcount
                    have hq1 : ((F : Int) != (cc : Int) - B) = false := by rw [hcount]; simp
                    have hF0 : ¬ (F : Int) < 0 := by omega
                    have hB0 : ¬ B < 0 := by omega
                    clear hF hcount
                    go_wp2_with fail
                    refine Calls.mono hfa ?_
                    rintro e w5 ⟨rfl, b5⟩
                    have x5 := x4.below b5
                    have r5 := r4.below b5 r4.lt
                    have bw5 := bw4.trans (b5.mono bw4.size)
                    have hfa2 := free_any x5 HS4.out.ok
                    rw [HF.out] at hfa2
                    clear hfa b5 x4 r4 bw4
                    go_wp2_with fail
                    refine Calls.mono hfa2 ?_
                    rintro e w6 ⟨rfl, b6⟩
                    have x6 := x5.below b6
                    have r6 := r5.below b6 r5.lt
                    have bw6 := bw5.trans (b6.mono bw5.size)
                    clear hfa2 b6 x5 r5 bw5
                    go_wp2
                    go_roundw
                    case rel => exact ⟨k + 1, A, B, by omega, by omega, by go_num, rfl, HS4, x6, r6, bw6⟩
                    case measure => simp [intOf]; omega
    · have hcond : ¬ (k < z1.length) ∨ (k < z1.length ∧ ¬ k < 150) := by omega
      clear hlt
      have hgo : ∀ {Q : Prop}, (k < z1.length → ¬ k < 150 → Q) → (¬ k < z1.length → Q) → Q := fun h1 h2 => by
        rcases hcond with h | ⟨h, h'⟩
        · exact h2 h
        · exact h1 h h'
      clear hcond
      go_upto_region 10 with fail
      go_cut [41] from 34 to 166 (fun s wx => s = .bool false ∧ wx = wr)
      case first =>
        refine hgo (fun h1 h2 => ?_) (fun h1 => ?_)
        all_goals
          go_wp2
          go_meet
          exact ⟨by first | rfl | (simp; omega), rfl⟩
      case rest =>
        obtain ⟨rfl, rfl⟩ := hcut
        clear hgo
        have hbk := hS.out.bk
        have hB4 : B ≤ 4096 := by have := hS.out.ok.sum; have := hS.out.ok.n2; omega
        by_cases hB : A.k = 0
        · have hB0 : B = 0 := by omega
          subst hB0
          have HA : Hid (A.Ok ∧ A.n = n ∧ A.k = 0) := Lib.hid ⟨hS.out.ok, hS.out.nn, hB⟩
          clear hbk hB4 hS hB
          go_wp2
          go_loopw [16] (fun (_ : Value) wr => ∃ A : Al, Hid (A.Ok ∧ A.n = n ∧ A.k = 0) ∧ AlAt wr ab A ∧ RowF wr g 3 n (stV A) ∧ Below W.heap.size W wr) (fun _ wr => zerosR wr g n)
          case atStart => exact ⟨_, HA, xr, rr, bw⟩
          case round =>
            clear xr rr bw HA
            obtain ⟨A', HA', xj, rj, bj⟩ := hrel
            have hfa := free_any xj HA'.out.1
            obtain ⟨F, hF⟩ : ∃ F, A'.free = F := ⟨_, rfl⟩
            rw [hF] at hfa
            have HF := Lib.hid hF
            clear hF
            by_cases hF0 : F = 0
            · subst hF0
              go_wp2_with fail
              refine Calls.mono hfa ?_
              rintro e w5 ⟨rfl, b5⟩
              have x5 := xj.below b5
              have bw5 := bj.trans (b5.mono bj.size)
              have htk := take_full x5 HA'.out.1 HF.out
              clear hfa b5 xj rj bj
              go_wp2_with fail
              refine Calls.mono htk ?_
              rintro e w6 ⟨rfl, b6⟩
              have bw6 := bw5.trans (b6.mono bw5.size)
              clear htk b6 x5 bw5
              go_wp2
              go_ret
              exact ⟨rfl, bw6⟩
            · have hFp : (0 : Int) < (F : Int) := by omega
              go_wp2_with fail
              refine Calls.mono hfa ?_
              rintro e w5 ⟨rfl, b5⟩
              have x5 := xj.below b5
              have r5 := rj.below b5 rj.lt
              have bw5 := bj.trans (b5.mono bj.size)
              have htk := take_any x5 HA'.out.1 (hT.mono bw5)
              have hz0 := zerosR_eq rj
              clear hfa b5 xj rj bj
              go_wp2_with fail
              refine Calls.mono htk ?_
              rintro e w6 h6
              rcases h6 with ⟨hf, -⟩ | ⟨c, hf, hc, hl, rfl, y6, o6⟩
              · exact absurd (HF.out.symm.trans hf) hF0
              · have hcn : c < n := by have := HA'.out.2.1; omega
                have ry := r5.only o6 hne
                have hce := ry.cell hcn
                have hfzc : fz A' c = true := by unfold fz; rw [hl.1, hl.2.1]; rfl
                have hc0 : stA A' c = 0 := stA_zero A' c hfzc
                simp only [stV, hc0] at hce
                have hfr := ry.free c
                have r7 := row_take ry hcn
                have bwy := bw5.trans (o6.below hab' x5.lt)
                have bw7 : Below W.heap.size W (w6.setCell ⟨g, c, none⟩ (.int .i64 1)) := bwy.setCell (p := ⟨g, c, none⟩) hgW _
                have x7 : AlAt (w6.setCell ⟨g, c, none⟩ (.int .i64 1)) ab (A'.take c) := y6.keep (Below.heap_setCell _ _ _ _ (show ab ≠ g by omega))
                have HA7 : Hid ((A'.take c).Ok ∧ (A'.take c).n = n ∧ (A'.take c).k = 0) := Lib.hid ⟨(HA'.out.1.take hc hl hf).1, HA'.out.2.1, HA'.out.2.2⟩
                have hz7 := zerosR_eq r7
                have hdec : cnt (fz (A'.take c)) n + 1 = cnt (fz A') n := by
                  have e : fz (A'.take c) = setB (fz A') c false := by
                    funext j
                    unfold fz Al.take setB
                    by_cases e : j = c
                    · subst e; simp
                    · simp [e]
                  rw [e]; exact cnt_unset hcn hfzc
                have HM : Hid (zerosR (w6.setCell ⟨g, c, none⟩ (.int .i64 1)) g n < zerosR wr g n) := Lib.hid (by rw [hz7, hz0]; omega)
                clear htk o6 y6 ry x5 r5 bw5 bwy hz0 hz7 hdec hc0 hfzc hl hf hc
                go_wp2
                go_roundw
                case rel => exact ⟨_, HA7, x7, r7, bw7⟩
                case measure => exact HM.out
        · have hrs := release_ok xr hS.out.ok A.k (Nat.le_refl _)
          have hB0 : 0 < B := by omega
          rw [← hbk] at hrs
          clear hbk
          go_wp2_with fail
          refine Calls.mono hrs ?_
          rintro e w4 ⟨rfl, x4, o4⟩
          have r4 := rr.only o4 hne
          have bw4 := bw.trans (o4.below hab' xr.lt)
          have HA : Hid (Al.Ok { A with k := A.k - A.k } ∧ Al.n { A with k := A.k - A.k } = n ∧ Al.k { A with k := A.k - A.k } = 0) := Lib.hid ⟨(hS.out.ok.keep (k := A.k - A.k) (by omega)).1, hS.out.nn, by simp⟩
          have r4 : RowF w4 g 3 n (stV { A with k := A.k - A.k }) := r4
          generalize ({ A with k := A.k - A.k } : Al) = A2 at x4 r4 HA
          clear hrs o4 xr rr bw hS hB
          go_wp2
          go_loopw [16] (fun (_ : Value) wr => ∃ A : Al, Hid (A.Ok ∧ A.n = n ∧ A.k = 0) ∧ AlAt wr ab A ∧ RowF wr g 3 n (stV A) ∧ Below W.heap.size W wr) (fun _ wr => zerosR wr g n)
          case atStart => exact ⟨_, HA, x4, r4, bw4⟩
          case round =>
            clear x4 r4 bw4 HA
            obtain ⟨A', HA', xj, rj, bj⟩ := hrel
            have hfa := free_any xj HA'.out.1
            obtain ⟨F, hF⟩ : ∃ F, A'.free = F := ⟨_, rfl⟩
            rw [hF] at hfa
            have HF := Lib.hid hF
            clear hF
            by_cases hF0 : F = 0
            · subst hF0
              go_wp2_with fail
              refine Calls.mono hfa ?_
              rintro e w5 ⟨rfl, b5⟩
              have x5 := xj.below b5
              have bw5 := bj.trans (b5.mono bj.size)
              have htk := take_full x5 HA'.out.1 HF.out
              clear hfa b5 xj rj bj
              go_wp2_with fail
              refine Calls.mono htk ?_
              rintro e w6 ⟨rfl, b6⟩
              have bw6 := bw5.trans (b6.mono bw5.size)
              clear htk b6 x5 bw5
              go_wp2
              go_ret
              exact ⟨rfl, bw6⟩
            · have hFp : (0 : Int) < (F : Int) := by omega
              go_wp2_with fail
              refine Calls.mono hfa ?_
              rintro e w5 ⟨rfl, b5⟩
              have x5 := xj.below b5
              have r5 := rj.below b5 rj.lt
              have bw5 := bj.trans (b5.mono bj.size)
              have htk := take_any x5 HA'.out.1 (hT.mono bw5)
              have hz0 := zerosR_eq rj
              clear hfa b5 xj rj bj
              go_wp2_with fail
              refine Calls.mono htk ?_
              rintro e w6 h6
              rcases h6 with ⟨hf, -⟩ | ⟨c, hf, hc, hl, rfl, y6, o6⟩
              · exact absurd (HF.out.symm.trans hf) hF0
              · have hcn : c < n := by have := HA'.out.2.1; omega
                have ry := r5.only o6 hne
                have hce := ry.cell hcn
                have hfzc : fz A' c = true := by unfold fz; rw [hl.1, hl.2.1]; rfl
                have hc0 : stA A' c = 0 := stA_zero A' c hfzc
                simp only [stV, hc0] at hce
                have hfr := ry.free c
                have r7 := row_take ry hcn
                have bwy := bw5.trans (o6.below hab' x5.lt)
                have bw7 : Below W.heap.size W (w6.setCell ⟨g, c, none⟩ (.int .i64 1)) := bwy.setCell (p := ⟨g, c, none⟩) hgW _
                have x7 : AlAt (w6.setCell ⟨g, c, none⟩ (.int .i64 1)) ab (A'.take c) := y6.keep (Below.heap_setCell _ _ _ _ (show ab ≠ g by omega))
                have HA7 : Hid ((A'.take c).Ok ∧ (A'.take c).n = n ∧ (A'.take c).k = 0) := Lib.hid ⟨(HA'.out.1.take hc hl hf).1, HA'.out.2.1, HA'.out.2.2⟩
                have hz7 := zerosR_eq r7
                have hdec : cnt (fz (A'.take c)) n + 1 = cnt (fz A') n := by
                  have e : fz (A'.take c) = setB (fz A') c false := by
                    funext j
                    unfold fz Al.take setB
                    by_cases e : j = c
                    · subst e; simp
                    · simp [e]
                  rw [e]; exact cnt_unset hcn hfzc
                have HM : Hid (zerosR (w6.setCell ⟨g, c, none⟩ (.int .i64 1)) g n < zerosR wr g n) := Lib.hid (by rw [hz7, hz0]; omega)
                clear htk o6 y6 ry x5 r5 bw5 bwy hz0 hz7 hdec hc0 hfzc hl hf hc
                go_wp2
                go_roundw
                case rel => exact ⟨_, HA7, x7, r7, bw7⟩
                case measure => exact HM.out

/-! ### the row -/
theorem laidOut : laidOutB Tryd.prog = true := by kernel_rfl
theorem bytesInt : Tryd.prog.bytesOf 3 = 8 := by kernel_rfl
set_option maxRecDepth 100000 in
theorem lifted (os : Os) (started : os.Started) (H : Type) (enc : TypeId × Value → H) :
    ReturnsInHanded {} Tryd.checked os 4 .any (fun w args => (Rows.allocHoldsSpec.pre enc Tryd.prog Tryd.f4 [] false w args ∧ laidMetH Tryd.prog laidL w) ∧ sizedMet enc Tryd.prog Tryd.f4 (OpenSpec.ofChange Rows.allocHoldsSpec) false w args) (Rows.allocHoldsSpec.post enc Tryd.prog Tryd.f4 false true false false) := by
  refine returnsInHanded_of_change_and (C := Tryd.checked) (X := fun w _ => laidMetH Tryd.prog laidL w) (fun _ _ _ hh h => h.of_heap hh) own started (by kernel_rfl) Tryd.func4
    (ChangeSpec.witness_shaped (enc := enc) (C := Tryd.checked) (os := os) (X := fun w _ => laidMetH Tryd.prog laidL w) false (World.doorLaid Tryd.prog 14 os) #[.int .i64 0, .slice none 0 0] 8 rfl (World.shaped_of_RefB (by kernel_rfl) (by kernel_rfl)) (by kernel_rfl) (by kernel_rfl) (by kernel_rfl) (door_met os _)) ?_
  intro W base args ds gs before hval0 hW hcnd hsz0 hL _
  have hval : ∀ (j : Nat) t v, Tryd.f4.params[j]? = some t → args[j]? = some v → Value.okWide Tryd.prog W .any base t v := hval0
  have hW' := hW
  obtain ⟨p, q, hA0, hV, rfl, hfz, hnd⟩ := hW
  have hA : DataW.TrodAll enc Tryd.prog W 0 (fun _ => true) true Tryd.f4.params.toList args.toList ds p := hA0
  have hsz : (DataW.weightsEach Tryd.prog (Tryd.f4.params.toList ++ Rows.allocHoldsSpec.plain.varTypes Tryd.prog) (ds ++ gs)).all (· ≤ reachBytes) = true := hsz0
  rw [Tryd.params4] at hA hval hsz
  obtain ⟨v0, vs0, d0, ds0, p0, q0, hargs, rfl, rfl, h0, r0⟩ := trodAll_cons hA
  obtain ⟨v1, vs1, d1, ds1, p1, q1, rfl, rfl, rfl, h1, r1⟩ := trodAll_cons r0
  obtain ⟨rfl, rfl, rfl⟩ := trodAll_nil r1
  obtain rfl : args = #[v0, v1] := by cases args; simp_all
  obtain ⟨rfl, rfl⟩ := trodVars_none hV
  obtain ⟨a0, rfl, rfl, rfl, w0⟩ := open_int Tryd.underlying3 (hval 0 3 v0 rfl rfl) h0
  have k1 := h1
  have lt1 := args_lt k1
  obtain ⟨z1, w1⟩ := ops_arg (hval 1 23 v1 rfl rfl) (fun k hk => of_decide_eq_true (List.all_eq_true.1 hsz _ (DataW.weights_mem_each (j := 1) (t := 23) (d := d1) rfl rfl k hk))) h1
  clear hA0 hval0 hsz0
  refine (walk a0 w0 v1 z1 W w1 (tab_of_laid hL)).mono fun e W' ⟨he, bel⟩ => ?_
  subst he
  exact ⟨_, rfl, _, _, _, [], _, [], hW', trodAll_mk1 (shut_bool Tryd.underlying4 _), (trodAll_cons_mk (shut_int Tryd.underlying3 w0) (trodAll_cons_mk (Below.trod laidOut (by kernel_rfl) (of_decide_eq_true (by kernel_rfl)) k1 bel lt1) trodAll_mk0)), rfl, bel.frame _, fun h => by cases h⟩

theorem over : Rows.allocHoldsRow.holds Tryd.pinned (OpenSpec.ofChange Rows.allocHoldsSpec) :=
  OpenClaim.holds_of_wide 4 Tryd.f4 rfl rfl rfl rfl rfl rfl rfl ⟨rfl, rfl, rfl, rfl, rfl⟩ rfl rfl rfl rfl rfl (by kernel_rfl) Tryd.func4 (by kernel_rfl)
    (of_decide_eq_true (by kernel_rfl)) (by unfold Func.isWrapper; first | (rw [if_pos (by decide +kernel)]; kernel_rfl) | (rw [if_neg (by decide +kernel)]; exact ⟨rfl, rfl⟩))
    (fun os started H enc _ => lifted os started H enc)
end Go.Proofs.YtfmhlkhalahoaaaDoor.allocHolds

namespace Go.Proofs.YtfmhlkhalahoaaaDoor
/-- The law returns true at every input at which the table of math/bits is as the program's text lays it; that tie is part of the card. -/
theorem allocHolds_holds : Rows.AllocHoldsCardSaid :=
  Claim7.holds_tied_plain_at .later [] [.data] true Rows.allocHoldsCard.stood.harness false
    allocHolds.over (fun _ h => by cases h) (by kernel_rfl) (fun _ h => by cases h) allocHolds_row_tie rfl ⟨rfl, rfl⟩ (by kernel_rfl) rfl
    (fun f fn hf hfn => by
      obtain rfl : f = 4 := Option.some.inj ((show Tryd.prog.funcNamed "cistern/cisternlaw09.AllocHolds" = some 4 by kernel_rfl).symm.trans hf) |>.symm
      obtain rfl : fn = Tryd.f4 := (Option.some.inj (Tryd.func4.symm.trans hfn)).symm
      exact ⟨by kernel_rfl, fun j t ht => by
        rw [Tryd.params4] at ht
        have hm : t ∈ [3, 23] := by simpa using Array.mem_of_getElem? ht
        have hall : ([3, 23].all fun u => !Tryd.prog.wantsStandIn u) = true := by kernel_rfl
        exact (show Tryd.prog.wantsStandIn t = false by simpa using List.all_eq_true.1 hall t hm)⟩)
    (by kernel_rfl)
end Go.Proofs.YtfmhlkhalahoaaaDoor

