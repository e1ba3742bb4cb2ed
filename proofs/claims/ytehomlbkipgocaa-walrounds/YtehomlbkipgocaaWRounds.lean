/- Whatever is appended and trimmed, room and records taken are the size, and a transaction goes in just if it has room: the law cisternlaw08.WalRounds returns true at every input. No condition. -/
import Derived.Test.YtehomlbkipgocaaWMake
namespace Go.Proofs.Ytehomlbkipgocaa.walRounds
set_option maxRecDepth 20000
open Go.RowKit Go.ChangeShapes Go.WideShapes Go.ChangeAt

theorem own : ownKnob Try.prog.godebug = none := by kernel_rfl
structure RInv (d : Dev) (l : Wl) (n k : Nat) : Prop where
  live : Live d l n
  waits : d.waits.length ≤ 40 * k
  next : l.next ≤ 40 * k
theorem trim_fr {w w' : World} {lb db : Nat} {l : Wl} (h : WlAt w lb db l) (h1 : ∀ k, k ≠ lb → w'.heap[k]? = w.heap[k]?) (h2 : Below lb w w') : Fr KG 0 w w' :=
  ⟨h2.os, h2.tape, h2.output, h2.size, fun k o hk hko => by
    by_cases e : k = lb
    · subst e
      have e2 := hk.symm.trans h
      cases e2
      rcases hko with hko | hko
      · omega
      · simp [KG] at hko
    · exact (h1 k e).trans hk⟩
theorem RInv.more {d : Dev} {l : Wl} {n k : Nat} (h : RInv d l n k) : RInv d l n (k + 1) := ⟨h.live, by have := h.waits; omega, by have := h.next; omega⟩
theorem RInv.trim {d : Dev} {l : Wl} {n k : Nat} (hk : k ≤ 1000) (h : RInv d l n k) : RInv d { l with tail := l.next } n k := by
  obtain ⟨⟨h1, h2, h3, h4, h5⟩, h6, h7⟩ := h
  exact ⟨⟨h1, h2, h3, ⟨h4.fs, h4.two, Nat.le_refl _, by simp only; omega, by simp only; omega, h4.epoch⟩, h5⟩, h6, h7⟩
theorem key {d : Dev} {l : Wl} {n k c : Nat} (h : RInv d l n k) (hc : c < 40) : ∃ g d' l', appE d l (List.replicate c Im.none) = g ∧ appDev d l (List.replicate c Im.none) = d' ∧ appL d l (List.replicate c Im.none) = l' ∧ RInv d' l' n (k + 1) ∧ l'.tail = l.tail ∧
    ((g = 14 ∧ n < c + 1 ∧ l'.next = l.next) ∨ (g = 5 ∧ ¬ n < c + 1 ∧ l.room < c + 1 ∧ l'.next = l.next) ∨ (g = 0 ∧ ¬ n < c + 1 ∧ ¬ l.room < c + 1 ∧ l'.next = l.next + (c + 1))) := by
  have hcl : (List.replicate c Im.none).length = c := List.length_replicate
  have hsz := h.live.size
  have hio := (none_ok c).1
  by_cases h1 : n < c + 1
  · obtain ⟨q1, q2, q3⟩ := app_big (d := d) (l := l) hio (by rw [hcl, hsz]; exact h1)
    exact ⟨_, _, _, q1, q2, q3, h.more, rfl, .inl ⟨rfl, h1, rfl⟩⟩
  · by_cases h2 : l.room < c + 1
    · obtain ⟨q1, q2, q3⟩ := app_full (d := d) (l := l) hio (by rw [hcl, hsz]; exact h1) (by rw [hcl]; exact h2)
      exact ⟨_, _, _, q1, q2, q3, h.more, rfl, .inr (.inl ⟨rfl, h1, h2, rfl⟩)⟩
    · obtain ⟨q1, q2, q3, q4⟩ := app_live h.live hio (by rw [hcl, hsz]; exact h1) (by rw [hcl]; exact h2)
      rw [hcl] at q2 q3 q4
      exact ⟨_, _, _, q1, rfl, q2, ⟨q3, by have := h.waits; omega, by have := h.next; simp only; omega⟩, rfl, .inr (.inr ⟨rfl, h1, h2, rfl⟩)⟩
theorem room_sum {l : Wl} (ok : l.Ok) : (l.room : Int) + (l.next : Int) - (l.tail : Int) = (l.size : Int) := by
  have := room_lim ok; have := ok.tn; have := ok.room; omega
set_option maxHeartbeats 6400000 in
set_option maxRecDepth 400000 in
theorem walk (a0 : Int) (_ : (Lit.int .i64 a0).wf = true) (v1 : Value) (z1 : List Int) (W : World) (w1 : IntsArg W v1 z1) :
    Calls Try.prog 5 #[.int .i64 a0, v1] W fun e w' => e = .returned (.bool true) ∧ Below W.heap.size W w' := by
  obtain ⟨ao, cap, rfl, hlen, -⟩ := w1.1.form
  obtain ⟨a, ha, ea⟩ := mod_form a0 30 (by decide) (by decide)
  go_enter Try.func5, Try.ntmps5
  go_wp2_with fail
  refine (wknown_any W).mono ?_
  rintro e wa ⟨rfl, ba⟩
  go_wp2_with fail
  obtain ⟨n, hn⟩ : ∃ n : Nat, (2 : Int) + (a : Int) = n := ⟨2 + a, by omega⟩
  rw [hn]
  have hn2 : 2 ≤ n := by omega
  have hn31 : n ≤ 31 := by omega
  clear hn ea ha
  refine (new_any W.heap.size wa n (by omega) (by omega) ba.size).mono ?_
  rintro e wb ⟨rfl, db, bb, -⟩
  have bc : Below W.heap.size W wb := ba.trans (bb.mono ba.size)
  have hs := bc.size
  have hob : openB (Dev.fresh n) ((0 : Nat) : Int) (n : Nat) ((0 : Nat) : Int) ((1 : Nat) : Int) = true := by
    unfold openB fitsB cntB
    simp only [Bool.and_eq_true, decide_eq_true_eq]
    have : (Dev.fresh n).size = n := rfl
    rw [this]; omega
  have hok0 := wl0_ok (fresh_ok n (by omega)) hob
  have hop := open_yes db (by show 0 < 1000000; decide) hob (read_not4 rfl ⟨by omega, by show ((0 : Nat) : Int) < (n : Nat); omega⟩)
  rw [fresh_scan (by omega) hob] at hop
  have hinv0 : RInv (Dev.fresh n) (wl0 0 n 0 1) n 0 := ⟨⟨rfl, rfl, by unfold Fits wl0; show 0 + n ≤ n; omega, hok0, rfl⟩, by simp [Dev.fresh], Nat.zero_le _⟩
  clear hob hok0
  go_wp2_with fail
  refine Calls.mono hop ?_
  rintro e wc ⟨lb, v, rfl, hlb, tv, lc, dc, bC⟩
  have bd := bc.trans (bC.mono hs)
  have hlB : W.heap.size ≤ lb := Nat.le_trans hs hlb
  obtain ⟨vo, vm, vc, hvv, -⟩ := tv.form'
  subst hvv
  replace lc : WlAt wc lb wa.heap.size (wl0 0 n 0 1) := lc
  generalize Dev.fresh n = d0 at dc hinv0
  generalize wl0 0 n 0 1 = l0 at lc hinv0
  clear hop tv bC bc hs hlb db bb ba
  go_wp2
  go_loopw [10] (fun iv wr => ∃ (k : Nat) (d : Dev) (l : Wl), k ≤ 60 ∧ k ≤ z1.length ∧ iv = .int .i64 k ∧ Hid (RInv d l n k) ∧ DevAt W.heap.size wr wa.heap.size d 0 ∧ WlAt wr lb wa.heap.size l ∧ Below W.heap.size W wr) (fun iv _ => z1.length - (intOf iv).toNat)
  case atStart => exact ⟨0, d0, l0, Nat.zero_le _, Nat.zero_le _, rfl, Lib.hid hinv0, dc, lc, bd⟩
  case round =>
    clear dc lc bd hinv0
    obtain ⟨k, d, l, hk60, hkl, rfl, hinv, dk, lk, bk⟩ := hrel
    by_cases hlt : k < z1.length
    · by_cases h60 : k < 60
      · obtain ⟨b, off, rfl, hcell⟩ := w1.1.at bk hlt
        generalize z1.getD k 0 = z at hcell
        obtain ⟨c, hc, ec⟩ := mod_form z 40 (by decide) (by decide)
        have hro := room_any lk hinv.out.live.ok
        go_wp2_with fail
        refine Calls.mono hro ?_
        rintro e w2 ⟨rfl, b2⟩
        have d2 := dk.below b2
        have l2 := lk.below b2
        have bk2 := bk.trans (b2.mono bk.size)
        have hnx := next_any l2
        clear hro b2 dk lk
        go_wp2_with fail
        refine Calls.mono hnx ?_
        rintro e _ ⟨rfl, rfl⟩
        obtain ⟨w3, hmk, i3, b3⟩ := made_imgs w2 c (by omega)
        have d3 := d2.below b3
        have l3 := l2.below b3
        have bk3 := bk2.trans (b3.mono bk2.size)
        have hap := append_any d3 l3 hinv.out.live.ok (by have := hinv.out.waits; omega) bk3.size hlB i3.k
        have hc40 : c < 40 := by omega
        obtain ⟨g, d', l', eg, ed, el, hinv', htl, hcase⟩ := key hinv.out hc40
        rw [eg, ed, el] at hap
        have HI := Lib.hid hinv'
        have hrs := room_sum hinv'.live.ok
        rw [hinv'.live.size] at hrs
        have hn1 := hinv'.next
        have hn0 := hinv.out.next
        have ht1 := hinv'.live.ok.tn
        obtain ⟨x, hx⟩ : ∃ x, l.next = x := ⟨_, rfl⟩
        obtain ⟨x', hx'⟩ : ∃ x', l'.next = x' := ⟨_, rfl⟩
        obtain ⟨r, hr⟩ : ∃ r, l.room = r := ⟨_, rfl⟩
        obtain ⟨r', hr'⟩ : ∃ r', l'.room = r' := ⟨_, rfl⟩
        obtain ⟨t', ht'⟩ : ∃ t', l'.tail = t' := ⟨_, rfl⟩
        have HX' := Lib.hid hx'
        have hnx' := fun {w : World} (h : WlAt w lb wa.heap.size l') => next_any h
        have hro' := fun {w : World} (h : WlAt w lb wa.heap.size l') => room_any h hinv'.live.ok
        have hta' := fun {w : World} (h : WlAt w lb wa.heap.size l') => tail_any h
        rw [hx, hr]
        rw [hx'] at hnx' hcase hrs hn1 ht1
        rw [hx] at hcase hn0
        rw [hr] at hcase
        rw [hr'] at hro' hrs
        rw [ht'] at hta' hrs ht1
        clear hnx d2 l2 b3 i3 d3 l3 eg ed el hinv hinv' hx hx' hr hr' ht' htl ec
        have hrb : r' ≤ 5000 := by omega
        have hq2 : (((r' : Int) + (x' : Int) - (t' : Int)) != (n : Int)) = false := by rw [hrs]; simp
        go_wp2_with fail
        refine Calls.mono hap ?_
        rintro e w4 ⟨rfl, d4, l4, b4⟩
        have bk4 := bk3.trans b4
        clear hap b4 hmk bk3 bk2 bk
        rcases hcase with ⟨rfl, c1, c2⟩ | ⟨rfl, c1, c2, c3⟩ | ⟨rfl, c1, c2, c3⟩
        · skip
          have c1' : (n : Int) < (c : Int) + 1 := by omega
          have c2' : ((x' : Int) != (x : Int)) = false := by rw [c2]; simp
          clear c1 c2
          by_cases hm : k % 3 = 2
          · have hm3 : ((k : Int).tmod 3 == 2) = true := by rw [Int.tmod_eq_emod_of_nonneg (by omega)]; simp; omega
            go_wp2_with fail

            refine Calls.mono (hro' l4) ?_
            rintro e w5 ⟨rfl, b5⟩
            have l5 := l4.below b5
            have d5 := d4.below b5
            have bk5 := bk4.trans (b5.mono bk4.size)
            clear b5 l4 d4
            go_wp2_with fail
            refine Calls.mono (hnx' l5) ?_
            rintro e _ ⟨rfl, rfl⟩
            go_wp2_with fail
            refine Calls.mono (hta' l5) ?_
            rintro e _ ⟨rfl, rfl⟩

            go_wp2_with fail
            refine Calls.mono (hnx' l5) ?_
            rintro e _ ⟨rfl, rfl⟩

            go_wp2_with fail
            refine Calls.mono (hnx' l5) ?_
            rintro e _ ⟨rfl, rfl⟩
            have htr := trim_any l5 (x' : Int)
            rw [(show trimE l' (x' : Int) = 0 by rw [← HX'.out]; exact (trim_next l' HI.out.live.ok.tn).1), (show l'.trim (x' : Int) = { l' with tail := x' } by rw [← HX'.out]; exact (trim_next l' HI.out.live.ok.tn).2)] at htr
            go_wp2_with fail
            refine Calls.mono htr ?_
            rintro e w6 ⟨rfl, l6, o6, b6⟩
            have d6 := d5.fr (trim_fr l5 o6 b6) KG_FK
            have bk6 := bk5.trans (b6.mono hlB)
            have HI6 : Hid (RInv d' { l' with tail := x' } n (k + 1)) := Lib.hid (by rw [← HX'.out]; exact HI.out.trim (by omega))
            clear htr d5 l5 o6 b6 bk5 hnx' hro' hta' HI
            go_wp2
            go_roundw
            case rel => exact ⟨k + 1, _, _, by omega, by omega, by go_num, HI6, d6, l6, bk6⟩
            case measure => simp [intOf]; omega
          · have hm3 : ((k : Int).tmod 3 == 2) = false := by rw [Int.tmod_eq_emod_of_nonneg (by omega)]; simp; omega
            go_wp2_with fail

            refine Calls.mono (hro' l4) ?_
            rintro e w5 ⟨rfl, b5⟩
            have l5 := l4.below b5
            have d5 := d4.below b5
            have bk5 := bk4.trans (b5.mono bk4.size)
            clear b5 l4 d4
            go_wp2_with fail
            refine Calls.mono (hnx' l5) ?_
            rintro e _ ⟨rfl, rfl⟩
            go_wp2_with fail
            refine Calls.mono (hta' l5) ?_
            rintro e _ ⟨rfl, rfl⟩

            go_wp2_with fail
            refine Calls.mono (hnx' l5) ?_
            rintro e _ ⟨rfl, rfl⟩

            clear hnx' hro' hta'
            go_wp2
            go_roundw
            case rel => exact ⟨k + 1, _, _, by omega, by omega, by go_num, HI, d5, l5, bk5⟩
            case measure => simp [intOf]; omega
        · skip
          have c1' : ¬ (n : Int) < (c : Int) + 1 := by omega
          have c2' : (r : Int) < (c : Int) + 1 := by omega
          have c3' : ((x' : Int) != (x : Int)) = false := by rw [c3]; simp
          clear c1 c2 c3
          by_cases hm : k % 3 = 2
          · have hm3 : ((k : Int).tmod 3 == 2) = true := by rw [Int.tmod_eq_emod_of_nonneg (by omega)]; simp; omega
            go_wp2_with fail

            refine Calls.mono (hro' l4) ?_
            rintro e w5 ⟨rfl, b5⟩
            have l5 := l4.below b5
            have d5 := d4.below b5
            have bk5 := bk4.trans (b5.mono bk4.size)
            clear b5 l4 d4
            go_wp2_with fail
            refine Calls.mono (hnx' l5) ?_
            rintro e _ ⟨rfl, rfl⟩
            go_wp2_with fail
            refine Calls.mono (hta' l5) ?_
            rintro e _ ⟨rfl, rfl⟩

            go_wp2_with fail
            refine Calls.mono (hnx' l5) ?_
            rintro e _ ⟨rfl, rfl⟩

            go_wp2_with fail
            refine Calls.mono (hnx' l5) ?_
            rintro e _ ⟨rfl, rfl⟩
            have htr := trim_any l5 (x' : Int)
            rw [(show trimE l' (x' : Int) = 0 by rw [← HX'.out]; exact (trim_next l' HI.out.live.ok.tn).1), (show l'.trim (x' : Int) = { l' with tail := x' } by rw [← HX'.out]; exact (trim_next l' HI.out.live.ok.tn).2)] at htr
            go_wp2_with fail
            refine Calls.mono htr ?_
            rintro e w6 ⟨rfl, l6, o6, b6⟩
            have d6 := d5.fr (trim_fr l5 o6 b6) KG_FK
            have bk6 := bk5.trans (b6.mono hlB)
            have HI6 : Hid (RInv d' { l' with tail := x' } n (k + 1)) := Lib.hid (by rw [← HX'.out]; exact HI.out.trim (by omega))
            clear htr d5 l5 o6 b6 bk5 hnx' hro' hta' HI
            go_wp2
            go_roundw
            case rel => exact ⟨k + 1, _, _, by omega, by omega, by go_num, HI6, d6, l6, bk6⟩
            case measure => simp [intOf]; omega
          · have hm3 : ((k : Int).tmod 3 == 2) = false := by rw [Int.tmod_eq_emod_of_nonneg (by omega)]; simp; omega
            go_wp2_with fail

            refine Calls.mono (hro' l4) ?_
            rintro e w5 ⟨rfl, b5⟩
            have l5 := l4.below b5
            have d5 := d4.below b5
            have bk5 := bk4.trans (b5.mono bk4.size)
            clear b5 l4 d4
            go_wp2_with fail
            refine Calls.mono (hnx' l5) ?_
            rintro e _ ⟨rfl, rfl⟩
            go_wp2_with fail
            refine Calls.mono (hta' l5) ?_
            rintro e _ ⟨rfl, rfl⟩

            go_wp2_with fail
            refine Calls.mono (hnx' l5) ?_
            rintro e _ ⟨rfl, rfl⟩

            clear hnx' hro' hta'
            go_wp2
            go_roundw
            case rel => exact ⟨k + 1, _, _, by omega, by omega, by go_num, HI, d5, l5, bk5⟩
            case measure => simp [intOf]; omega
        · skip
          have c1' : ¬ (n : Int) < (c : Int) + 1 := by omega
          have c2' : ¬ (r : Int) < (c : Int) + 1 := by omega
          have c3' : ((x' : Int) != (x : Int) + (c : Int) + 1) = false := by rw [c3]; simp; omega
          clear c1 c2 c3
          by_cases hm : k % 3 = 2
          · have hm3 : ((k : Int).tmod 3 == 2) = true := by rw [Int.tmod_eq_emod_of_nonneg (by omega)]; simp; omega
            go_wp2_with fail
            refine Calls.mono (hnx' l4) ?_
            rintro e _ ⟨rfl, rfl⟩
            go_wp2_with fail

            refine Calls.mono (hro' l4) ?_
            rintro e w5 ⟨rfl, b5⟩
            have l5 := l4.below b5
            have d5 := d4.below b5
            have bk5 := bk4.trans (b5.mono bk4.size)
            clear b5 l4 d4
            go_wp2_with fail
            refine Calls.mono (hnx' l5) ?_
            rintro e _ ⟨rfl, rfl⟩
            go_wp2_with fail
            refine Calls.mono (hta' l5) ?_
            rintro e _ ⟨rfl, rfl⟩

            go_wp2_with fail
            refine Calls.mono (hnx' l5) ?_
            rintro e _ ⟨rfl, rfl⟩
            have htr := trim_any l5 (x' : Int)
            rw [(show trimE l' (x' : Int) = 0 by rw [← HX'.out]; exact (trim_next l' HI.out.live.ok.tn).1), (show l'.trim (x' : Int) = { l' with tail := x' } by rw [← HX'.out]; exact (trim_next l' HI.out.live.ok.tn).2)] at htr
            go_wp2_with fail
            refine Calls.mono htr ?_
            rintro e w6 ⟨rfl, l6, o6, b6⟩
            have d6 := d5.fr (trim_fr l5 o6 b6) KG_FK
            have bk6 := bk5.trans (b6.mono hlB)
            have HI6 : Hid (RInv d' { l' with tail := x' } n (k + 1)) := Lib.hid (by rw [← HX'.out]; exact HI.out.trim (by omega))
            clear htr d5 l5 o6 b6 bk5 hnx' hro' hta' HI
            go_wp2
            go_roundw
            case rel => exact ⟨k + 1, _, _, by omega, by omega, by go_num, HI6, d6, l6, bk6⟩
            case measure => simp [intOf]; omega
          · have hm3 : ((k : Int).tmod 3 == 2) = false := by rw [Int.tmod_eq_emod_of_nonneg (by omega)]; simp; omega
            go_wp2_with fail
            refine Calls.mono (hnx' l4) ?_
            rintro e _ ⟨rfl, rfl⟩
            go_wp2_with fail

            refine Calls.mono (hro' l4) ?_
            rintro e w5 ⟨rfl, b5⟩
            have l5 := l4.below b5
            have d5 := d4.below b5
            have bk5 := bk4.trans (b5.mono bk4.size)
            clear b5 l4 d4
            go_wp2_with fail
            refine Calls.mono (hnx' l5) ?_
            rintro e _ ⟨rfl, rfl⟩
            go_wp2_with fail
            refine Calls.mono (hta' l5) ?_
            rintro e _ ⟨rfl, rfl⟩

            clear hnx' hro' hta'
            go_wp2
            go_roundw
            case rel => exact ⟨k + 1, _, _, by omega, by omega, by go_num, HI, d5, l5, bk5⟩
            case measure => simp [intOf]; omega
      · skip
        have hq : IntKind.i64.wrap ((l.next : Int) + 1) = ((l.next + 1 : Nat) : Int) := by rw [IntKind.wrap_i64]; have := hinv.out.next; omega
        have hnx := next_any lk
        have htr := trim_any lk ((l.next + 1 : Nat) : Int)
        rw [trim_past] at htr
        have hnb := hinv.out.next
        obtain ⟨y, hy⟩ : ∃ y, l.next = y := ⟨_, rfl⟩
        rw [hy] at hq hnx htr hnb
        have hy2 : ((y + 1 : Nat) : Int) = (y : Int) + 1 := by omega
        rw [hy2] at htr hq
        clear hy hy2
        go_wp2_with fail
        refine Calls.mono hnx ?_
        rintro e _ ⟨rfl, rfl⟩
        go_wp2_with fail
        refine Calls.mono htr ?_
        rintro e w6 ⟨rfl, l6, o6, b6⟩
        have bk6 := bk.trans (b6.mono hlB)
        clear htr hnx l6 o6 b6 dk lk bk
        go_wp2
        go_ret
        exact ⟨rfl, bk6⟩
    · skip
      have hq : IntKind.i64.wrap ((l.next : Int) + 1) = ((l.next + 1 : Nat) : Int) := by rw [IntKind.wrap_i64]; have := hinv.out.next; omega
      have hnx := next_any lk
      have htr := trim_any lk ((l.next + 1 : Nat) : Int)
      rw [trim_past] at htr
      have hnb := hinv.out.next
      obtain ⟨y, hy⟩ : ∃ y, l.next = y := ⟨_, rfl⟩
      rw [hy] at hq hnx htr hnb
      have hy2 : ((y + 1 : Nat) : Int) = (y : Int) + 1 := by omega
      rw [hy2] at htr hq
      clear hy hy2
      go_wp2_with fail
      refine Calls.mono hnx ?_
      rintro e _ ⟨rfl, rfl⟩
      go_wp2_with fail
      refine Calls.mono htr ?_
      rintro e w6 ⟨rfl, l6, o6, b6⟩
      have bk6 := bk.trans (b6.mono hlB)
      clear htr hnx l6 o6 b6 dk lk bk
      go_wp2
      go_ret
      exact ⟨rfl, bk6⟩

/-! ### the row -/
theorem laidOut : laidOutB Try.prog = true := by kernel_rfl
theorem bytesInt : Try.prog.bytesOf 3 = 8 := by kernel_rfl
set_option maxRecDepth 100000 in
theorem lifted (os : Os) (started : os.Started) (H : Type) (enc : TypeId × Value → H) :
    ReturnsInHanded {} Try.checked os 5 .any (Rows.walRoundsSpec.pre6 enc Try.prog Try.f5 Rows.walRoundsRow.domain false) (Rows.walRoundsSpec.post enc Try.prog Try.f5 false true false false) := by
  refine returnsInHanded_of_change_sized (C := Try.checked) own started (by kernel_rfl) Try.func5
    (ChangeSpec.witness6 (enc := enc) (C := Try.checked) false ⟨#[], #[.int .i64 0, .slice none 0 0], []⟩ 8 (by kernel_rfl) (by kernel_rfl) (by kernel_rfl) (by kernel_rfl)) ?_
  intro W base args ds gs before hval0 hW hcnd hsz0 _
  have hval : ∀ (j : Nat) t v, Try.f5.params[j]? = some t → args[j]? = some v → Value.okWide Try.prog W .any base t v := hval0
  have hW' := hW
  obtain ⟨p, q, hA0, hV, rfl, hfz, hnd⟩ := hW
  have hA : DataW.TrodAll enc Try.prog W 0 (fun _ => true) true Try.f5.params.toList args.toList ds p := hA0
  have hsz : (DataW.weightsEach Try.prog (Try.f5.params.toList ++ Rows.walRoundsSpec.plain.varTypes Try.prog) (ds ++ gs)).all (· ≤ reachBytes) = true := hsz0
  rw [Try.params5] at hA hval hsz
  obtain ⟨v0, vs0, d0, ds0, p0, q0, hargs, rfl, rfl, h0, r0⟩ := trodAll_cons hA
  obtain ⟨v1, vs1, d1, ds1, p1, q1, rfl, rfl, rfl, h1, r1⟩ := trodAll_cons r0
  obtain ⟨rfl, rfl, rfl⟩ := trodAll_nil r1
  obtain rfl : args = #[v0, v1] := by cases args; simp_all
  obtain ⟨rfl, rfl⟩ := trodVars_none hV
  obtain ⟨a0, rfl, rfl, rfl, w0⟩ := open_int Try.underlying3 (hval 0 3 v0 rfl rfl) h0
  have k1 := h1
  have lt1 := args_lt k1
  obtain ⟨z1, w1⟩ := ints_arg Try.underlying45 Try.underlying3 (by kernel_rfl) (hval 1 45 v1 rfl rfl) (fun el sp e => by subst e; have := sized_slice hsz (j := 1) (t := 45) (e := 3) rfl rfl Try.underlying45; rwa [bytesInt] at this) h1
  clear hA0 hval0 hsz0
  refine (walk a0 w0 v1 z1 W w1).mono fun e W' ⟨he, bel⟩ => ?_
  subst he
  exact ⟨_, rfl, _, _, _, [], _, [], hW', trodAll_mk1 (shut_bool Try.underlying4 _), (trodAll_cons_mk (shut_int Try.underlying3 w0) (trodAll_cons_mk (Below.trod laidOut (by kernel_rfl) (of_decide_eq_true (by kernel_rfl)) k1 bel lt1) trodAll_mk0)), rfl, bel.frame _, fun h => by cases h⟩

theorem over : Rows.walRoundsRow.holds Try.pinned (OpenSpec.ofChange Rows.walRoundsSpec) :=
  OpenClaim.holds_of_wide 5 Try.f5 rfl rfl rfl rfl rfl rfl rfl ⟨rfl, rfl, rfl, rfl, rfl⟩ rfl rfl rfl rfl rfl (by kernel_rfl) Try.func5 (by kernel_rfl)
    (of_decide_eq_true (by kernel_rfl)) (by unfold Func.isWrapper; first | (rw [if_pos (by decide +kernel)]; kernel_rfl) | (rw [if_neg (by decide +kernel)]; exact ⟨rfl, rfl⟩))
    (fun os started H enc _ => lifted os started H enc)
end Go.Proofs.Ytehomlbkipgocaa.walRounds

namespace Go.Proofs.Ytehomlbkipgocaa
/-- The law returns true at every input. -/
theorem walRounds_holds : Rows.WalRoundsSaid := walRounds.over
end Go.Proofs.Ytehomlbkipgocaa

