/- Behind every crash there stand the first ones of what was appended, all that was flushed among them: the law cisternlaw08.WalKeeps returns true at every input. No condition. -/
import Derived.Test.YtbgefdigmdfalaaWKeepK
import Derived.Test.YtbgefdigmdfalaaWKnown
namespace Go.Proofs.Ytbgefdigmdfalaa.walKeeps
set_option maxRecDepth 20000
open Go.RowKit Go.ChangeShapes Go.WideShapes Go.ChangeAt

theorem own : ownKnob Try.prog.godebug = none := by kernel_rfl
structure St (W w : World) (db lb N : Nat) (d : Dev) (l : Wl) (v : Value) (L : List (List Im)) : Prop where
  t : OutT W.heap.size w v L
  d : DevAt W.heap.size w db d N
  l : WlAt w lb db l
  b : Below W.heap.size W w
theorem St.below {W w w' : World} {db lb N : Nat} {d : Dev} {l : Wl} {v : Value} {L : List (List Im)} (h : St W w db lb N d l v L) (hb : Below w.heap.size w w') : St W w' db lb N d l v L :=
  ⟨h.t.below hb, h.d.below hb, h.l.below hb, h.b.trans (hb.mono h.b.size)⟩
theorem oks {B : Nat} {w : World} {v : Value} {l : List Im} (h : ImgsAt B w v l) : ∀ x ∈ l, x.ok := by
  obtain ⟨_, _, _, _, _, h, _⟩ := h; exact h
theorem appL_ep (d : Dev) (l : Wl) (a : List Im) : Value.int .i64 ((appL d l a).epoch : Nat) = .int .i64 (l.epoch : Nat) ∧ Value.int .i64 ((appL d l a).tail : Nat) = .int .i64 (l.tail : Nat) := by
  unfold appL; split <;> exact ⟨rfl, rfl⟩
theorem trim_frK {w w' : World} {lb db : Nat} {l : Wl} (h : WlAt w lb db l) (h1 : ∀ k, k ≠ lb → w'.heap[k]? = w.heap[k]?) (h2 : Below lb w w') : Fr KG 0 w w' :=
  ⟨h2.os, h2.tape, h2.output, h2.size, fun k o hk hko => by
    by_cases e : k = lb
    · subst e
      have e2 := hk.symm.trans h
      cases e2
      rcases hko with hko | hko
      · omega
      · simp [KG] at hko
    · exact (h1 k e).trans hk⟩
set_option maxHeartbeats 12800000 in
set_option maxRecDepth 400000 in
theorem walk (a0 : Int) (_ : (Lit.int .i64 a0).wf = true) (v1 : Value) (z1 : List OpW) (W : World) (w1 : OpsArg W v1 z1) :
    Calls Try.prog 4 #[.int .i64 a0, v1] W fun e w' => e = .returned (.bool true) ∧ Below W.heap.size W w' := by
  obtain ⟨po, pcap, rfl, hplen⟩ := w1.form
  obtain ⟨a, ha, ea⟩ := mod_form a0 12 (by decide) (by decide)
  go_enter Try.func4, Try.ntmps4
  go_wp2_with fail
  refine (wknown_any W).mono ?_
  rintro e wa ⟨rfl, ba⟩
  go_wp2_with fail
  obtain ⟨n, hn⟩ : ∃ n : Nat, (2 : Int) + (a : Int) = n := ⟨2 + a, by omega⟩
  rw [hn]
  have hn2 : 2 ≤ n := by omega
  have hn13 : n ≤ 13 := by omega
  clear hn ea ha
  refine (new_any W.heap.size wa n (by omega) (by omega) ba.size).mono ?_
  rintro e wb ⟨rfl, db0, bb, -⟩
  obtain ⟨db, hdb⟩ : ∃ x, wa.heap.size = x := ⟨_, rfl⟩
  rw [hdb] at db0
  rw [hdb]
  have bc : Below W.heap.size W wb := ba.trans (bb.mono ba.size)
  have hs := bc.size
  obtain ⟨hob, hks⟩ := KS.start hn2 hn13
  have hop := open_yes db0 (by show 0 < 1000000; decide) hob (read_not4 rfl ⟨by omega, by show ((0 : Nat) : Int) < (n : Nat); omega⟩)
  rw [fresh_scan (by omega) hob] at hop
  clear hob ba bb hdb
  go_wp2_with fail
  refine Calls.mono hop ?_
  rintro e wc ⟨lb0, v, rfl, hlb, tv, lc, dc, bC⟩
  have bd := bc.trans (bC.mono hs)
  have hlB : W.heap.size ≤ lb0 := Nat.le_trans hs hlb
  obtain ⟨vo, vm, vc, hvv, hvm⟩ := tv.form'
  obtain rfl : vm = 0 := hvm.out
  subst hvv
  clear hvm
  replace lc : WlAt wc lb0 db (wl0 0 n 0 1) := lc
  have ee0 : (1 : Int) = ((wl0 0 n 0 1).epoch : Nat) := rfl
  have et0 : (0 : Int) = ((wl0 0 n 0 1).tail : Nat) := rfl
  generalize Dev.fresh n = d0 at dc hks
  generalize wl0 0 n 0 1 = l0 at lc hks ee0 et0
  have E0 := Lib.hid ee0
  have T0 := Lib.hid et0
  clear hop tv bC bc hs hlb db0 ee0 et0
  go_wp2
  go_loopw [7, 8, 10, 11, 12, 13] (fun ev lv hv sv tv iv wr => ∃ (k N : Nat) (d : Dev) (l : Wl) (T : Txs) (m : Nat) (X : List (List Im)) (lb : Nat), k ≤ 60 ∧ k ≤ z1.length ∧ iv = .int .i64 k ∧ ev = .int .i64 (l.epoch : Nat) ∧ lv = .pointer (some ⟨lb, 0, none⟩) ∧ sv = .int .i64 (m : Nat) ∧ tv = .int .i64 (l.tail : Nat) ∧ Hid (KS d l n T m X k N) ∧ W.heap.size ≤ lb ∧ OutT W.heap.size wr hv (imgT T ++ X) ∧ DevAt W.heap.size wr db d N ∧ WlAt wr lb db l ∧ Below W.heap.size W wr) (fun _ _ _ _ _ iv _ => z1.length - (intOf iv).toNat)
  case atStart => exact ⟨0, 0, d0, l0, [], 0, [], lb0, Nat.zero_le _, Nat.zero_le _, rfl, by rw [← E0.out], rfl, rfl, by rw [← T0.out], Lib.hid hks, hlB, OutT.nil _ _, dc, lc, bd⟩
  case round =>
    clear dc lc bd hks hlB E0 T0 d0 l0
    obtain ⟨k, N, d, l, T, m, X, lb, hk60, hkl, rfl, rfl, rfl, rfl, rfl, hk, hlB, ht, dk, lk, bk⟩ := hrel
    by_cases hlt : k < z1.length
    · by_cases h60 : k < 60
      · obtain ⟨ob, off, hoe, hok, cK, cN, cI, cP⟩ := w1.get bk hlt
        subst hoe
        obtain ⟨y, hy⟩ : ∃ y, opAt z1 k = y := ⟨_, rfl⟩
        rw [hy] at hok cK cN cI cP
        clear hy
        obtain ⟨K, zn, ims, zs, iv, pv⟩ := y
        simp only at cK cN cI cP
        obtain ⟨o1, o2, o3, o4⟩ := hok
        simp only at o1 o2 o3 o4
        obtain ⟨io, im, ic, hiv⟩ : ∃ io im ic, iv = .slice io im ic := by obtain ⟨ao, cap, h, -⟩ := o3; exact ⟨_, _, _, h⟩
        obtain ⟨qo, qm, qc, hpv⟩ : ∃ io im ic, pv = .slice io im ic := by obtain ⟨ao, cap, h, -⟩ := o4.1.form; exact ⟨_, _, _, h⟩
        subst hiv
        subst hpv
        obtain ⟨ho, hm, hc, hhv, hhm⟩ := ht.form'
        subst hhv
        by_cases q1 : K = 1
        · subst q1
          have e1 : ((1 : Int) == 1) = true := by decide
          have bn0 := below_new wr (.cells #[.int .i64 1, .int .i64 zn, .slice io im ic, .slice qo qm qc] 47)
          have H0 := (St.mk ht dk lk bk).below bn0
          have cB : True := trivial
          clear bn0 ht dk lk bk
          have hso := some_any o3 H0.b
          go_wp2_with fail
          refine Calls.mono hso ?_
          rintro e w2 ⟨u, rfl, ou, bu⟩
          have io : ∀ x ∈ ims.take 20, x.ok := fun x hx => oks o3 x (List.mem_of_mem_take hx)
          obtain ⟨uo, um, uc, huv, -⟩ := ou.form'
          subst huv
          have ri := ou.reads io (by rw [List.length_take]; omega)
          have H2 := H0.below bu
          have hap := append_fr H2.d H2.l hk.out.inv.ok (by have := hk.out.waits; omega) H2.b.size hlB ri.k
          clear hso ou bu H0 cB
          rcases hk.out.append (ims.take 20) io with ⟨g, T', X', eL, hk'⟩ | ⟨g, T', X', eL, hk'⟩ | ⟨g0, g4, hk'⟩
          · rw [g] at hap
            generalize appDev d l (ims.take 20) = d' at hap hk'
            have HEP := Lib.hid (appL_ep d l (ims.take 20))
            generalize appL d l (ims.take 20) = l' at hap hk' HEP
            have HI := Lib.hid hk'
            clear g hk'
            go_wp2_with fail
            refine Calls.mono hap ?_
            rintro e w3 ⟨rfl, d3, l3, f3⟩
            have H3 : St W w3 db lb N d' l' (.slice ho hm hc) (imgT T ++ X) := ⟨H2.t.fr f3 FG_img FG_lst, d3, l3, H2.b.trans (f3.below H2.b.size)⟩
            have r3 := ri.fr f3 FG_img
            clear hap f3 d3 l3 H2 ri
            have hbl := build_lst_one w3 uo um uc
            have bn3 := below_new w3 (.cells #[.slice uo um uc] 44)
            have H4 := H3.below bn3
            have hz4 : (w3.alloc (.cells #[.slice uo um uc] 44)).heap.size = w3.heap.size + 1 := by simp
            obtain ⟨v5, w5, hr5, t5, f5⟩ := outt_push H4.t (by have := H3.b.size; omega) (heap_alloc_new w3 (.cells #[.slice uo um uc] 44)) (r3.below bn3) (by have := hk.out.hl; omega) 34
            rw [← eL] at t5
            have H : St W w5 db lb N d' l' v5 (imgT T' ++ X') := ⟨t5, H4.d.fr f5 KL_FK, f5.keep _ _ H4.l (.inr (KL_log _ _)), H4.b.trans (f5.below H4.b.size)⟩
            obtain ⟨lo5, lm5, lc5, hv5, -⟩ := t5.form'
            subst hv5
            have HR5 := Lib.hid hr5
            have hlB' := hlB
            clear hr5 f5 bn3 hz4 H4 t5 H3 r3 hlB hk eL
            go_wp2_with (with_reducible refine wpList_append_eq rfl (.tmp 77) (.tmp 79) 34 34 rfl (.slice ho hm hc) (.slice (some ⟨w3.heap.size, 0, none⟩) 1 1) (.slice lo5 lm5 lc5) rfl rfl HR5.out ?_)
            go_roundw
            case rel => exact ⟨k + 1, _, _, _, _, _, _, _, by omega, by omega, by go_num, HEP.out.1.symm, rfl, rfl, HEP.out.2.symm, HI, hlB', H.t, H.d, H.l, H.b⟩
            case measure => simp [intOf]; omega
          · rw [g] at hap
            generalize appDev d l (ims.take 20) = d' at hap hk'
            have HEP := Lib.hid (appL_ep d l (ims.take 20))
            generalize appL d l (ims.take 20) = l' at hap hk' HEP
            have HI := Lib.hid hk'
            clear g hk'
            go_wp2_with fail
            refine Calls.mono hap ?_
            rintro e w3 ⟨rfl, d3, l3, f3⟩
            have H3 : St W w3 db lb N d' l' (.slice ho hm hc) (imgT T ++ X) := ⟨H2.t.fr f3 FG_img FG_lst, d3, l3, H2.b.trans (f3.below H2.b.size)⟩
            have r3 := ri.fr f3 FG_img
            clear hap f3 d3 l3 H2 ri
            have hbl := build_lst_one w3 uo um uc
            have bn3 := below_new w3 (.cells #[.slice uo um uc] 44)
            have H4 := H3.below bn3
            have hz4 : (w3.alloc (.cells #[.slice uo um uc] 44)).heap.size = w3.heap.size + 1 := by simp
            obtain ⟨v5, w5, hr5, t5, f5⟩ := outt_push H4.t (by have := H3.b.size; omega) (heap_alloc_new w3 (.cells #[.slice uo um uc] 44)) (r3.below bn3) (by have := hk.out.hl; omega) 34
            rw [← eL] at t5
            have H : St W w5 db lb N d' l' v5 (imgT T' ++ X') := ⟨t5, H4.d.fr f5 KL_FK, f5.keep _ _ H4.l (.inr (KL_log _ _)), H4.b.trans (f5.below H4.b.size)⟩
            obtain ⟨lo5, lm5, lc5, hv5, -⟩ := t5.form'
            subst hv5
            have HR5 := Lib.hid hr5
            have hlB' := hlB
            clear hr5 f5 bn3 hz4 H4 t5 H3 r3 hlB hk eL
            go_wp2_with (with_reducible refine wpList_append_eq rfl (.tmp 83) (.tmp 85) 34 34 rfl (.slice ho hm hc) (.slice (some ⟨w3.heap.size, 0, none⟩) 1 1) (.slice lo5 lm5 lc5) rfl rfl HR5.out ?_)
            go_roundw
            case rel => exact ⟨k + 1, _, _, _, _, _, _, _, by omega, by omega, by go_num, HEP.out.1.symm, rfl, rfl, HEP.out.2.symm, HI, hlB', H.t, H.d, H.l, H.b⟩
            case measure => simp [intOf]; omega
          · generalize appE d l (ims.take 20) = g at hap g0 g4
            generalize appDev d l (ims.take 20) = d' at hap hk'
            have HEP := Lib.hid (appL_ep d l (ims.take 20))
            generalize appL d l (ims.take 20) = l' at hap hk' HEP
            have HI := Lib.hid hk'
            clear hk'
            go_wp2_with fail
            refine Calls.mono hap ?_
            rintro e w3 ⟨rfl, d3, l3, f3⟩
            have H : St W w3 db lb N d' l' (.slice ho hm hc) (imgT T ++ X) := ⟨H2.t.fr f3 FG_img FG_lst, d3, l3, H2.b.trans (f3.below H2.b.size)⟩
            have hlB' := hlB
            clear hap f3 d3 l3 H2 ri hlB hk
            go_wp2
            go_roundw
            case rel => exact ⟨k + 1, _, _, _, _, _, _, _, by omega, by omega, by go_num, HEP.out.1.symm, rfl, rfl, HEP.out.2.symm, HI, hlB', H.t, H.d, H.l, H.b⟩
            case measure => simp [intOf]; omega
        · by_cases q2 : K = 2
          · subst q2
            have e1 : ((2 : Int) == 1) = false := by decide
            have e2 : ((2 : Int) == 2) = true := by decide
            have bn0 := below_new wr (.cells #[.int .i64 2, .int .i64 zn, .slice io im ic, .slice qo qm qc] 47)
            have H0 := (St.mk ht dk lk bk).below bn0
            have cB : True := trivial
            clear bn0 ht dk lk bk
            have hfl := flush_any H0.d (by have := hk.out.waits; have := hk.out.nk; unfold maxLen; omega) (by have := hk.out.waits; omega)
            have hlB' := hlB
            rcases hk.out.flush with ⟨g, hX, hk'⟩ | ⟨g, hk'⟩
            · rw [g] at hfl
              generalize d.flush.2 = d' at hfl hk'
              generalize N + d.waits.length = N' at hfl hk'
              subst hX
              have hmT : hm = T.length := by rw [hhm.out, List.append_nil, imgT_length]
              have HMT := Lib.hid hmT
              have HI := Lib.hid hk'
              clear g hk' hhm hmT
              go_wp2_with fail
              refine Calls.mono hfl ?_
              rintro e w3 ⟨rfl, d3, f3⟩
              have H : St W w3 db lb N' d' l (.slice ho hm hc) (imgT T ++ []) := ⟨H0.t.fr f3 FK_img FK_lst, d3, H0.l.fr f3, H0.b.trans (f3.below H0.b.size)⟩
              clear hfl f3 d3 H0 hlB hk cB
              go_wp2
              go_roundw
              case rel => exact ⟨k + 1, _, _, _, _, _, _, _, by omega, by omega, by go_num, rfl, rfl, by rw [HMT.out], rfl, HI, hlB', H.t, H.d, H.l, H.b⟩
              case measure => simp [intOf]; omega
            · rw [g] at hfl
              generalize d.flush.2 = d' at hfl hk'
              generalize N + d.waits.length = N' at hfl hk'
              have HI := Lib.hid hk'
              clear g hk' hhm
              go_wp2_with fail
              refine Calls.mono hfl ?_
              rintro e w3 ⟨rfl, d3, f3⟩
              have H : St W w3 db lb N' d' l (.slice ho hm hc) (imgT T ++ X) := ⟨H0.t.fr f3 FK_img FK_lst, d3, H0.l.fr f3, H0.b.trans (f3.below H0.b.size)⟩
              clear hfl f3 d3 H0 hlB hk cB
              go_wp2
              go_roundw
              case rel => exact ⟨k + 1, _, _, _, _, _, _, _, by omega, by omega, by go_num, rfl, rfl, rfl, rfl, HI, hlB', H.t, H.d, H.l, H.b⟩
              case measure => simp [intOf]; omega
          · by_cases q3 : K = 3
            · subst q3
              have e1 : ((3 : Int) == 1) = false := by decide
              have e2 : ((3 : Int) == 2) = false := by decide
              have e3 : ((3 : Int) == 3) = true := by decide
              have bn0 := below_new wr (.cells #[.int .i64 3, .int .i64 zn, .slice io im ic, .slice qo qm qc] 47)
              have H0 := (St.mk ht dk lk bk).below bn0
              have cB : True := trivial
              clear bn0 ht dk lk bk
              by_cases hm0 : hm = 0
              · subst hm0
                have H := H0
                have HI := Lib.hid hk.out.more
                have hlB' := hlB
                clear H0 hk hlB cB
                go_wp2
                go_roundw
                case rel => exact ⟨k + 1, _, _, _, _, _, _, _, by omega, by omega, by go_num, rfl, rfl, rfl, rfl, HI, hlB', H.t, H.d, H.l, H.b⟩
                case measure => simp [intOf]; omega
              · have hmp : 0 < hm := by omega
                by_cases he1 : l.epoch = 1
                · have he : (((l.epoch : Nat) : Int) == 1) = true := by rw [he1]; rfl
                  have HE1 := Lib.hid he1
                  have hfl := flush_any H0.d (by have := hk.out.waits; have := hk.out.nk; unfold maxLen; omega) (by have := hk.out.waits; omega)
                  have hlB' := hlB
                  clear he1
                  rcases hk.out.flush with ⟨g, hX, -⟩ | ⟨g, hk'⟩
                  · subst hX
                    cases T with
                    | nil => exact absurd hhm.out (by simp [imgT]; omega)
                    | cons x T =>
                      have hks := hk.out
                      have hk60 := hk60
                      obtain ⟨t1, t2, t3, hk'⟩ := hks.trim (by omega) HE1.out g
                      rw [g] at hfl
                      have HHM : Hid (hm = T.length + 1) := Lib.hid (by rw [hhm.out]; simp [imgT])
                      generalize d.flush.2 = d' at hfl hk'
                      generalize N + d.waits.length = N' at hfl hk'
                      have HI := Lib.hid hk'
                      have HT2 := Lib.hid t2
                      have HT3 := Lib.hid t3
                      have htk := hks.tk
                      have hxl : x.2.length + 1 ≤ 13 := by
                        have h1 := hks.inv.room
                        have h2 := hks.n13
                        simp only [lenT] at h1
                        omega
                      have hnx : l.next ≤ 14 * k + 13 := by
                        have h1 := hks.inv.next
                        have h2 := hks.inv.room
                        have h3 := hks.n13
                        omega
                      clear g hk' hhm hks t2 t3
                      go_wp2_with fail
                      refine Calls.mono hfl ?_
                      rintro e w3 ⟨rfl, d3, f3⟩
                      have H3 : St W w3 db lb N' d' l (.slice ho hm hc) (imgT (x :: T) ++ []) := ⟨H0.t.fr f3 FK_img FK_lst, d3, H0.l.fr f3, H0.b.trans (f3.below H0.b.size)⟩
                      clear hfl f3 d3 H0 hlB hk cB
                      obtain ⟨-, hmc, hcl⟩ := H3.t.cap
                      obtain ⟨b, off, u, hoe, hbl, c0, ru⟩ := H3.t.get (i := 0) (by simp [imgT])
                      subst hoe
                      have hu : lstAt (imgT (x :: T) ++ []) 0 = x.2 := rfl
                      rw [hu] at ru
                      obtain ⟨xo, xm, xc, hxv, hxm⟩ : ∃ a m c, u = .slice a m c ∧ m = x.2.length := by obtain ⟨ao, cap, h, -⟩ := ru; exact ⟨_, _, _, h, rfl⟩
                      subst hxv
                      rw [Nat.add_zero] at c0
                      rw [← hxm] at t1 hxl
                      have HXM := Lib.hid hxm
                      have hnx3 := next_any H3.l
                      clear hu hxm ru
                      go_wp2_with fail
                      refine Calls.mono hnx3 ?_
                      rintro e _ ⟨rfl, rfl⟩
                      have ecast : ((l.tail : Nat) : Int) + (xm : Nat) + 1 = ((l.tail + (x.2.length + 1) : Nat) : Int) := by rw [← HXM.out]; omega
                      have hgt : decide (((l.next : Nat) : Int) < ((l.tail : Nat) : Int) + (xm : Nat) + 1) = false := by simp; omega
                      have htr := trim_any H3.l (((l.tail : Nat) : Int) + (xm : Nat) + 1)
                      rw [ecast, HT2.out, HT3.out, ← ecast] at htr
                      have EC := Lib.hid ecast
                      clear hnx3 ecast
                      go_wp2_with fail
                      refine Calls.mono htr ?_
                      rintro e w4 ⟨rfl, l4, k4, b4⟩
                      have f4 := trim_frK H3.l k4 b4
                      have t4 := H3.t.fr f4 KG_img KG_lst
                      have d4 := H3.d.fr f4 KG_FK
                      have b4' : Below W.heap.size W w4 := H3.b.trans (b4.mono hlB')
                      have hsm := (show (imgT (x :: T) ++ []) = x.2 :: (imgT T ++ []) by simp [imgT])
                      rw [hsm] at t4
                      clear htr k4 b4 f4 H3 hsm c0
                      have t5 : OutT W.heap.size w4 (.slice (if hc = 1 then some ⟨b, off, none⟩ else some ⟨b, off + 1, none⟩) (hm - 1) (hc - 1)) (imgT T ++ []) := by
                        split
                        · rename_i h1
                          exact t4.tail (.inr ⟨h1, rfl⟩)
                        · exact t4.tail (.inl rfl)
                      have ESV : Value.int .i64 (wrap64 ((hm : Int) - 1)) = .int .i64 (T.length : Nat) := by
                        have h1 := HI.out.hl
                        rw [List.append_nil, imgT_length] at h1
                        rw [HHM.out, show (((T.length + 1 : Nat) : Int) - 1) = ((T.length : Nat) : Int) by omega, show wrap64 ((T.length : Nat) : Int) = ((T.length : Nat) : Int) by unfold wrap64; omega]
                      have ETV : Value.int .i64 (((l.tail : Nat) : Int) + (xm : Nat) + 1) = .int .i64 (({ l with tail := l.tail + (x.2.length + 1) } : Wl).tail : Nat) := congrArg (Value.int .i64) EC.out
                      have ES := Lib.hid ESV
                      have ET := Lib.hid ETV
                      clear t4 ESV ETV
                      go_wp2
                      go_roundw
                      case rel => exact ⟨k + 1, _, _, { l with tail := l.tail + (x.2.length + 1) }, _, _, _, _, by omega, by omega, by go_num, rfl, rfl, ES.out, ET.out, HI, hlB', t5, d4, l4, b4'⟩
                      case measure => simp [intOf]; omega
                  · rw [g] at hfl
                    generalize d.flush.2 = d' at hfl hk'
                    generalize N + d.waits.length = N' at hfl hk'
                    have HI := Lib.hid hk'
                    clear g hk' hhm
                    go_wp2_with fail
                    refine Calls.mono hfl ?_
                    rintro e w3 ⟨rfl, d3, f3⟩
                    have H : St W w3 db lb N' d' l (.slice ho hm hc) (imgT T ++ X) := ⟨H0.t.fr f3 FK_img FK_lst, d3, H0.l.fr f3, H0.b.trans (f3.below H0.b.size)⟩
                    clear hfl f3 d3 H0 hlB hk cB
                    go_wp2
                    go_roundw
                    case rel => exact ⟨k + 1, _, _, _, _, _, _, _, by omega, by omega, by go_num, rfl, rfl, rfl, rfl, HI, hlB', H.t, H.d, H.l, H.b⟩
                    case measure => simp [intOf]; omega
                · have he : (((l.epoch : Nat) : Int) == 1) = false := by simp; omega
                  clear he1
                  have H := H0
                  have HI := Lib.hid hk.out.more
                  have hlB' := hlB
                  clear H0 hk hlB cB hhm
                  go_wp2
                  go_roundw
                  case rel => exact ⟨k + 1, _, _, _, _, _, _, _, by omega, by omega, by go_num, rfl, rfl, rfl, rfl, HI, hlB', H.t, H.d, H.l, H.b⟩
                  case measure => simp [intOf]; omega
            · by_cases q4 : K = 4
              · subst q4
                have e1 : ((4 : Int) == 1) = false := by decide
                have e2 : ((4 : Int) == 2) = false := by decide
                have e3 : ((4 : Int) == 3) = false := by decide
                have e4 : ((4 : Int) == 4) = true := by decide
                have bn0 := below_new wr (.cells #[.int .i64 4, .int .i64 zn, .slice io im ic, .slice qo qm qc] 47)
                have H0 := (St.mk ht dk lk bk).below bn0
                have cB : True := trivial
                clear bn0 ht dk lk bk
                obtain ⟨v2, w2, hr2, o2, b2⟩ := copy_intsW o4 H0.b
                obtain ⟨so, sm, sc, hsv⟩ : ∃ a m c, v2 = .slice a m c := by obtain ⟨a, c, h, -⟩ := ownsRow_form o2; exact ⟨_, _, _, h⟩
                subst hsv
                have hz : (wr.alloc (.cells #[.int .i64 4, .int .i64 zn, .slice io im ic, .slice qo qm qc] 47)).heap.size = wr.heap.size + 1 := by simp
                have hbz := build0_w (wr.alloc (.cells #[.int .i64 4, .int .i64 zn, .slice io im ic, .slice qo qm qc] 47))
                have H2 := H0.below b2
                have hzl : zs.length ≤ 9223372036854775807 := by obtain ⟨_, _, _, h, -⟩ := o4.1.form; exact h
                have hks := hk.out
                have hcr := crash_any H2.d (by have := hks.waits; have := hks.nk; unfold maxLen; omega) (by have := hks.waits; omega) (OwnS.ints o2 hzl W.heap.size)
                obtain ⟨m', nx, q1, q2, q3, q4, q5, q6, q7, q8, hk'⟩ := hks.crash (by omega) zs
                rw [hz] at hr2 hbz
                have HR2 := Lib.hid hr2
                have Q3 := Lib.hid q3
                have Q4 := Lib.hid q4
                have HI := Lib.hid hk'
                have hek := hks.ek
                have hhl := hks.hl
                have htk := hks.tk
                clear hr2 o2 b2 H0 hks q3 q4 hk' hz hk hzl
                go_wp2_with (with_reducible refine wpList_append_eq rfl (.tmp 133) (.tmp 135) 45 45 rfl (.slice (some ⟨wr.heap.size + 1, 0, none⟩) 0 0) (.slice qo qm qc) (.slice so sm sc) rfl rfl HR2.out ?_)
                refine Calls.mono hcr ?_
                rintro e w3 ⟨rfl, d3, f3⟩
                have t3 := H2.t.fr f3 FK_img FK_lst
                have b3 : Below W.heap.size W w3 := H2.b.trans (f3.below H2.b.size)
                have hop := open_yes d3 (by rw [q8]; decide) q6 q7
                rw [q5] at hop
                have ee : ((l.epoch + 1 : Nat) : Int) = (l.epoch : Int) + 1 := by omega
                have EE := Lib.hid ee
                rw [ee] at hop
                clear hcr d3 f3 H2 HR2 hbz q5 q6 q7 q8 ee
                go_wp2_with fail
                refine Calls.mono hop ?_
                rintro e w6 ⟨lb2, v6, rfl, hlb2, t6, l6, d6, b6⟩
                have t4 := t3.below b6
                have b4 : Below W.heap.size W w6 := b3.trans (b6.mono b3.size)
                have hlB' : W.heap.size ≤ lb2 := Nat.le_trans b3.size hlb2
                have t6' := t6.base b3.size
                obtain ⟨xo, xm, xc, hxv, hxm⟩ := t6.form'
                obtain rfl : xm = m' := hxm.out.trans Q4.out
                subst hxv
                have q2' : xm ≤ hm := by rw [hhm.out]; exact q2
                obtain ⟨-, hmc, hcl⟩ := t4.cap
                have tt := t4.take xm q2
                rw [← Q3.out] at tt
                have hsa := sameAll_any t6.lsts tt.lsts
                have Q1 : decide ((xm : Int) < (m : Nat)) = false := by simp; omega
                have Q2 : decide ((hm : Int) < (xm : Nat)) = false := by simp; omega
                clear hop t6 tt t4 t3 b6 b3 hhm hxm hlb2 hcl q2 Q3 Q4
                go_wp2_with fail
                refine Calls.mono hsa ?_
                rintro e w7 ⟨rfl, b7⟩
                have H : St W w7 db lb2 _ _ _ _ _ := (St.mk t6' d6 l6 b4).below b7
                clear hsa t6' d6 l6 b4 b7
                go_wp2
                go_roundw
                case rel => exact ⟨k + 1, _, _, { (wl0 0 n l.tail (l.epoch + 1)) with next := nx }, _, _, _, _, by omega, by omega, by go_num, congrArg (Value.int .i64) EE.out.symm, rfl, rfl, rfl, HI, hlB', by rw [List.append_nil]; exact H.t, H.d, H.l, H.b⟩
                case measure => simp [intOf]; omega
              · by_cases q5 : K = 5
                · subst q5
                  have e1 : ((5 : Int) == 1) = false := by decide
                  have e2 : ((5 : Int) == 2) = false := by decide
                  have e3 : ((5 : Int) == 3) = false := by decide
                  have e4 : ((5 : Int) == 4) = false := by decide
                  have e5 : ((5 : Int) == 5) = true := by decide
                  have bn0 := below_new wr (.cells #[.int .i64 5, .int .i64 zn, .slice io im ic, .slice qo qm qc] 47)
                  have H0 := (St.mk ht dk lk bk).below bn0
                  have cB : True := trivial
                  clear bn0 ht dk lk bk
                  obtain ⟨c, hc9, ec⟩ := mod_form zn 9 (by decide) (by decide)
                  have har := arm_any H0.d ((c : Nat) : Int) (by omega)
                  have HI := Lib.hid (hk.out.arm ((c : Nat) : Int))
                  have hlB' := hlB
                  generalize d.arm ((c : Nat) : Int) = d' at har HI
                  go_wp2_with (simp only [ec])
                  refine Calls.mono har ?_
                  rintro e w3 ⟨rfl, d3, f3⟩
                  have H : St W w3 db lb N d' l (.slice ho hm hc) (imgT T ++ X) := ⟨H0.t.fr f3 FK_img FK_lst, d3, H0.l.fr f3, H0.b.trans (f3.below H0.b.size)⟩
                  clear har f3 d3 H0 hlB hk cB hhm ec
                  go_wp2
                  go_roundw
                  case rel => exact ⟨k + 1, _, _, _, _, _, _, _, by omega, by omega, by go_num, rfl, rfl, rfl, rfl, HI, hlB', H.t, H.d, H.l, H.b⟩
                  case measure => simp [intOf]; omega
                · have e1 : (K == 1) = false := by simpa using q1
                  have e2 : (K == 2) = false := by simpa using q2
                  have e3 : (K == 3) = false := by simpa using q3
                  have e4 : (K == 4) = false := by simpa using q4
                  have e5 : (K == 5) = false := by simpa using q5
                  have bn0 := below_new wr (.cells #[.int .i64 K, .int .i64 zn, .slice io im ic, .slice qo qm qc] 47)
                  have H0 := (St.mk ht dk lk bk).below bn0
                  have cB : True := trivial
                  clear bn0 ht dk lk bk
                  have H := H0
                  have HI := Lib.hid hk.out.more
                  have hlB' := hlB
                  clear H0 hk hlB cB hhm
                  go_wp2
                  go_roundw
                  case rel => exact ⟨k + 1, _, _, _, _, _, _, _, by omega, by omega, by go_num, rfl, rfl, rfl, rfl, HI, hlB', H.t, H.d, H.l, H.b⟩
                  case measure => simp [intOf]; omega
      · go_wp2
        go_ret
        exact ⟨rfl, bk⟩
    · go_wp2
      go_ret
      exact ⟨rfl, bk⟩

/-! ### the row -/
theorem laidOut : laidOutB Try.prog = true := by kernel_rfl
theorem bytesInt : Try.prog.bytesOf 3 = 8 := by kernel_rfl
set_option maxRecDepth 100000 in
theorem lifted (os : Os) (started : os.Started) (H : Type) (enc : TypeId × Value → H) :
    ReturnsInHanded {} Try.checked os 4 .any (Rows.walKeepsSpec.pre6 enc Try.prog Try.f4 Rows.walKeepsRow.domain false) (Rows.walKeepsSpec.post enc Try.prog Try.f4 false true false false) := by
  refine returnsInHanded_of_change_sized (C := Try.checked) own started (by kernel_rfl) Try.func4
    (ChangeSpec.witness6 (enc := enc) (C := Try.checked) false ⟨#[], #[.int .i64 0, .slice none 0 0], []⟩ 8 (by kernel_rfl) (by kernel_rfl) (by kernel_rfl) (by kernel_rfl)) ?_
  intro W base args ds gs before hval0 hW hcnd hsz0 _
  have hval : ∀ (j : Nat) t v, Try.f4.params[j]? = some t → args[j]? = some v → Value.okWide Try.prog W .any base t v := hval0
  have hW' := hW
  obtain ⟨p, q, hA0, hV, rfl, hfz, hnd⟩ := hW
  have hA : DataW.TrodAll enc Try.prog W 0 (fun _ => true) true Try.f4.params.toList args.toList ds p := hA0
  have hsz : (DataW.weightsEach Try.prog (Try.f4.params.toList ++ Rows.walKeepsSpec.plain.varTypes Try.prog) (ds ++ gs)).all (· ≤ reachBytes) = true := hsz0
  rw [Try.params4] at hA hval hsz
  obtain ⟨v0, vs0, d0, ds0, p0, q0, hargs, rfl, rfl, h0, r0⟩ := trodAll_cons hA
  obtain ⟨v1, vs1, d1, ds1, p1, q1, rfl, rfl, rfl, h1, r1⟩ := trodAll_cons r0
  obtain ⟨rfl, rfl, rfl⟩ := trodAll_nil r1
  obtain rfl : args = #[v0, v1] := by cases args; simp_all
  obtain ⟨rfl, rfl⟩ := trodVars_none hV
  obtain ⟨a0, rfl, rfl, rfl, w0⟩ := open_int Try.underlying3 (hval 0 3 v0 rfl rfl) h0
  have k1 := h1
  have lt1 := args_lt k1
  obtain ⟨z1, w1⟩ := ops_arg (hval 1 22 v1 rfl rfl) (fun k hk => of_decide_eq_true (List.all_eq_true.1 hsz _ (DataW.weights_mem_each (j := 1) (t := 22) (d := d1) rfl rfl k hk))) h1
  clear hA0 hval0 hsz0
  refine (walk a0 w0 v1 z1 W w1).mono fun e W' ⟨he, bel⟩ => ?_
  subst he
  exact ⟨_, rfl, _, _, _, [], _, [], hW', trodAll_mk1 (shut_bool Try.underlying4 _), (trodAll_cons_mk (shut_int Try.underlying3 w0) (trodAll_cons_mk (Below.trod laidOut (by kernel_rfl) (of_decide_eq_true (by kernel_rfl)) k1 bel lt1) trodAll_mk0)), rfl, bel.frame _, fun h => by cases h⟩

theorem over : Rows.walKeepsRow.holds Try.pinned (OpenSpec.ofChange Rows.walKeepsSpec) :=
  OpenClaim.holds_of_wide 4 Try.f4 rfl rfl rfl rfl rfl rfl rfl ⟨rfl, rfl, rfl, rfl, rfl⟩ rfl rfl rfl rfl rfl (by kernel_rfl) Try.func4 (by kernel_rfl)
    (of_decide_eq_true (by kernel_rfl)) (by unfold Func.isWrapper; first | (rw [if_pos (by decide +kernel)]; kernel_rfl) | (rw [if_neg (by decide +kernel)]; exact ⟨rfl, rfl⟩))
    (fun os started H enc _ => lifted os started H enc)
end Go.Proofs.Ytbgefdigmdfalaa.walKeeps

namespace Go.Proofs.Ytbgefdigmdfalaa
/-- The law returns true at every input. -/
theorem walKeeps_holds : Rows.WalKeepsSaid := walKeeps.over
end Go.Proofs.Ytbgefdigmdfalaa

