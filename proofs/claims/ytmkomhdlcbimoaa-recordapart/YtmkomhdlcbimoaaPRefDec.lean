/- The contracts of the document's own DocEncode and DocDecode. No statement of the seat is proved here. -/
import Derived.Test.YtmkomhdlcbimoaaPRefEnc
namespace Go.Proofs.Ytmkomhdlcbimoaa
set_option maxRecDepth 20000
open Go.RowKit

def ssize : Value → Nat
  | .string s => s.size
  | _ => 0
set_option maxRecDepth 20000 in
set_option maxHeartbeats 3200000 in
theorem docDecode_any (bs : List UInt8) (hbs : bs.length ≤ 140737488355328) (w : World) : Calls Try.prog 58 #[.string (strOf bs)] w (ItRetE w.heap.size w (decR bs) (decE bs)) := by
  obtain ⟨s0, hs0⟩ : ∃ s, strOf bs = s := ⟨_, rfl⟩
  rw [hs0]
  have HS0 := Lib.hid hs0
  clear hs0
  have hb1 := build_it1
  have hb2 := build_it2
  go_enter Try.func58, Try.ntmps58
  go_wp2
  go_loopw [0, 4] (fun sv lv wr => ∃ s, ∃ (bs' : List UInt8) (acc : List It) (f : Nat), sv = .string s ∧ Hid (strOf bs' = s) ∧ s.size ≤ 140737488355328 ∧ Hid (bs'.length ≤ f) ∧ OwnI w.heap.size wr lv acc ∧ Hid (acc.length ≤ 4000) ∧ Below w.heap.size w wr ∧ Hid (dec f acc bs' = decO bs)) (fun sv _ _ => ssize sv)
  case atStart => exact ⟨_, bs, [], bs.length, rfl, HS0, by rw [← HS0.out, strOf_size]; exact hbs, Lib.hid (Nat.le_refl _), OwnI.nil _ _, Lib.hid (by simp), Below.refl _ _, Lib.hid rfl⟩
  case round =>
    obtain ⟨s, bs', acc, f, rfl, hs, hs9, hf, ho, hacc, hbel, hdec⟩ := hrel
    obtain ⟨lo, lm, lc, hlv, hlm⟩ := ho.form'
    subst hlv
    have hsz : Hid (s.size = bs'.length) := Lib.hid (by rw [← hs.out, strOf_size])
    have hex : Hid (∀ a b, s.extract a b = strOf ((bs'.drop a).take (b - a))) := Lib.hid (fun a b => by rw [← hs.out, extract_strOf])
    have hnone : Hid (decO bs = none → ∀ w', Below w.heap.size w w' → ItRetE w.heap.size w (decR bs) (decE bs) (.returned (.tuple #[.slice none 0 0, .int .i64 2])) w') := Lib.hid (fun hE w' hb => by
      refine ⟨_, by rw [show decE bs = 2 by unfold decE; rw [hE]; rfl], ?_, hb⟩
      rw [show decR bs = [] by unfold decR; rw [hE]; rfl]; exact OwnI.nil _ _)
    by_cases hpos : 0 < s.size
    · obtain ⟨x, k, hx⟩ : ∃ x k, firstI bs' = (x, k) := ⟨_, _, rfl⟩
      have hxok : x.ok := by have := firstI_ok bs'; rwa [hx] at this
      obtain ⟨f', hf'⟩ : ∃ f', f = f' + 1 := ⟨f - 1, by have := hf.out; have := hsz.out; omega⟩
      have hd : Hid (decO bs = if k = 0 ∨ acc.length = 4000 then none else dec f' (acc ++ [x]) (bs'.drop k)) := Lib.hid (by
        rw [← hdec.out, hf', dec, if_neg (by rw [← hsz.out]; omega), hx])
      have HX := Lib.hid hx
      have hg := byte_get s 0 hpos
      have hdl : s.data.toList = bs' := by rw [← hs.out]; simp [strOf]
      rw [hdl] at hg
      have hbl := byteAt_le bs' 0
      generalize hc0 : byteAt bs' 0 = c0 at hg hbl
      have HC0 := Lib.hid hc0
      have hal : acc.length ≤ 4000 := hacc.out
      clear hx hdec hdl hc0
      by_cases q1 : c0 = 1
      · subst q1
        by_cases q2 : 9 ≤ s.size
        · have hfx := HX.out.symm.trans (first_one HC0.out (by rw [← hsz.out]; exact q2))
          obtain ⟨rfl, rfl⟩ := Prod.mk.inj hfx
          have hnum := number_any (s.extract 1 9) (by rw [hex.out, strOf_size, List.length_take]; omega) wr
          have e2 : (s.extract 1 9).data.toList = (bs'.drop 1).take 8 := by rw [hex.out]; simp [strOf]
          rw [e2] at hnum
          generalize le ((bs'.drop 1).take 8) = L at hnum hd hxok
          clear e2 hfx HX
          have hs2 : Hid (strOf (bs'.drop 9) = s.extract 9 s.size) := Lib.hid (by rw [hex.out, hsz.out, List.take_of_length_le (by rw [List.length_drop]; omega)])
          have hsz2 : Hid ((s.extract 9 s.size).size = s.size - 9) := Lib.hid (by rw [← hs2.out, strOf_size, List.length_drop, hsz.out])
          have hf2 : Hid ((bs'.drop 9).length ≤ f') := Lib.hid (by rw [List.length_drop]; have := hf.out; have := hsz.out; omega)
          have hbs := build_slice_one wr ⟨1, wrap64 (L : Int), ⟨#[]⟩⟩
          have hit := items_one wr ⟨1, wrap64 (L : Int), ⟨#[]⟩⟩ hxok
          obtain ⟨v4, w4, hr4, h4, b4, s4⟩ := own_append_items (ho.alloc (.cells #[.int .i64 1, .int .i64 (wrap64 (L : Int)), .string ⟨#[]⟩] 77)) hit (by simp; omega) (by have := hbel.size; simp; omega) 74
          have bb4 := (hbel.alloc hbel.size (.cells #[.int .i64 1, .int .i64 (wrap64 (L : Int)), .string ⟨#[]⟩] 77)).trans b4
          obtain ⟨lo4, lm4, lc4, hv4, hm4⟩ := h4.form'
          subst hv4
          have HR4 := Lib.hid hr4
          have hm5 : Hid (lm4 = lm + 1) := Lib.hid (by rw [hm4.out, hlm.out]; simp)
          clear hr4 hit b4 s4 ho 
          go_wp2_with fail
          refine hnum.mono ?_
          rintro e _ ⟨rfl, rfl⟩
          clear hnum
          by_cases hfull : lm = 4000
          · have hE := Lib.hid (hnone.out (by rw [hd.out, if_pos (.inr (by have := hlm.out; omega))]) w4 bb4)
            obtain rfl : lm4 = 4001 := by have := hm5.out; omega
            subst hfull
            go_wp2_with (with_reducible refine wpList_append_eq rfl (.tmp 18) (.tmp 24) 74 74 rfl (.slice lo 4000 lc) (.slice (some ⟨wr.heap.size, 0, none⟩) 1 1) (.slice lo4 4001 lc4) rfl rfl HR4.out ?_)
            go_ret2
            exact hE.out
          · have hE : Hid (_ = decO bs) := Lib.hid (by rw [hd.out, if_neg (by have := hlm.out; omega)])
            have hl4 : lm4 ≤ 4000 := by have := hm5.out; have := hlm.out; omega
            clear hfull
            go_wp2_with (with_reducible refine wpList_append_eq rfl (.tmp 18) (.tmp 24) 74 74 rfl (.slice lo lm lc) (.slice (some ⟨wr.heap.size, 0, none⟩) 1 1) (.slice lo4 lm4 lc4) rfl rfl HR4.out ?_)
            go_roundw
            case rel => exact ⟨_, _, _, f', rfl, hs2, by rw [hsz2.out]; omega, hf2, h4, Lib.hid (by rw [← hm4.out]; exact hl4), bb4, hE⟩
            case measure => simp only [ssize]; rw [hsz2.out]; omega
        · have hfx := HX.out.symm.trans (first_no (fun e => q2 (by rw [hsz.out]; exact e.2)) (fun e => by have := e.1; rw [HC0.out] at this; omega))
          obtain ⟨rfl, rfl⟩ := Prod.mk.inj hfx
          have hE := Lib.hid (hnone.out (by rw [hd.out, if_pos (.inl rfl)]) wr hbel)
          clear hfx HX
          go_wp2
          go_ret2
          exact hE.out
      · have q1' : ((c0 : Int) == 1) = false := by simp; omega
        by_cases q2 : c0 = 2
        · subst q2
          clear q1 q1'
          by_cases q3 : 3 ≤ s.size
          · have hnum := number_any (s.extract 1 3) (by rw [hex.out, strOf_size, List.length_take]; omega) wr
            have e2 : (s.extract 1 3).data.toList = (bs'.drop 1).take 2 := by rw [hex.out]; simp [strOf]
            rw [e2] at hnum
            have hLt := le_take_lt (bs'.drop 1) 2 (by rw [List.length_drop, ← hsz.out]; omega)
            have hLt' : le ((bs'.drop 1).take 2) < 65536 := hLt
            generalize hL : le ((bs'.drop 1).take 2) = L at hnum hLt'
            have HL := Lib.hid hL
            clear hL hLt e2
            by_cases q4 : L ≤ 50000
            · by_cases q5 : L + 3 ≤ s.size
              · have hfx := HX.out.symm.trans (first_two HC0.out (by rw [← hsz.out]; exact q3) (by rw [HL.out]; exact q4) (by rw [HL.out, ← hsz.out]; exact q5))
                rw [HL.out] at hfx
                obtain ⟨rfl, rfl⟩ := Prod.mk.inj hfx
                have hs2 : Hid (strOf (bs'.drop (3 + L)) = s.extract (3 + L) s.size) := Lib.hid (by rw [hex.out, hsz.out, List.take_of_length_le (by rw [List.length_drop]; omega)])
                have hsz2 : Hid ((s.extract (3 + L) s.size).size = s.size - (3 + L)) := Lib.hid (by rw [← hs2.out, strOf_size, List.length_drop, hsz.out])
                have hf2 : Hid ((bs'.drop (3 + L)).length ≤ f') := Lib.hid (by rw [List.length_drop]; have := hf.out; have := hsz.out; omega)
                have hst : strOf ((bs'.drop 3).take L) = s.extract 3 (3 + L) := by rw [hex.out, show 3 + L - 3 = L by omega]
                rw [hst] at hd hxok
                clear hfx HX hst
                have hbs := build_slice_one wr ⟨2, 0, s.extract 3 (3 + L)⟩
                have hit := items_one wr ⟨2, 0, s.extract 3 (3 + L)⟩ hxok
                obtain ⟨v4, w4, hr4, h4, b4, s4⟩ := own_append_items (ho.alloc (.cells #[.int .i64 2, .int .i64 0, .string (s.extract 3 (3 + L))] 77)) hit (by simp; omega) (by have := hbel.size; simp; omega) 74
                have bb4 := (hbel.alloc hbel.size (.cells #[.int .i64 2, .int .i64 0, .string (s.extract 3 (3 + L))] 77)).trans b4
                obtain ⟨lo4, lm4, lc4, hv4, hm4⟩ := h4.form'
                subst hv4
                have HR4 := Lib.hid hr4
                have hm5 : Hid (lm4 = lm + 1) := Lib.hid (by rw [hm4.out, hlm.out]; simp)
                clear hr4 hit b4 s4 ho
                go_wp2_with fail
                refine hnum.mono ?_
                rintro e _ ⟨rfl, rfl⟩
                clear hnum
                by_cases hfull : lm = 4000
                · have hE := Lib.hid (hnone.out (by rw [hd.out, if_pos (.inr (by have := hlm.out; omega))]) w4 bb4)
                  obtain rfl : lm4 = 4001 := by have := hm5.out; omega
                  subst hfull
                  go_wp2_with (with_reducible refine wpList_append_eq rfl (.tmp 50) (.tmp 56) 74 74 rfl (.slice lo 4000 lc) (.slice (some ⟨wr.heap.size, 0, none⟩) 1 1) (.slice lo4 4001 lc4) rfl rfl HR4.out ?_)
                  go_ret2
                  exact hE.out
                · have hE : Hid (_ = decO bs) := Lib.hid (by rw [hd.out, if_neg (by have := hlm.out; omega)])
                  have hl4 : lm4 ≤ 4000 := by have := hm5.out; have := hlm.out; omega
                  clear hfull
                  go_wp2_with (with_reducible refine wpList_append_eq rfl (.tmp 50) (.tmp 56) 74 74 rfl (.slice lo lm lc) (.slice (some ⟨wr.heap.size, 0, none⟩) 1 1) (.slice lo4 lm4 lc4) rfl rfl HR4.out ?_)
                  go_roundw
                  case rel => exact ⟨_, _, _, f', rfl, hs2, by rw [hsz2.out]; omega, hf2, h4, Lib.hid (by rw [← hm4.out]; exact hl4), bb4, hE⟩
                  case measure => simp only [ssize]; rw [hsz2.out]; omega
              · have hfx := HX.out.symm.trans (first_no (fun e => by have := e.1; rw [HC0.out] at this; omega) (fun e => by have := e.2.2.2; rw [HL.out, ← hsz.out] at this; omega))
                obtain ⟨rfl, rfl⟩ := Prod.mk.inj hfx
                have hE := Lib.hid (hnone.out (by rw [hd.out, if_pos (.inl rfl)]) wr hbel)
                clear hfx HX
                go_wp2_with fail
                refine hnum.mono ?_
                rintro e _ ⟨rfl, rfl⟩
                clear hnum
                go_wp2
                go_ret2
                exact hE.out
            · have hfx := HX.out.symm.trans (first_no (fun e => by have := e.1; rw [HC0.out] at this; omega) (fun e => by have := e.2.2.1; rw [HL.out] at this; omega))
              obtain ⟨rfl, rfl⟩ := Prod.mk.inj hfx
              have hE := Lib.hid (hnone.out (by rw [hd.out, if_pos (.inl rfl)]) wr hbel)
              clear hfx HX
              go_wp2_with fail
              refine hnum.mono ?_
              rintro e _ ⟨rfl, rfl⟩
              clear hnum
              go_wp2
              go_ret2
              exact hE.out
          · have hfx := HX.out.symm.trans (first_no (fun e => by have := e.1; rw [HC0.out] at this; omega) (fun e => by have := e.2.1; rw [← hsz.out] at this; omega))
            obtain ⟨rfl, rfl⟩ := Prod.mk.inj hfx
            have hE := Lib.hid (hnone.out (by rw [hd.out, if_pos (.inl rfl)]) wr hbel)
            clear hfx HX
            go_wp2
            go_ret2
            exact hE.out
        · have q2' : ((c0 : Int) == 2) = false := by simp; omega
          have hfx := HX.out.symm.trans (first_no (fun e => by have := e.1; rw [HC0.out] at this; omega) (fun e => by have := e.1; rw [HC0.out] at this; omega))
          obtain ⟨rfl, rfl⟩ := Prod.mk.inj hfx
          have hE := Lib.hid (hnone.out (by rw [hd.out, if_pos (.inl rfl)]) wr hbel)
          clear hfx HX
          go_wp2
          go_ret2
          exact hE.out
    · have hE : Hid (decO bs = some acc) := Lib.hid (by
        rw [← hdec.out]
        have h0 : bs'.length = 0 := by rw [← hsz.out]; omega
        cases f with
        | zero => rw [dec, if_pos h0]
        | succ f => rw [dec, if_pos h0])
      have hz0 : s.size = 0 := by omega
      clear hpos
      go_wp2
      go_ret2
      refine ⟨_, by rw [show decE bs = 0 by unfold decE; rw [hE.out]; rfl]; rfl, ?_, hbel⟩
      rw [show decR bs = acc by unfold decR; rw [hE.out]; rfl]; exact ho
end Go.Proofs.Ytmkomhdlcbimoaa
