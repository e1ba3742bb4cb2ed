/- The contracts of the store's Put and Get. No statement of the seat is proved here. -/
import Derived.Test.YtcbbppgleclndaaBPut
namespace Go.Proofs.Ytcbbppgleclndaa
open Go.RowKit

def Sto.put (s : Sto) (name : ByteArray) (bs : List UInt8) : Sto := if nameB name.data.toList then (if bs.length ≤ 60000 then s.after { s.took with blobs := putF s.blobs name.data.toList bs } else s) else s
def Sto.putE (s : Sto) (name : ByteArray) (bs : List UInt8) : Int := if nameB name.data.toList then (if bs.length ≤ 60000 then errOf s.out 0 else 14) else 6
set_option maxRecDepth 20000 in
set_option maxHeartbeats 800000 in
theorem put_any {X : Nat → Prop} {w : World} {sb : Nat} {s : Sto} {N : Nat} (h : StoAt X w sb s N) (hc : s.calls < 4611686018427387904) (hN : N < maxLen) (name : ByteArray) (hn : name.size ≤ maxLen) {bv : Value} {bs : List UInt8} (hby : BytesIn X w bv bs) :
    Calls Try.prog 17 #[.pointer (some ⟨sb, 0, none⟩), .string name, bv] w fun e w' => e = .returned (.int .i64 (s.putE name bs)) ∧ StoAt X w' sb (s.put name bs) (N + 1) ∧ Kp X w w' := by
  obtain ⟨b, hb⟩ : ∃ b, nameB name.data.toList = b := ⟨_, rfl⟩
  have HR : Hid (refuseN name = if b then 0 else 6) := by show _ = _; unfold refuseN; rw [hb]
  have HE : Hid (s.putE name bs = if b then (if bs.length ≤ 60000 then errOf s.out 0 else 14) else 6) := by show _ = _; unfold Sto.putE; rw [hb]
  have HA : Hid (s.put name bs = if b then (if bs.length ≤ 60000 then s.after { s.took with blobs := putF s.blobs name.data.toList bs } else s) else s) := by show _ = _; unfold Sto.put; rw [hb]
  clear hb
  have hf := hby
  obtain ⟨ao, cap, rfl, hl, -⟩ := hf
  go_enter Try.func17, Try.ntmps17
  go_wp2_with fail
  refine (refuse_any name hn).mono ?_
  rintro e w3 ⟨rfl, hw3⟩
  obtain ⟨hbl, hsz, c1, c2, c3⟩ := three_boxes _ _ _ _ _ _ _ hw3
  clear hw3
  rw [HR.out]
  cases b
  · have H := Lib.hid h
    have HB := Lib.hid hbl
    clear h hbl hby
    go_wp2
    go_ret
    exact ⟨by rw [HE.out]; rfl, by rw [HA.out]; exact (H.out.below HB.out).more (Nat.le_succ _), Kp.of_below HB.out⟩
  · by_cases hlen : bs.length ≤ 60000
    · have h3 := h.wd hbl
      rw [hsz] at h3
      have hby3 : BytesIn (Wd X w.heap.size (w.heap.size + 3)) w3 (.slice ao bs.length cap) bs := (hby.keep (fun k o _ ho => (hbl.block k (lt_of_heap ho)).trans ho)).mono (fun _ _ h => Or.inl h)
      have ch := change_any (w := w3) (t := { s.took with blobs := putF s.blobs name.data.toList bs }) (N' := N + 1) h3 hc (Nat.le_succ _) (f := 35) (caps := #[.pointer (some ⟨w.heap.size, 0, none⟩), .pointer (some ⟨w.heap.size + 1 + 1, 0, none⟩), .pointer (some ⟨w.heap.size + 1, 0, none⟩)]) (en := 0) (fun w1 => by kernel_rfl)
        (fun w1 hs1 hk1 => put1_any hs1 hN hn (by omega) (p1 := ⟨w.heap.size, 0, none⟩) (p2 := ⟨w.heap.size + 1 + 1, 0, none⟩) (p3 := ⟨w.heap.size + 1, 0, none⟩) (bv := .slice ao bs.length cap)
          (wd_in (k := w.heap.size) (by omega) (by omega)) (hk1.cell (wd_in (k := w.heap.size) (by omega) (by omega)) c1)
          (wd_in (k := w.heap.size + 1 + 1) (by omega) (by omega)) (hk1.cell (wd_in (k := w.heap.size + 1 + 1) (by omega) (by omega)) c3) (wd_in (k := w.heap.size + 1) (by omega) (by omega)) (hk1.cell (wd_in (k := w.heap.size + 1) (by omega) (by omega)) c2)
          (hby3.keep (fun k o hx ho => hk1.keep k o hx ho)))
      have CH := Lib.hid ch
      have HB := Lib.hid hbl
      have HE2 := Lib.hid (show s.putE name bs = errOf s.out 0 by rw [HE.out, if_pos rfl, if_pos hlen])
      have HA2 := Lib.hid (show s.put name bs = s.after { s.took with blobs := putF s.blobs name.data.toList bs } by rw [HA.out, if_pos rfl, if_pos hlen])
      have hd : decide ((60000 : Int) < (bs.length : Int)) = false := by simp; omega
      clear ch hbl h3 h hsz hby hby3 hlen
      go_wp2_with fail
      refine CH.out.mono ?_
      rintro e w4 ⟨rfl, h4, k4⟩
      go_wp2
      go_ret
      exact ⟨by rw [HE2.out]; rfl, by rw [HA2.out]; exact h4.unwd, (Kp.of_below HB.out).trans k4.unwd⟩
    · have H := Lib.hid h
      have HB := Lib.hid hbl
      have HE2 := Lib.hid (show s.putE name bs = 14 by rw [HE.out, if_pos rfl, if_neg hlen])
      have HA2 := Lib.hid (show s.put name bs = s by rw [HA.out, if_pos rfl, if_neg hlen])
      have hd : decide ((60000 : Int) < (bs.length : Int)) = true := by simp; omega
      clear h hbl hby hlen
      go_wp2
      go_ret
      exact ⟨by rw [HE2.out]; rfl, by rw [HA2.out]; exact (H.out.below HB.out).more (Nat.le_succ _), Kp.of_below HB.out⟩
set_option maxHeartbeats 400000 in
theorem put_nil (w : World) (name : ByteArray) (ao : Option Addr) (n cap : Nat) : Calls Try.prog 17 #[.pointer none, .string name, .slice ao n cap] w fun e w' => e = .returned (.int .i64 1) ∧ Below w.heap.size w w' := by
  go_enter Try.func17, Try.ntmps17
  go_wp2_with fail
  refine (refuse_nil _ _).mono ?_
  rintro e w3 ⟨rfl, hw3⟩
  obtain ⟨hbl, hsz, c1, c2, c3⟩ := three_boxes _ _ _ _ _ _ _ hw3
  clear hw3
  go_wp2
  go_ret
  exact ⟨rfl, hbl⟩

/-! ### Get -/
theorem map_look {X : Nat → Prop} {w : World} {mv : Value} {N : Nat} {f : List UInt8 → Option (List UInt8)} (h : MapIs X w mv N f) {name : ByteArray} (hn : name.size ≤ maxLen) :
    ∃ v, (Instr.lookup 53 mv (.string name) true).run Try.prog w = .ok (.tuple #[v, .bool (f name.data.toList).isSome]) w ∧ ∀ bs, f name.data.toList = some bs → BytesIn (fun k => ¬ X k) w v bs := by
  have hz : (zeroValue 36).run Try.prog w = .ok (.slice none 0 0) w := by kernel_rfl
  rcases h with ⟨rfl, h⟩ | ⟨mb, D, rfl, hB, ho, hm, hat⟩
  · refine ⟨.slice none 0 0, ?_, fun bs e => by rw [h] at e; cases e⟩
    rw [h]
    exact Maps.look_nil true keyed9 Try.underlying53 hz (key_str hn)
  · obtain ⟨v, ps, hrun, hv⟩ := ho.look_ok keyed9 Try.underlying53 hz (zd := .held (.slice none 0 0)) (zp := []) rfl (key_str hn)
    have := hat name.data.toList
    cases hf : f name.data.toList with
    | none => rw [hf] at this; rw [show Maps.has D (.string name.data.toList) = false from this] at hrun; exact ⟨v, hrun, fun bs e => by cases e⟩
    | some bs =>
      rw [hf] at this
      obtain ⟨g1, u, g2, g3⟩ := this
      rw [g1] at hrun
      rw [g2] at hv
      refine ⟨v, hrun, fun bs' e => ?_⟩
      cases e
      rw [vR_inv hv]; exact g3

def Sto.get (s : Sto) (name : ByteArray) : Sto := if nameB name.data.toList then s.took else s
def Sto.getE (s : Sto) (name : ByteArray) : Int := if nameB name.data.toList then (if s.out = 0 then (if (s.blobs name.data.toList).isSome then 0 else 7) else 15) else 6
def Sto.getB (s : Sto) (name : ByteArray) : List UInt8 := if nameB name.data.toList then (if s.out = 0 then (s.blobs name.data.toList).getD [] else []) else []
theorem bytesIn_nil (Y : Nat → Prop) (w : World) : BytesIn Y w (.slice none 0 0) [] := ⟨none, 0, rfl, by simp, fun h => by simp at h⟩
theorem StoAt.same {X : Nat → Prop} {w : World} {sb : Nat} {s : Sto} {N : Nat} (h : StoAt X w sb s N) : StoAt (Wd X w.heap.size w.heap.size) w sb s N := h.wd (Below.refl _ _)

set_option maxRecDepth 20000 in
set_option maxHeartbeats 800000 in
theorem get_any {X : Nat → Prop} {w : World} {sb : Nat} {s : Sto} {N : Nat} (h : StoAt X w sb s N) (hc : s.calls < 4611686018427387904) (name : ByteArray) (hn : name.size ≤ maxLen) (hbl : ∀ bs, s.blobs name.data.toList = some bs → bs.length ≤ 1000000000000) :
    Calls Try.prog 14 #[.pointer (some ⟨sb, 0, none⟩), .string name] w fun e w' => ∃ v m, e = .returned (.tuple #[v, .int .i64 (s.getE name)]) ∧ w.heap.size ≤ m ∧ StoAt (Wd X m w'.heap.size) w' sb (s.get name) N ∧ BytesIn (Wd X m w'.heap.size) w' v (s.getB name) ∧ Kp X w w' := by
  obtain ⟨b, hb⟩ : ∃ b, nameB name.data.toList = b := ⟨_, rfl⟩
  have HR : Hid (refuseN name = if b then 0 else 6) := by show _ = _; unfold refuseN; rw [hb]
  have HE : Hid (s.getE name = if b then (if s.out = 0 then (if (s.blobs name.data.toList).isSome then 0 else 7) else 15) else 6) := by show _ = _; unfold Sto.getE; rw [hb]
  have HA : Hid (s.get name = if b then s.took else s) := by show _ = _; unfold Sto.get; rw [hb]
  have HV : Hid (s.getB name = if b then (if s.out = 0 then (s.blobs name.data.toList).getD [] else []) else []) := by show _ = _; unfold Sto.getB; rw [hb]
  clear hb
  go_enter Try.func14, Try.ntmps14
  go_wp2_with fail
  refine (refuse_any name hn).mono ?_
  rintro e w3 ⟨rfl, rfl⟩
  rw [HR.out]
  cases b
  · have HE2 := Lib.hid (show s.getE name = 6 by rw [HE.out]; rfl)
    have HA2 := Lib.hid (show s.get name = s by rw [HA.out]; rfl)
    have HV2 := Lib.hid (show s.getB name = [] by rw [HV.out]; rfl)
    have H := Lib.hid h
    clear h hbl HE HA HV
    go_wp2
    go_returns
    exact ⟨_, w.heap.size, by rw [HE2.out]; rfl, Nat.le_refl _, by rw [HA2.out]; exact H.out.same, by rw [HV2.out]; exact bytesIn_nil _ _, Kp.refl _ _⟩
  · have HE1 : Hid (s.getE name = if s.out = 0 then (if (s.blobs name.data.toList).isSome then 0 else 7) else 15) := HE.out
    have HA1 : Hid (s.get name = s.took) := HA.out
    have HV1 : Hid (s.getB name = if s.out = 0 then (s.blobs name.data.toList).getD [] else []) := HV.out
    have HBL := Lib.hid hbl
    clear HE HA HV hbl
    go_wp2_with fail
    refine (take_any h hc).mono ?_
    rintro e w1 ⟨rfl, h1, k1⟩
    have H1 := Lib.hid h1
    have K1 := Lib.hid k1
    obtain ⟨mv, ov, b1, m1, -⟩ := h1.box'
    have c0 : w1.cell? ⟨sb, 0, none⟩ = some mv := cell_row b1 0 rfl
    obtain ⟨v, hrun, hv⟩ := map_look m1 hn
    have HRUN := Lib.hid hrun
    have HV0 := Lib.hid hv
    clear h1 k1 b1 h hrun hv m1
    by_cases hq : s.out = 0
    · rw [hq] at HE1 HV1
      rw [hq]
      cases hf : s.blobs name.data.toList with
      | none =>
        have HE2 := Lib.hid (show s.getE name = 7 by rw [HE1.out, hf]; rfl)
        have HV2 := Lib.hid (show s.getB name = [] by rw [HV1.out, hf]; rfl)
        have HRUN2 : Hid ((Instr.lookup 53 mv (.string name) true).run Try.prog w1 = .ok (.tuple #[v, .bool false]) w1) := by
          have := HRUN.out; rw [show s.took.blobs name.data.toList = none from hf] at this; exact this
        clear HE1 HV1 HRUN HV0 HBL hf hq
        go_wp2_with (with_reducible refine wpList_lookup_eq rfl 53 (.tmp 22) (.tmp 23) true rfl mv (.string name) _ rfl rfl HRUN2.out ?_)
        go_returns
        exact ⟨_, w1.heap.size, by rw [HE2.out]; rfl, K1.out.size, by rw [HA1.out]; exact H1.out.same, by rw [HV2.out]; exact bytesIn_nil _ _, K1.out⟩
      | some bs =>
        have HE2 := Lib.hid (show s.getE name = 0 by rw [HE1.out, hf]; rfl)
        have HV2 := Lib.hid (show s.getB name = bs by rw [HV1.out, hf]; rfl)
        have HRUN2 : Hid ((Instr.lookup 53 mv (.string name) true).run Try.prog w1 = .ok (.tuple #[v, .bool true]) w1) := by
          have := HRUN.out; rw [show s.took.blobs name.data.toList = some bs from hf] at this; exact this
        have hby := HV0.out bs hf
        have hbl := HBL.out bs hf
        clear HE1 HV1 HRUN HV0 HBL hf hq
        go_wp2_with (with_reducible refine wpList_lookup_eq rfl 53 (.tmp 22) (.tmp 23) true rfl mv (.string name) _ rfl rfl HRUN2.out ?_)
        refine (clone_any hby.at hbl).mono ?_
        rintro e w2 ⟨v2, rfl, o2, bl2⟩
        clear hby
        have FIN := Lib.hid (And.intro (H1.out.wd bl2) (And.intro ((o2.inn (by unfold maxLen; omega)).mono (Y' := Wd X w1.heap.size w2.heap.size) (fun k hl hk => Or.inr ⟨hk, hl⟩)) (K1.out.trans (Kp.of_below (X := X) bl2))))
        clear o2 bl2
        go_wp2
        go_returns
        exact ⟨_, w1.heap.size, by rw [HE2.out]; rfl, K1.out.size, by rw [HA1.out]; exact FIN.out.1, by rw [HV2.out]; exact FIN.out.2.1, FIN.out.2.2⟩
    · have HE2 := Lib.hid (show s.getE name = 15 by rw [HE1.out, if_neg hq])
      have HV2 := Lib.hid (show s.getB name = [] by rw [HV1.out, if_neg hq])
      have hb : (s.out != 0) = true := by simp [hq]
      clear HE1 HV1 HRUN HV0 HBL hq
      go_wp2
      go_returns
      exact ⟨_, w1.heap.size, by rw [HE2.out]; rfl, K1.out.size, by rw [HA1.out]; exact H1.out.same, by rw [HV2.out]; exact bytesIn_nil _ _, K1.out⟩
set_option maxHeartbeats 400000 in
theorem get_nil (w : World) (name : ByteArray) : Calls Try.prog 14 #[.pointer none, .string name] w fun e w' => e = .returned (.tuple #[.slice none 0 0, .int .i64 1]) ∧ w = w' := by
  go_enter Try.func14, Try.ntmps14
  go_wp2_with fail
  refine (refuse_nil _ _).mono ?_
  rintro e w3 ⟨rfl, rfl⟩
  go_wp2
  go_returns
  exact ⟨rfl, rfl⟩
end Go.Proofs.Ytcbbppgleclndaa
