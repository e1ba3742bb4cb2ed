/- The contracts of container/heap's Push and Fix, of the line's Pop, of container/heap's Remove. No statement of the seat is proved here. -/
import Derived.Test.YtegloiojhimoeaaQPush
namespace Go.Proofs.Ytegloiojhimoeaa
open Go.RowKit

set_option maxHeartbeats 400000 in
theorem lineLen_any (ao : Option Addr) (n cap : Nat) (w : World) : Calls Try.prog 88 #[.slice ao n cap] w fun e w' => e = .returned (.int .i64 n) ∧ w = w' := by
  go_enter Try.func88, Try.ntmps88
  go_wp2
  go_ret
  exact ⟨rfl, rfl⟩
theorem LineAt.form {X : Nat → Prop} {w : World} {qb : Nat} {mv : Value} {pu : Nat} {L : List Wt} (h : LineAt X w qb mv pu L) : ∃ ao cap, w.cell? ⟨qb, 0, none⟩ = some (.slice ao L.length cap) := by
  obtain ⟨lv, h1, h2, _⟩ := h.box
  obtain ⟨ao, cap, rfl, _, _⟩ := ownsRow_form h2
  exact ⟨ao, cap, cell_row h1 0 rfl⟩
theorem push_up {L : List Wt} (x : Wt) (h : HeapAll (kf L) L.length) : HeapUp (kf (L ++ [x])) (L.length + 1) L.length := by
  refine ⟨fun c h0 h1 h2 => ?_, fun c h0 h1 h2 h3 => by omega⟩
  have := h c h0 (by omega)
  unfold kf at *
  rw [at_append_left (by omega), at_append_left (by omega)]; exact this

set_option maxRecDepth 20000 in
set_option maxHeartbeats 1600000 in
theorem heapPush_any {X : Nat → Prop} {w : World} {qb : Nat} {mv : Value} {pu : Nat} {L : List Wt} (h : LineAt X w qb mv pu L) {x : Wt} {p : Nat} (hx : ¬ X x.blk) (hw : w.heap[x.blk]? = some (.cells (wtCells x p) 68 (0, 0))) (hn : ∀ i, i < L.length → (at' L i).blk ≠ x.blk) (hp : x.pr < 18446744073709551616) (ht : x.turn < 4611686018427387904) (hl : L.length < 1000) (hh : HeapAll (kf L) L.length) :
    Calls Try.prog 30 #[lineI qb, .iface 66 (.pointer (some ⟨x.blk, 0, none⟩))] w fun e w' => e = .returned (.tuple #[]) ∧ UpPost X w qb mv pu (L ++ [x]) (L.length + 1) w' := by
  have C := Lib.hid (linePush_any h hx hw hn hp ht hl)
  have U := Lib.hid (push_up x hh)
  clear h hx hw hn hp ht hh
  have hm := fun w : World => meth_push (w := w) (qb := qb)
  go_enter Try.func30, Try.ntmps30
  go_wp2_with fail
  refine C.out.mono ?_
  rintro e w1 ⟨rfl, h1, k1⟩
  clear C hm
  obtain ⟨ao, cap, hc⟩ := h1.form
  have hm := meth_len hc
  have hlen : (L ++ [x]).length = L.length + 1 := by simp
  rw [hlen] at hm
  have H1 := Lib.hid h1
  have e1 : IntKind.i64.wrap (((L.length + 1 : Nat) : Int) - 1) = (L.length : Int) := by rw [IntKind.wrap_i64]; omega
  have LC := lineLen_any ao (L.length + 1) cap w1
  have U2 := Lib.hid (up_any h1 (j := L.length) (n := L.length + 1) (by omega) (by simp) U.out)
  generalize hme : L.length + 1 = m at hm e1 LC U2 ⊢
  have HME := Lib.hid hme
  clear hme
  clear h1 hc hlen
  go_wp2_with fail
  refine LC.mono ?_
  rintro e _ ⟨rfl, rfl⟩
  go_wp2_with fail
  refine U2.out.mono ?_
  rintro e w2 ⟨rfl, L', g1, g2, g5, g3, g4⟩
  have FIN : Hid (UpPost X w qb mv pu (L ++ [x]) m w2) := ⟨L', g1, g2, g5, g3, k1.trans g4⟩
  clear g1 g2 g3 g4 g5 H1 k1 U U2
  go_wp2
  go_end0
  exact ⟨rfl, by rw [HME.out]; exact FIN.out⟩

set_option maxRecDepth 20000 in
set_option maxHeartbeats 1600000 in
theorem heapFix_any {X : Nat → Prop} {w : World} {qb : Nat} {mv : Value} {pu : Nat} {L : List Wt} (h : LineAt X w qb mv pu L) {i : Nat} (hi : i < L.length) (hh : HeapEx (kf L) L.length i) :
    Calls Try.prog 40 #[lineI qb, .int .i64 i] w fun e w' => e = .returned (.tuple #[]) ∧ UpPost X w qb mv pu L L.length w' := by
  obtain ⟨ao, cap, hc⟩ := h.form
  have hm := meth_len hc
  have LC := lineLen_any ao L.length cap w
  have C := Lib.hid (heapDown_any h hi (Nat.le_refl _) hh)
  have HI := Lib.hid hi
  clear h hc hi hh
  go_enter Try.func40, Try.ntmps40
  go_wp2_with fail
  refine LC.mono ?_
  rintro e _ ⟨rfl, rfl⟩
  go_wp2_with fail
  refine C.out.mono ?_
  rintro e w1 ⟨L', b, rfl, h1, p1, tl, k1, t1, f1⟩
  clear C LC hm
  cases b
  · obtain ⟨rfl, hu⟩ := f1 rfl
    have C := Lib.hid (up_any h1 HI.out (Nat.le_refl _) hu)
    clear h1 t1 f1 hu p1
    go_wp2_with fail
    refine C.out.mono ?_
    rintro e w2 ⟨rfl, L2, g1, g2, g5, g3, g4⟩
    have FIN : Hid (UpPost X w qb mv pu L' L'.length w2) := ⟨L2, g1, g2, g5, g3, k1.trans g4⟩
    clear g1 g2 g3 g4 g5 k1 C tl
    go_wp2
    go_end0
    exact ⟨rfl, FIN.out⟩
  · have FIN : Hid (UpPost X w qb mv pu L L.length w1) := ⟨L', h1, p1, tl, t1 rfl, k1⟩
    clear h1 t1 f1 p1 k1 tl
    go_wp2
    go_end0
    exact ⟨rfl, FIN.out⟩

theorem own_cut {w : World} {e : TypeId} {g n cap : Nat} {xs : List Value} (h : w.ownsRow 0 e 1 (.slice (some ⟨g, 0, none⟩) (n + 1) cap) (n + 1) xs) : w.ownsRow 0 e 1 (.slice (some ⟨g, 0, none⟩) n cap) n (xs.take n) := by
  rcases h.2 with ⟨h', _⟩ | ⟨g', cap', cur, h', hb, hg, h1, h2, h3, h4⟩
  · simp at h'
  · simp only [Value.slice.injEq, Option.some.injEq, Addr.mk.injEq, and_true, true_and] at h'
    obtain ⟨rfl, rfl⟩ := h'
    have hl := h.1
    refine ⟨by simp; omega, .inr ⟨g, cap, cur, rfl, hb, hg, by omega, h2, h3, ?_⟩⟩
    rw [← h4, List.take_take]; congr 1; omega
theorem at_dropLast {L : List Wt} {i : Nat} (h : i < L.length - 1) : at' L.dropLast i = at' L i := by
  simp only [at', List.getD_eq_getElem?_getD, List.getElem?_dropLast, if_pos h]

def PopPost (X : Nat → Prop) (w : World) (qb : Nat) (mv : Value) (pu : Nat) (L : List Wt) (e : Ending) (w' : World) : Prop :=
  ∃ v, e = .returned v ∧ LineAt X w' qb mv pu L.dropLast ∧ Kp X w w' ∧ w'.heap[(at' L (L.length - 1)).blk]? = w.heap[(at' L (L.length - 1)).blk]?
set_option maxRecDepth 20000 in
set_option maxHeartbeats 1600000 in
theorem linePop_any {X : Nat → Prop} {w : World} {qb : Nat} {mv : Value} {pu : Nat} {L : List Wt} (h : LineAt X w qb mv pu L) (h0 : 0 < L.length) :
    Calls Try.prog 91 #[.pointer (some ⟨qb, 0, none⟩)] w (PopPost X w qb mv pu L) := by
  obtain ⟨rb, cap, hb, ho, hx⟩ := h.row h0
  obtain ⟨cur, hr⟩ := row_obj ho
  obtain ⟨n, hn⟩ : ∃ n, L.length = n + 1 := ⟨L.length - 1, by omega⟩
  have hcap : n + 1 ≤ cap := by
    obtain ⟨_, _, e, h1, _⟩ := ownsRow_form ho
    cases e; omega
  have hrq := ne_of_obj hr hb (by decide)
  have hl := h.len
  have cn : w.cell? ⟨rb, n, none⟩ = some (ptrW (at' L n)) := (World.ownsRow.cellAt ho n (by omega)).trans (ptr_at (by omega))
  have fn := free_row hr n
  have c0 : w.cell? ⟨qb, 0, none⟩ = some (.slice (some ⟨rb, 0, none⟩) (n + 1) cap) := by rw [← hn]; exact cell_row hb 0 rfl
  have f0 := free_row hb 0
  have c0' : (w.setCell ⟨rb, n, none⟩ (.pointer none)).cell? ⟨qb, 0, none⟩ = some (.slice (some ⟨rb, 0, none⟩) (n + 1) cap) := (World.cell?_setCell_other _ _ _ _ (fun e => hrq (by simp only [Addr.mk.injEq] at e; exact e.1))).trans c0
  have f0' := (World.frozen?_setCell w ⟨rb, n, none⟩ ⟨qb, 0, none⟩ (.pointer none)).trans f0
  obtain ⟨o1, -⟩ := World.ownsRow.stored ho n (.pointer none)
  rw [hn] at o1
  have o2 := own_cut o1
  rw [List.take_set_of_le (Nat.le_refl _)] at o2
  have hq1 : (w.setCell ⟨rb, n, none⟩ (.pointer none)).heap[qb]? = some (.cells #[.slice (some ⟨rb, 0, none⟩) (n + 1) cap, mv, .int .i64 pu] 59 (0, 0)) := by
    rw [Below.heap_setCell _ _ _ _ (Ne.symm hrq), ← hn]; exact hb
  have o3 := ownsRow_setCell_other o2 (a := ⟨qb, 0, none⟩) (by simp [Value.ownBlock]; exact hrq) (.slice (some ⟨rb, 0, none⟩) n cap)
  have hq2 : ((w.setCell ⟨rb, n, none⟩ (.pointer none)).setCell ⟨qb, 0, none⟩ (.slice (some ⟨rb, 0, none⟩) n cap)).heap[qb]? = some (.cells #[.slice (some ⟨rb, 0, none⟩) n cap, mv, .int .i64 pu] 59 (0, 0)) := heap_setCell_same _ qb 0 _ _ _ hq1
  have kp : Kp X w ((w.setCell ⟨rb, n, none⟩ (.pointer none)).setCell ⟨qb, 0, none⟩ (.slice (some ⟨rb, 0, none⟩) n cap)) := ((Kp.refl X w).setCell hx _).setCell h.qo _
  have hwt : ∀ (k : Nat) (cs : Array Value) (f : Nat × Nat), w.heap[k]? = some (.cells cs 68 f) → ((w.setCell ⟨rb, n, none⟩ (.pointer none)).setCell ⟨qb, 0, none⟩ (.slice (some ⟨rb, 0, none⟩) n cap)).heap[k]? = w.heap[k]? := fun k cs f hk => by
    rw [Below.heap_setCell _ _ _ _ (ne_of_obj hk hb (by decide)), Below.heap_setCell _ _ _ _ (ne_of_obj hk hr (by decide))]
  have hdl : L.dropLast.length = n := by simp [hn]
  have L3 : LineAt X ((w.setCell ⟨rb, n, none⟩ (.pointer none)).setCell ⟨qb, 0, none⟩ (.slice (some ⟨rb, 0, none⟩) n cap)) qb mv pu L.dropLast := by
    refine ⟨fun k e => Nat.lt_of_lt_of_le (h.lt k e) kp.size, h.qo, by omega, ⟨_, hq2, ?_, fun k hk => by cases hk; exact hx⟩, fun i hi => ?_, fun i j hi hj e => ?_, fun i hi => ?_⟩
    · rw [hdl, List.dropLast_eq_take, List.map_take, hn]; exact o3
    · rw [at_dropLast (by omega)]
      obtain ⟨a, b⟩ := h.wt i (by omega)
      exact ⟨a, (hwt _ _ _ b).trans b⟩
    · rw [at_dropLast (by omega), at_dropLast (by omega)] at e
      exact h.nd i j (by omega) (by omega) e
    · rw [at_dropLast (by omega)]; exact h.ok i (by omega)
  have FIN := Lib.hid (And.intro L3 (And.intro kp (hwt _ _ _ (h.wt (L.length - 1) (by omega)).2)))
  have e1 : IntKind.i64.wrap (((n + 1 : Nat) : Int) - 1) = (n : Int) := by rw [IntKind.wrap_i64]; omega
  have b1 : (n : Int) < ((n + 1 : Nat) : Int) := by omega
  have b2 : n < n + 1 := by omega
  have hcap' : n ≤ cap := by omega
  clear h ho o1 o2 o3 hq1 hq2 kp hwt L3 hb hr hdl hl hx h0
  unfold ptrW at cn
  generalize (at' L n).blk = lb at cn
  generalize hm : n + 1 = m at *
  go_enter Try.func91, Try.ntmps91
  go_wp2
  go_ret
  exact ⟨_, rfl, FIN.out⟩

def RemPost (X : Nat → Prop) (w : World) (qb : Nat) (mv : Value) (pu : Nat) (L : List Wt) (i : Nat) (e : Ending) (w' : World) : Prop :=
  ∃ v L', e = .returned v ∧ LineAt X w' qb mv pu L' ∧ (L' ++ [at' L i]).Perm L ∧ HeapAll (kf L') L'.length ∧ Kp X w w' ∧ w'.cell? ⟨(at' L i).blk, 0, none⟩ = some (.int .i64 (at' L i).id)
theorem rem_post {X : Nat → Prop} {w w1 w' : World} {qb : Nat} {mv : Value} {pu : Nat} {L L1 : List Wt} {i : Nat} {e : Ending} (h1 : LineAt X w1 qb mv pu L1) (p1 : L1.Perm L) (h0 : 0 < L1.length) (hl : at' L1 (L1.length - 1) = at' L i) (hh : HeapAll (kf L1) (L1.length - 1)) (k1 : Kp X w w1) (hp : PopPost X w1 qb mv pu L1 e w') : RemPost X w qb mv pu L i e w' := by
  obtain ⟨v, rfl, h2, k2, hb⟩ := hp
  refine ⟨v, L1.dropLast, rfl, h2, ?_, fun c c0 c1 => ?_, k1.trans k2, ?_⟩
  · rw [← hl, at_eq (by omega), ← List.getLast_eq_getElem (fun e => by rw [e] at h0; simp at h0), List.dropLast_concat_getLast]; exact p1
  · have c1' : c < L1.length - 1 := by simpa using c1
    have := hh c c0 c1'
    unfold kf at *
    rw [at_dropLast (by omega), at_dropLast c1']; exact this
  · have hw := (h1.wt (L1.length - 1) (by omega)).2
    rw [← hb] at hw
    rw [hl] at hw
    exact cell_row hw 0 rfl

set_option maxRecDepth 20000 in
set_option maxHeartbeats 1600000 in
theorem heapRemove_any {X : Nat → Prop} {w : World} {qb : Nat} {mv : Value} {pu : Nat} {L : List Wt} (h : LineAt X w qb mv pu L) {i : Nat} (hi : i < L.length) (hh : HeapAll (kf L) L.length) :
    Calls Try.prog 50 #[lineI qb, .int .i64 i] w (RemPost X w qb mv pu L i) := by
  obtain ⟨ao, cap, hc⟩ := h.form
  have hm := meth_len hc
  have hmp := fun w : World => meth_pop (w := w) (qb := qb)
  have hl := h.len
  obtain ⟨n, hn⟩ : ∃ n, L.length = n + 1 := ⟨L.length - 1, by omega⟩
  have e1 : IntKind.i64.wrap ((L.length : Int) - 1) = (n : Int) := by rw [IntKind.wrap_i64]; omega
  have LC := lineLen_any ao L.length cap w
  go_enter Try.func50, Try.ntmps50
  have HH := Lib.hid (And.intro h (And.intro hi (And.intro hh hn)))
  by_cases hne : n = i
  · have hb : ¬ ((n : Int) ≠ (i : Int)) := by omega
    have hq : ((n : Int) = (i : Int)) := by omega
    clear h hi hh hl hn
    generalize (L.length : Int) = ll at LC e1
    go_wp2_with fail
    refine LC.mono ?_
    rintro e _ ⟨rfl, rfl⟩
    clear LC hm hc
    go_wp2_with fail
    refine (linePop_any HH.out.1 (by have := HH.out.2.1; omega)).mono ?_
    intro e w1 hp
    obtain ⟨h, hi, hh, hn⟩ := HH.out
    obtain ⟨v, L', rfl, FIN⟩ := rem_post (i := i) h (List.Perm.refl _) (by omega) (by rw [hn, Nat.add_sub_cancel, hne]) (fun c c0 c1 => hh c c0 (by omega)) (Kp.refl _ _) hp
    have F := Lib.hid FIN
    clear FIN hp hh h hmp
    go_wp2
    go_ret
    exact ⟨_, L', rfl, F.out⟩
  · have hb : ((n : Int) ≠ (i : Int)) := by omega
    have hs := fun lv (hc : w.cell? ⟨qb, 0, none⟩ = some lv) => lineSwap_any h hi (j := n) (by omega) (fun e => hne e.symm) hc
    have HS := Lib.hid (hs _ hc)
    have hms := meth_swap hc
    clear h hi hh hl hn hs
    go_wp2_with fail
    refine LC.mono ?_
    rintro e _ ⟨rfl, rfl⟩
    clear LC hm hc
    go_wp2_with fail
    refine HS.out.mono ?_
    rintro e w1 ⟨rfl, h1, k1, -⟩
    clear HS hms
    obtain ⟨h, hi, hh, hn⟩ := HH.out
    have hin : i < n := by omega
    have hsl : (swapL L i n).length = n + 1 := by rw [swapL_length, hn]
    have hlast : at' (swapL L i n) n = at' L i := by rw [swapL_at hi (by omega), if_pos rfl]
    have hpm : (swapL L i n).Perm L := swapL_perm hi (by omega)
    have hex : HeapEx (kf (swapL L i n)) n i := by
      have hf : ∀ k, k < n → k ≠ i → kf (swapL L i n) k = kf L k := fun k hk hki => by
        unfold kf
        rw [swapL_at hi (by omega), if_neg (by omega), if_neg hki]
      refine ⟨fun c c0 c1 c2 c3 => ?_, fun c c0 c1 c2 c3 => ?_⟩
      · rw [hf c c1 c2, hf _ (by omega) c3]; exact hh c c0 (by omega)
      · rw [hf c c1 (by omega), hf _ (by omega) (by omega)]
        have a1 := hh c c0 (by omega)
        have a2 := hh i c3 (by omega)
        rw [c2] at a1
        omega
    have C := Lib.hid (heapDown_any h1 (i0 := i) (n := n) hin (by omega) hex)
    have HP := Lib.hid (And.intro hin (And.intro hsl (And.intro hlast hpm)))
    clear h hi hh hn h1 hin hsl hlast hpm hex hb hne
    generalize swapL L i n = L1 at C HP
    go_wp2_with fail
    refine C.out.mono ?_
    rintro e w2 ⟨L2, b, rfl, h2, p2, t2, k2, tt, tf⟩
    clear C
    cases b
    · obtain ⟨rfl, hu⟩ := tf rfl
      have C := Lib.hid (up_any h2 HP.out.1 (by have := HP.out.2.1; omega) hu)
      clear h2 tt tf hu p2 t2
      go_wp2_with fail
      refine C.out.mono ?_
      rintro e w3 ⟨rfl, L3, h3, p3, t3, a3, k3⟩
      clear C
      have hl3 : L3.length = n + 1 := by rw [p3.length_eq]; exact HP.out.2.1
      have C := Lib.hid (linePop_any h3 (by omega))
      have R := fun e w' => rem_post (e := e) (w' := w') (i := i) h3 (p3.trans HP.out.2.2.2) (by omega) (by rw [hl3, Nat.add_sub_cancel, t3 n (Nat.le_refl _)]; exact HP.out.2.2.1) (by rw [hl3]; exact a3) ((k1.trans k2).trans k3)
      have RR := Lib.hid R
      clear h3 p3 t3 a3 k1 k2 k3 R hl3
      go_wp2_with fail
      refine C.out.mono ?_
      intro e w4 hp
      obtain ⟨v, L', rfl, FIN⟩ := RR.out _ _ hp
      have F := Lib.hid FIN
      clear FIN hp RR C hmp
      go_wp2
      go_ret
      exact ⟨_, L', rfl, F.out⟩
    · have hl2 : L2.length = n + 1 := by rw [p2.length_eq]; exact HP.out.2.1
      have C := Lib.hid (linePop_any h2 (by omega))
      have R := fun e w' => rem_post (e := e) (w' := w') (i := i) h2 (p2.trans HP.out.2.2.2) (by omega) (by rw [hl2, Nat.add_sub_cancel, t2 n (Nat.le_refl _)]; exact HP.out.2.2.1) (by rw [hl2]; exact tt rfl) (k1.trans k2)
      have RR := Lib.hid R
      clear h2 p2 t2 tt tf k1 k2 R hl2
      go_wp2_with fail
      refine C.out.mono ?_
      intro e w4 hp
      obtain ⟨v, L', rfl, FIN⟩ := RR.out _ _ hp
      have F := Lib.hid FIN
      clear FIN hp RR C hmp
      go_wp2
      go_ret
      exact ⟨_, L', rfl, F.out⟩
end Go.Proofs.Ytegloiojhimoeaa
