/- The contract of the log's Append. No statement of the seat is proved here. -/
import Derived.Test.YtbgefdigmdfalaaJ2
namespace Go.Proofs.Ytbgefdigmdfalaa
set_option maxRecDepth 20000
open Go.RowKit

/-- Images that go on reading so while the device is turned. -/
def ImgsK (B : Nat) (w : World) (v : Value) (l : List Im) : Prop :=
  ∃ ao cap, v = .slice ao l.length cap ∧ l.length ≤ cap ∧ l.length ≤ 140737488355328 ∧ (∀ x ∈ l, x.ok) ∧
    (0 < l.length → ∃ b off o, ao = some ⟨b, off, none⟩ ∧ w.heap[b]? = some o ∧ (b < B ∨ FK o = false) ∧ ∀ i, i < l.length → w.cell? ⟨b, off + i * 2, none⟩ = some (.int .i64 (imAt l i).p) ∧ w.cell? ⟨b, off + i * 2 + 1, none⟩ = some (.string (imAt l i).d))
theorem ImgsK.at {B : Nat} {w : World} {v : Value} {l : List Im} (h : ImgsK B w v l) : ImgsAt w.heap.size w v l := by
  obtain ⟨ao, cap, hv, h1, h2, h3, h4⟩ := h
  refine ⟨ao, cap, hv, h1, by omega, h3, fun h0 => ?_⟩
  obtain ⟨b, off, o, e, ho, _, hc⟩ := h4 h0
  exact ⟨b, off, e, lt_of_heap ho, hc⟩
theorem ImgsK.fr {B : Nat} {w w' : World} {v : Value} {l : List Im} (h : ImgsK B w v l) (hf : Fr FK B w w') : ImgsK B w' v l := by
  obtain ⟨ao, cap, hv, h1, h2, h3, h4⟩ := h
  refine ⟨ao, cap, hv, h1, h2, h3, fun h0 => ?_⟩
  obtain ⟨b, off, o, e, ho, hk, hc⟩ := h4 h0
  have h5 := hf.keep _ _ ho hk
  refine ⟨b, off, o, e, h5, hk, fun i hi => ?_⟩
  exact ⟨(World.cell?_of_block (h5.trans ho.symm)).trans (hc i hi).1, (World.cell?_of_block (h5.trans ho.symm)).trans (hc i hi).2⟩
/-- the device behind j records of a transaction, and the error if there was one -/
def appD (d : Dev) (l : Wl) (ims : List Im) : Nat → Int × Dev
  | 0 => (0, d)
  | j + 1 => if (appD d l ims j).1 ≠ 0 then appD d l ims j else wlWrite (appD d l ims j).2 l (wantR l.epoch l.next j ims)
def appE (d : Dev) (l : Wl) (ims : List Im) : Int :=
  if imsOk ims = false then 2 else if l.size < ims.length + 1 then 14 else if l.room < ims.length + 1 then 5 else (appD d l ims (ims.length + 1)).1
def appDev (d : Dev) (l : Wl) (ims : List Im) : Dev :=
  if imsOk ims = false ∨ l.size < ims.length + 1 ∨ l.room < ims.length + 1 then d else (appD d l ims (ims.length + 1)).2
def appL (d : Dev) (l : Wl) (ims : List Im) : Wl := if appE d l ims = 0 then { l with next := l.next + (ims.length + 1) } else l
theorem write_waits (d : Dev) (i : Int) (bs : List UInt8) : (d.write i bs).2.waits.length ≤ d.waits.length + 1 := by
  unfold Dev.write
  split
  · simp
  · split
    · rw [(spend_waits d).1]; omega
    · simp [(spend_waits d).1]
theorem appD_waits (d : Dev) (l : Wl) (ims : List Im) (j : Nat) : (appD d l ims j).2.waits.length ≤ d.waits.length + j := by
  induction j with
  | zero => simp [appD]
  | succ j ih =>
    unfold appD
    split
    · omega
    · have := write_waits (appD d l ims j).2 (l.at (wantR l.epoch l.next j ims).seq.toNat : Nat) (sectB (logI (wantR l.epoch l.next j ims)))
      unfold wlWrite
      omega
theorem appD_stuck (d : Dev) (l : Wl) (ims : List Im) (j : Nat) (h : (appD d l ims j).1 ≠ 0) : ∀ k, appD d l ims (j + k) = appD d l ims j
  | 0 => rfl
  | k + 1 => by
    show (if (appD d l ims (j + k)).1 ≠ 0 then appD d l ims (j + k) else _) = _
    rw [appD_stuck d l ims j h k, if_pos h]
theorem appD_succ (d : Dev) (l : Wl) (ims : List Im) (j : Nat) (h : (appD d l ims j).1 = 0) : appD d l ims (j + 1) = wlWrite (appD d l ims j).2 l (wantR l.epoch l.next j ims) := by
  show (if (appD d l ims j).1 ≠ 0 then _ else _) = _
  rw [if_neg (by simp [h])]
theorem inN {n : Nat} (h : n ≤ 9223372036854775807) : inI (n : Int) := ⟨by omega, by omega⟩
theorem want_ok {l : List Im} (hl : l.length ≤ 4096) (h : ∀ x ∈ l, x.ok) (e tx i : Nat) (he : e ≤ 1125899906850000) (ht : tx ≤ 1125899906860000) (hi : i ≤ 4096) : (wantR e tx i l).ok := by
  have i1 : inI 1 := ⟨by decide, by decide⟩
  have i2 : inI 2 := ⟨by decide, by decide⟩
  have i0 : inI 0 := ⟨by decide, by decide⟩
  unfold wantR
  split
  · rename_i hi'
    have hx := imAt_ok h hi'
    exact ⟨i1, inN (by omega), inN (by omega), inN (by omega), inN (by omega), inN (by omega), hx.1, by have := hx.2; show (imAt l i).d.size ≤ maxLen; unfold maxLen; omega⟩
  · exact ⟨i2, inN (by omega), inN (by omega), inN (by omega), inN (by omega), inN (by omega), i0, by show (0 : Nat) ≤ maxLen; exact Nat.zero_le _⟩
theorem want_form {l : List Im} (h : imsOk l = true) (e tx i : Nat) : logOk (wantR e tx i l) = true := by
  unfold wantR
  split
  · rename_i hi
    have hx : imOk (imAt l i) = true := List.all_eq_true.1 h _ (imAt_mem hi)
    unfold imOk at hx
    simp only [decide_eq_true_eq] at hx
    unfold logOk
    rw [decide_eq_true]
    refine ⟨⟨?_, ?_, ?_, ?_, ?_, hx.1⟩, .inl ⟨rfl, hx.2⟩⟩ <;> simp only <;> omega
  · unfold logOk
    rw [decide_eq_true]
    refine ⟨⟨?_, ?_, ?_, ?_, ?_, ?_⟩, .inr ⟨rfl, rfl, rfl⟩⟩ <;> simp only <;> omega
theorem WlAt.ne {B : Nat} {w : World} {lb db : Nat} {l : Wl} {d : Dev} {N : Nat} (h : WlAt w lb db l) (_ : DevAt B w db d N) : ∀ o, w.heap[lb]? = some o → FK o = false := fun o ho => by
  have e := ho.symm.trans h
  cases e; exact FK_log _
/-- A store into a block of another kind leaves the device. -/
theorem dev_other {B : Nat} {w : World} {lb db : Nat} {d : Dev} {N : Nat} (h : DevAt B w db d N) (hne : ∀ o, w.heap[lb]? = some o → FK o = false) (i : Nat) (u : Value) : DevAt B (w.setCell ⟨lb, i, none⟩ u) db d N := by
  obtain ⟨ok, ge, mv, sv, h1, h2, h3⟩ := h
  have keep : ∀ (k : Nat) o, w.heap[k]? = some o → FK o = true → (w.setCell ⟨lb, i, none⟩ u).heap[k]? = some o := fun k o hk ho => by
    rw [Below.heap_setCell _ _ _ _ (by rintro rfl; rw [hne o hk] at ho; cases ho)]; exact hk
  exact ⟨ok, ge, mv, sv, keep _ _ h1 rfl, h2.of_map (fun k es c hk => keep _ _ hk rfl), ownsRow_of_row h3 (fun k cs hk => keep _ _ hk rfl)⟩
def AppPost (B : Nat) (w : World) (lb db N : Nat) (d : Dev) (l : Wl) (ims : List Im) (m : Nat) (e : Ending) (w' : World) : Prop :=
  e = .returned (.int .i64 (appD d l ims (m + 1)).1) ∧ DevAt B w' db (appD d l ims (m + 1)).2 N ∧ WlAt w' lb db (if (appD d l ims (m + 1)).1 = 0 then { l with next := l.next + (m + 1) } else l) ∧ Below B w w'
theorem appPost_err {B : Nat} {w : World} {lb db N : Nat} {d : Dev} {l : Wl} {ims : List Im} {m : Nat} (j : Nat) (hj : j ≤ m) (hne : (appD d l ims (j + 1)).1 ≠ 0) {w' : World} (q1 : DevAt B w' db (appD d l ims (j + 1)).2 N) (q2 : WlAt w' lb db l) (q3 : Below B w w') : AppPost B w lb db N d l ims m (.returned (.int .i64 (appD d l ims (j + 1)).1)) w' := by
  have e := appD_stuck d l ims (j + 1) hne (m - j)
  rw [show j + 1 + (m - j) = m + 1 by omega] at e
  unfold AppPost
  rw [e, if_neg hne]; exact ⟨rfl, q1, q2, q3⟩
theorem appPost_ok {B : Nat} {w : World} {lb db N : Nat} {d : Dev} {l : Wl} {ims : List Im} {m : Nat} (he : (appD d l ims (m + 1)).1 = 0) {w' : World} (q1 : DevAt B w' db (appD d l ims (m + 1)).2 N) (q2 : WlAt w' lb db { l with next := l.next + (m + 1) }) (q3 : Below B w w') : AppPost B w lb db N d l ims m (.returned (.int .i64 0)) w' := by
  unfold AppPost
  rw [he, if_pos rfl]; exact ⟨rfl, q1, q2, q3⟩
set_option maxRecDepth 20000 in
set_option maxHeartbeats 1600000 in
theorem append_any {B : Nat} {w : World} {lb db : Nat} {l : Wl} {d : Dev} {N : Nat} (hd : DevAt B w db d N) (h : WlAt w lb db l) (ok : l.Ok) (hlen : d.waits.length < 900000) (hB : B ≤ w.heap.size) (hlB : B ≤ lb) {v : Value} {ims : List Im} (hi : ImgsK B w v ims) :
    Calls Try.prog 16 #[.pointer (some ⟨lb, 0, none⟩), v] w fun e w' => e = .returned (.int .i64 (appE d l ims)) ∧ DevAt B w' db (appDev d l ims) N ∧ WlAt w' lb db (appL d l ims) ∧ Below B w w' := by
  have hfo := wformed_any hi.at
  have hiok : ∀ x ∈ ims, x.ok := by obtain ⟨_, _, _, _, _, hh, _⟩ := hi; exact hh
  obtain ⟨ao, m, cap, hv, hm⟩ : ∃ ao m cap, v = .slice ao m cap ∧ m = ims.length := by obtain ⟨ao, cap, hv, _⟩ := hi; exact ⟨ao, _, cap, hv, rfl⟩
  have hm9 : m ≤ 140737488355328 := by rw [hm]; obtain ⟨_, _, _, _, hh, _⟩ := hi; exact hh
  subst hv
  have HM := Lib.hid hm
  have HIOK := Lib.hid hiok
  clear hiok
  cases hf : imsOk ims
  · have e1 : appE d l ims = 2 := by unfold appE; rw [hf]; rfl
    have e2 : appDev d l ims = d := by unfold appDev; rw [if_pos (.inl hf)]
    have e3 : appL d l ims = l := by unfold appL; rw [e1]; rfl
    rw [e1, e2, e3]
    rw [hf] at hfo
    clear e1 e2 e3 hf hm
    go_enter Try.func16, Try.ntmps16
    go_wp2_with fail
    refine Calls.mono hfo ?_
    rintro e w1 ⟨rfl, b1⟩
    have FIN := Lib.hid (And.intro (hd.below b1) (And.intro (h.below b1) (b1.mono hB)))
    clear hfo hd h hi b1
    go_wp2
    go_ret
    exact ⟨rfl, FIN.out⟩
  · rw [hf] at hfo
    have HF := Lib.hid hf
    clear hf
    have c2 := fun (w' : World) (hw : WlAt w' lb db l) => (cell_row hw 2 rfl : w'.cell? ⟨lb, 2, none⟩ = some (.int .i64 (l.size : Nat)))
    by_cases h1 : l.size < m + 1
    · have e1 : appE d l ims = 14 := by unfold appE; rw [HF.out, ← hm, if_neg (by simp), if_pos h1]
      have e2 : appDev d l ims = d := by unfold appDev; rw [if_pos (.inr (.inl (by rw [← hm]; exact h1)))]
      have e3 : appL d l ims = l := by unfold appL; rw [e1]; rfl
      rw [e1, e2, e3]
      clear e1 e2 e3 hm
      go_enter Try.func16, Try.ntmps16
      go_wp2_with fail
      refine Calls.mono hfo ?_
      rintro e w1 ⟨rfl, b1⟩
      have c2' := c2 w1 (h.below b1)
      have FIN := Lib.hid (And.intro (hd.below b1) (And.intro (h.below b1) (b1.mono hB)))
      have hq : (l.size : Int) < (m : Int) + 1 := by omega
      generalize l.size = sz at c2' hq
      clear hfo hd h hi b1 c2 h1
      go_wp2
      go_ret
      exact ⟨rfl, FIN.out⟩
    · by_cases h2 : l.room < m + 1
      · have e1 : appE d l ims = 5 := by unfold appE; rw [HF.out, ← hm, if_neg (by simp), if_neg h1, if_pos h2]
        have e2 : appDev d l ims = d := by unfold appDev; rw [if_pos (.inr (.inr (by rw [← hm]; exact h2)))]
        have e3 : appL d l ims = l := by unfold appL; rw [e1]; rfl
        rw [e1, e2, e3]
        clear e1 e2 e3 hm
        go_enter Try.func16, Try.ntmps16
        go_wp2_with fail
        refine Calls.mono hfo ?_
        rintro e w1 ⟨rfl, b1⟩
        have c2' := c2 w1 (h.below b1)
        have hro := room_any (h.below b1) ok
        have hq : ¬ (l.size : Int) < (m : Int) + 1 := by omega
        have hq2 : (l.room : Int) < (m : Int) + 1 := by omega
        generalize l.size = sz at c2' hq
        generalize l.room = rm at hro hq2
        clear hfo c2 h1 h2
        go_wp2_with fail
        refine Calls.mono hro ?_
        rintro e w2 ⟨rfl, b2⟩
        have bb2 := b1.trans (b2.mono b1.size)
        have FIN := Lib.hid (And.intro (hd.below bb2) (And.intro (h.below bb2) (bb2.mono hB)))
        clear hro hd h hi b1 b2 bb2
        go_wp2
        go_ret
        exact ⟨rfl, FIN.out⟩
      · have e1 : appE d l ims = (appD d l ims (m + 1)).1 := by unfold appE; rw [HF.out, ← hm, if_neg (by simp), if_neg h1, if_neg h2]
        have e2 : appDev d l ims = (appD d l ims (m + 1)).2 := by unfold appDev; rw [← hm, if_neg (by rw [HF.out]; simp; omega)]
        have e3 : appL d l ims = if (appD d l ims (m + 1)).1 = 0 then { l with next := l.next + (m + 1) } else l := by unfold appL; rw [e1, ← hm]
        have hm4 : m ≤ 4096 := by have := ok.fs; omega
        have hnx : l.next ≤ 1125899906860000 := by have := ok.tail; have := ok.room; have := ok.fs; omega
        have hro1 : m + 1 ≤ l.room := by omega
        rw [e1, e2, e3]
        show Calls Try.prog _ _ w (AppPost B w lb db N d l ims m)
        clear e1 e2 e3 hm
        have hwt := fun j => appD_waits d l ims j
        have HWT := Lib.hid hwt
        clear hwt
        go_enter Try.func16, Try.ntmps16
        go_wp2_with fail
        refine Calls.mono hfo ?_
        rintro e w1 ⟨rfl, b1⟩
        have c2' := c2 w1 (h.below b1)
        have hro := room_any (h.below b1) ok
        have hq : ¬ (l.size : Int) < (m : Int) + 1 := by omega
        have hq2 : ¬ (l.room : Int) < (m : Int) + 1 := by omega
        generalize hsz : l.size = sz at c2' hq
        generalize hrm : l.room = rm at hro hq2
        clear hfo c2 h1 h2 hsz hrm
        go_wp2_with fail
        refine Calls.mono hro ?_
        rintro e w2 ⟨rfl, b2⟩
        have bb2 := b1.trans (b2.mono b1.size)
        have F2 : Fr FK B w w2 := Fr.of_below bb2
        have d2 := hd.below bb2
        have l2 := h.below bb2
        have i2 := hi.fr F2
        clear hro b1 b2 c2'
        go_wp2
        go_loopw [27] (fun iv wr => ∃ j : Nat, j ≤ m + 1 ∧ iv = .int .i64 j ∧ Hid ((appD d l ims j).1 = 0) ∧ DevAt B wr db (appD d l ims j).2 N ∧ WlAt wr lb db l ∧ ImgsK B wr (.slice ao m cap) ims ∧ Fr FK B w wr) (fun iv _ => m + 1 - (intOf iv).toNat)
        case atStart => exact ⟨0, Nat.zero_le _, rfl, Lib.hid rfl, d2, l2, i2, F2⟩
        case round =>
          obtain ⟨j, hj, rfl, hz, dj, lj, ij, Fj⟩ := hrel
          clear d2 l2 i2 F2
          by_cases hlt : j < m + 1
          · have hs := appD_succ d l ims j hz.out
            have hw9 := HWT.out j
            have hwq := want_ok (by rw [← HM.out]; exact hm4) HIOK.out l.epoch l.next j ok.epoch hnx (by omega)
            have hwf := want_form HF.out l.epoch l.next j
            have HBw : B ≤ wr.heap.size := Nat.le_trans hB Fj.size
            clear hz
            go_wp2_with fail
            have hS : Fr FK B wr wr.drew := (Fr.refl _ _ _).drew
            have hSb : Below wr.heap.size wr wr.drew := (Below.refl _ _).drew
            refine wp_region_held_drew (S := fun w' => Fr FK B wr w') mixed hS (fun _ => ?_)
            show wpAnyH _ _ _ _ _ 14 (Array.replicate 14 false) _ _
            refine wpAnyH_take_d 0 (some 30) (.pointer (some ⟨lb, 0, none⟩)) rfl (by kernel_rfl) (by kernel_rfl) (by kernel_rfl) (by kernel_rfl) rfl (fun _ _ _ h => h) (fun _ _ => by kernel_rfl) (by exact hS) ?_
            simp only [Act.put, List.setIfInBounds_toArray, List.set_cons_succ, List.set_cons_zero]
            refine wpAnyH_take_d 1 (some 31) (.pointer (some ⟨lb, 0, none⟩)) rfl (by kernel_rfl) (by kernel_rfl) (by kernel_rfl) (by kernel_rfl) rfl (fun _ _ _ h => h) (fun _ _ => by kernel_rfl) (by exact hS) ?_
            simp only [Act.put, List.setIfInBounds_toArray, List.set_cons_succ, List.set_cons_zero]
            refine wpAnyH_take_d 2 (some 32) (.pointer (some ⟨lb, 0, none⟩)) rfl (by kernel_rfl) (by kernel_rfl) (by kernel_rfl) (by kernel_rfl) rfl (fun _ _ _ h => h) (fun _ _ => by kernel_rfl) (by exact hS) ?_
            simp only [Act.put, List.setIfInBounds_toArray, List.set_cons_succ, List.set_cons_zero]
            refine wpAnyH_take_d 3 (some 33) (.pointer (some ⟨lb, 5, none⟩)) rfl (by kernel_rfl) (by kernel_rfl) (by kernel_rfl) (by kernel_rfl) rfl (fun _ _ _ h => h) (fun _ _ => by kernel_rfl) (by exact hS) ?_
            simp only [Act.put, List.setIfInBounds_toArray, List.set_cons_succ, List.set_cons_zero]
            refine wpAnyH_take_d 4 (some 34) (.int .i64 (l.epoch : Nat)) rfl (by kernel_rfl) (by kernel_rfl) (by kernel_rfl) (by kernel_rfl) rfl (fun _ _ _ h => h) (fun w' h => exec_load_cell rfl rfl (cell_row (lj.fr h) 5 rfl) Try.underlying3 rfl) (by exact hS) ?_
            simp only [Act.put, List.setIfInBounds_toArray, List.set_cons_succ, List.set_cons_zero]
            refine wpAnyH_take_d 5 (some 35) (.pointer (some ⟨lb, 0, none⟩)) rfl (by kernel_rfl) (by kernel_rfl) (by kernel_rfl) (by kernel_rfl) rfl (fun _ _ _ h => h) (fun _ _ => by kernel_rfl) (by exact hS) ?_
            simp only [Act.put, List.setIfInBounds_toArray, List.set_cons_succ, List.set_cons_zero]
            refine wpAnyH_take_d 6 (some 36) (.pointer (some ⟨lb, 0, none⟩)) rfl (by kernel_rfl) (by kernel_rfl) (by kernel_rfl) (by kernel_rfl) rfl (fun _ _ _ h => h) (fun _ _ => by kernel_rfl) (by exact hS) ?_
            simp only [Act.put, List.setIfInBounds_toArray, List.set_cons_succ, List.set_cons_zero]
            refine wpAnyH_take_d 7 (some 37) (.pointer (some ⟨lb, 4, none⟩)) rfl (by kernel_rfl) (by kernel_rfl) (by kernel_rfl) (by kernel_rfl) rfl (fun _ _ _ h => h) (fun _ _ => by kernel_rfl) (by exact hS) ?_
            simp only [Act.put, List.setIfInBounds_toArray, List.set_cons_succ, List.set_cons_zero]
            refine wpAnyH_take_d 8 (some 38) (.int .i64 (l.next : Nat)) rfl (by kernel_rfl) (by kernel_rfl) (by kernel_rfl) (by kernel_rfl) rfl (fun _ _ _ h => h) (fun w' h => exec_load_cell rfl rfl (cell_row (lj.fr h) 4 rfl) Try.underlying3 rfl) (by exact hS) ?_
            simp only [Act.put, List.setIfInBounds_toArray, List.set_cons_succ, List.set_cons_zero]
            refine wpAnyH_take_d 9 (some 39) (.int .i64 (j : Nat)) rfl (by kernel_rfl) (by kernel_rfl) (by kernel_rfl) (by kernel_rfl) rfl (fun _ _ _ h => h) (fun _ _ => by kernel_rfl) (by exact hS) ?_
            simp only [Act.put, List.setIfInBounds_toArray, List.set_cons_succ, List.set_cons_zero]
            refine wpAnyH_take_d 10 (some 40) (.slice ao m cap) rfl (by kernel_rfl) (by kernel_rfl) (by kernel_rfl) (by kernel_rfl) rfl (fun _ _ _ h => h) (fun _ _ => by kernel_rfl) (by exact hS) ?_
            simp only [Act.put, List.setIfInBounds_toArray, List.set_cons_succ, List.set_cons_zero]
            generalize wr.drew = wx at hS hSb ⊢
            have hwa := wanted_any (ij.fr hS).at (by rw [← HM.out]; exact hm4) l.epoch l.next j ok.epoch hnx (by omega)
            refine wpAnyH_call 11 (some 41) 42 #[.int .i64 (l.epoch : Nat), .int .i64 (l.next : Nat), .int .i64 (j : Nat), .slice ao m cap] rfl (by kernel_rfl) (by kernel_rfl) rfl (by kernel_rfl) hwa ?_
            rintro e wy ⟨rfl, b1⟩
            have hSb := hSb.trans (b1.mono hSb.size)
            have hS : Fr FK B wr wy := Fr.of_below hSb
            refine ⟨_, rfl, hS, ?_⟩
            simp only [Act.put, List.setIfInBounds_toArray, List.set_cons_succ, List.set_cons_zero]
            have hww := wlWrite_any (dj.below hSb) (lj.below hSb) ok (by omega) (Nat.le_trans HBw hSb.size) (wantR l.epoch l.next j ims) hwq hwf
            rw [← hs] at hww
            refine wpAnyH_call 12 (some 42) 41 #[.pointer (some ⟨lb, 0, none⟩), logVal (wantR l.epoch l.next j ims)] rfl (by kernel_rfl) (by kernel_rfl) rfl (by kernel_rfl) hww ?_
            rintro e wz ⟨rfl, dz, lz, fz⟩
            have hS : Fr FK B wr wz := hS.trans fz
            refine ⟨_, rfl, hS, ?_⟩
            simp only [Act.put, List.setIfInBounds_toArray, List.set_cons_succ, List.set_cons_zero]
            refine wpAnyH_take_d 13 (some 7) (.int .i64 (appD d l ims (j + 1)).1) rfl (by kernel_rfl) (by kernel_rfl) (by kernel_rfl) (by kernel_rfl) rfl (fun _ _ _ h => h) (fun _ _ => by kernel_rfl) (by exact hS) ?_
            simp only [Act.put, List.setIfInBounds_toArray, List.set_cons_succ, List.set_cons_zero]
            refine wpAnyH_done (by kernel_rfl) ?_ _
            have Fz := Fj.trans hS
            have iz := ij.fr hS
            clear hww hwa hS hSb dj lj ij Fj hs hwq hwf fz b1
            by_cases e0 : (appD d l ims (j + 1)).1 = 0
            · have HZ := Lib.hid e0
              rw [e0]
              clear e0
              go_wp2
              go_roundw
              case rel => exact ⟨j + 1, by omega, by go_num, HZ, dz, lz, iz, Fz⟩
              case measure => simp [intOf]; omega
            · have hq3 : ((appD d l ims (j + 1)).1 != 0) = true := by simpa using e0
              have FIN := Lib.hid (appPost_err (m := m) j (by omega) e0 dz lz (Fz.below hB))
              generalize (appD d l ims (j + 1)).1 = er at hq3 FIN
              clear e0 dz lz iz Fz
              go_wp2
              go_ret
              exact FIN.out
          · obtain rfl : j = m + 1 := by omega
            have c4 : wr.cell? ⟨lb, 4, none⟩ = some (.int .i64 (l.next : Nat)) := cell_row lj 4 rfl
            have f4 := free_row lj 4
            have hsum : IntKind.i64.wrap ((l.next : Int) + ((m : Int) + 1)) = ((l.next + (m + 1) : Nat) : Int) := by rw [IntKind.wrap_i64]; omega
            have hst : WlAt (wr.setCell ⟨lb, 4, none⟩ (.int .i64 ((l.next + (m + 1) : Nat) : Int))) lb db { l with next := l.next + (m + 1) } := Go.heap_setCell_same wr lb 4 _ _ (.int .i64 ((l.next + (m + 1) : Nat) : Int)) lj
            have fst' : Fr FK B w (wr.setCell ⟨lb, 4, none⟩ (.int .i64 ((l.next + (m + 1) : Nat) : Int))) ∨ True := .inr trivial
            have dst' : DevAt B (wr.setCell ⟨lb, 4, none⟩ (.int .i64 ((l.next + (m + 1) : Nat) : Int))) db (appD d l ims (m + 1)).2 N := dev_other dj (WlAt.ne lj dj) _ _
            have bst : Below B w (wr.setCell ⟨lb, 4, none⟩ (.int .i64 ((l.next + (m + 1) : Nat) : Int))) := (Fj.below hB).setCell (p := ⟨lb, 4, none⟩) hlB _
            have FIN := Lib.hid (appPost_ok (m := m) hz.out dst' hst bst)
            have hsum' : (l.next : Int) + ((m : Int) + 1) = ((l.next + (m + 1) : Nat) : Int) := by omega
            rw [← hsum'] at FIN
            clear dst' hst bst fst' dj lj ij Fj hz hsum'
            generalize l.next = nx at c4 hsum FIN hnx ⊢
            go_wp2
            go_ret
            exact FIN.out
end Go.Proofs.Ytbgefdigmdfalaa
