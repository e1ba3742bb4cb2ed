/- Items of one's own, and the contract of pack.Decode. No statement of the seat is proved here. -/
import Derived.Test.YtmkomhdlcbimoaaPDec
namespace Go.Proofs.Ytmkomhdlcbimoaa
set_option maxRecDepth 20000
open Go.RowKit

def cellsI (l : List It) : List Value := l.flatMap fun x => [.int .i64 x.k, .int .i64 x.n, .string x.s]
theorem cellsI_length (l : List It) : (cellsI l).length = l.length * 3 := by
  induction l with
  | nil => rfl
  | cons x r ih => simp only [cellsI, List.flatMap_cons, List.length_append, List.length_cons, List.length_nil] at *; omega
theorem cellsI_one (l : List It) : ∀ u ∈ cellsI l, u.oneCell' = true := by
  intro u hu
  simp only [cellsI, List.mem_flatMap] at hu
  obtain ⟨x, _, hx⟩ := hu
  simp only [List.mem_cons, List.not_mem_nil, or_false] at hx
  rcases hx with rfl | rfl | rfl <;> rfl
theorem cellsI_append (l m : List It) : cellsI (l ++ m) = cellsI l ++ cellsI m := by simp [cellsI]
theorem cellsI_get (l : List It) : ∀ (i : Nat), i < l.length → (cellsI l)[i * 3]? = some (.int .i64 (itAt l i).k) ∧ (cellsI l)[i * 3 + 1]? = some (.int .i64 (itAt l i).n) ∧ (cellsI l)[i * 3 + 2]? = some (.string (itAt l i).s) := by
  induction l with
  | nil => intro i hi; simp at hi
  | cons x r ih =>
    intro i hi
    have e : cellsI (x :: r) = [.int .i64 x.k, .int .i64 x.n, .string x.s] ++ cellsI r := by simp [cellsI]
    cases i with
    | zero => rw [e]; exact ⟨rfl, rfl, rfl⟩
    | succ j =>
      have h := ih j (by simpa using hi)
      have ea : itAt (x :: r) (j + 1) = itAt r j := rfl
      rw [e, ea]
      refine ⟨?_, ?_, ?_⟩
      · rw [List.getElem?_append_right (by simp; omega)]; rw [← h.1]; congr 1; simp; omega
      · rw [List.getElem?_append_right (by simp; omega)]; rw [← h.2.1]; congr 1; simp; omega
      · rw [List.getElem?_append_right (by simp; omega)]; rw [← h.2.2]; congr 1; simp; omega

/-- A slice of items of the call's own. -/
def OwnI (base : Nat) (w : World) (v : Value) (l : List It) : Prop := w.ownsRow base 77 3 v l.length (cellsI l)
theorem OwnI.nil (base : Nat) (w : World) : OwnI base w (.slice none 0 0) [] := World.ownsRow_nil w base 77 3
theorem OwnI.alloc {base : Nat} {w : World} {v : Value} {l : List It} (h : OwnI base w v l) (o : Obj) : OwnI base (w.alloc o) v l := World.ownsRow.alloc h o
theorem OwnI.below {base : Nat} {w w' : World} {v : Value} {l : List It} (h : OwnI base w v l) (hb : Below w.heap.size w w') : OwnI base w' v l :=
  ownsRow_of_row h (fun k _ hk => (hb.block k (lt_of_heap hk)).trans hk)
theorem OwnI.form {base : Nat} {w : World} {v : Value} {l : List It} (h : OwnI base w v l) : ∃ ao cap, v = .slice ao l.length cap ∧ l.length ≤ cap ∧ l.length ≤ maxLen := by
  rcases h.2 with ⟨h1, h2⟩ | ⟨g, cap, cur, hv, hb, hg, hn, hm, hs, htake⟩
  · exact ⟨none, 0, by rw [h1, h2], by omega, by rw [h2]; exact Nat.zero_le _⟩
  · exact ⟨_, cap, hv, hn, Nat.le_trans hn hm⟩
theorem OwnI.form' {base : Nat} {w : World} {v : Value} {l : List It} (h : OwnI base w v l) : ∃ ao m cap, v = .slice ao m cap ∧ Hid (m = l.length) := by
  obtain ⟨ao, cap, hv, _, _⟩ := h.form
  exact ⟨ao, _, cap, hv, Lib.hid rfl⟩
theorem OwnI.items {base : Nat} {w : World} {v : Value} {l : List It} (h : OwnI base w v l) (hok : ∀ x ∈ l, x.ok) : ItemsAt w.heap.size w v l := by
  obtain ⟨ao, cap, hv, h1, h2⟩ := h.form
  refine ⟨ao, cap, hv, h1, by unfold maxLen at h2; omega, hok, fun h0 => ?_⟩
  obtain ⟨g, cap', hv', hb, hlt⟩ := World.ownsRow.form h h0
  have hc := World.ownsRow.cells h (g := g) (by rw [hv']; rfl)
  rw [hv] at hv'
  have ha : ao = some ⟨g, 0, none⟩ := by injection hv'
  refine ⟨g, 0, ha, hlt, fun i hi => ?_⟩
  obtain ⟨c1, c2, c3⟩ := cellsI_get l i hi
  have e : ∀ j u, (cellsI l)[j]? = some u → w.cell? ⟨g, 0 + j, none⟩ = some u := fun j u hu => by have := hc j u hu; rwa [Addr.add_mid] at this
  exact ⟨e _ _ c1, by rw [Nat.add_assoc]; exact e _ _ c2, by rw [Nat.add_assoc]; exact e _ _ c3⟩
/-- append onto items of one's own: from a slice that reads as items -/
theorem own_append_items {base : Nat} {w : World} {v : Value} {l : List It} (h : OwnI base w v l) {B : Nat} {x : Value} {m : List It} (hx : ItemsAt B w x m) (hlen : (l.length + m.length) * 32 ≤ 140737488355328) (hb : base ≤ w.heap.size) (ty : TypeId) :
    ∃ v' w', (Builtin.append_ #[74, 74] ty #[v, x]).run Try.prog w = .ok v' w' ∧ OwnI base w' v' (l ++ m) ∧ Below base w w' ∧ w.heap.size ≤ w'.heap.size := by
  obtain ⟨i, hi, hi0, hi1, hi2⟩ := info50'
  obtain ⟨bo, c, hxv, hxc0, hxl, hxo, hxc⟩ := hx
  subst hxv
  by_cases h0 : 0 < m.length
  · obtain ⟨b', off', rfl, hB, hat⟩ := hxc h0
    obtain ⟨v', w', hr, ho, hgr, -, -⟩ := run_append_own_at (P := Try.prog) w base 74 ty 77 i _ 3 32 Try.underlying74 hi hi0 hi1 hi2 rfl (by decide) v l.length (cellsI l) h ⟨b', off', none⟩ m.length c (cellsI m) (cellsI_length m) (fun j u hu => by
        have hj : j < m.length * 3 := by have := (List.getElem?_eq_some_iff.1 hu).1; rwa [cellsI_length] at this
        rw [Addr.add_mid]
        obtain ⟨q1, q2, q3⟩ := hat (j / 3) (by omega)
        obtain ⟨p1, p2, p3⟩ := cellsI_get m (j / 3) (by omega)
        have hj3 : j % 3 = 0 ∨ j % 3 = 1 ∨ j % 3 = 2 := by omega
        rcases hj3 with e | e | e
        · have ej : j = j / 3 * 3 := by omega
          rw [ej] at hu ⊢
          rw [p1] at hu; rw [← hu]
          exact q1
        · have ej : j = j / 3 * 3 + 1 := by omega
          rw [ej] at hu ⊢
          rw [p2] at hu; rw [← hu, ← Nat.add_assoc]
          exact q2
        · have ej : j = j / 3 * 3 + 2 := by omega
          rw [ej] at hu ⊢
          rw [p3] at hu; rw [← hu, ← Nat.add_assoc]
          exact q3) (cellsI_one m) (by unfold maxLen; omega) (by omega) hb
    refine ⟨v', w', hr, ?_, (Below.refl _ _).grown hgr hb (fun k hk => (World.ownsRow.lt h k hk).1), hgr.size⟩
    unfold OwnI
    rw [List.length_append, cellsI_append]
    exact ho
  · have hcs : m = [] := List.eq_nil_of_length_eq_zero (by omega)
    subst hcs
    obtain ⟨ao, cap, hv, hc1, _⟩ := h.form
    subst hv
    refine ⟨_, w, run_append_none w 74 ty 77 Try.underlying74 i hi ao bo l.length cap c hc1, by rw [List.append_nil]; exact h, Below.refl _ _, Nat.le_refl _⟩

def dec : Nat → List It → List UInt8 → Option (List It)
  | 0, acc, bs => if bs.length = 0 then some acc else none
  | f + 1, acc, bs => if bs.length = 0 then some acc else if (firstI bs).2 = 0 ∨ acc.length = 4000 then none else dec f (acc ++ [(firstI bs).1]) (bs.drop (firstI bs).2)
def decO (bs : List UInt8) : Option (List It) := dec bs.length [] bs
def decE (bs : List UInt8) : Int := if (decO bs).isSome then 0 else 2
def decR (bs : List UInt8) : List It := (decO bs).getD []
def ItRetE (base : Nat) (w : World) (l : List It) (er : Int) (e : Ending) (w' : World) : Prop := ∃ v', e = .returned (.tuple #[v', .int .i64 er]) ∧ OwnI base w' v' l ∧ Below base w w'
def slen : Value → Nat
  | .slice _ n _ => n
  | _ => 0
theorem firstI_ok (bs : List UInt8) : (firstI bs).1.ok := by
  unfold firstI
  split
  · refine ⟨by simp, ?_, by simp [maxLen]⟩
    simp only; unfold wrap64; omega
  · split
    · rename_i h
      refine ⟨by simp, by simp, ?_⟩
      simp only [strOf]
      show (List.toArray _).size ≤ maxLen
      rw [List.size_toArray, List.length_take]; unfold maxLen; omega
    · exact ⟨by simp [It.none], by simp [It.none], by simp [It.none, maxLen]⟩
theorem firstI_size (bs : List UInt8) : (firstI bs).2 = 0 ∨ (0 < (firstI bs).2 ∧ (firstI bs).2 ≤ bs.length) := by
  unfold firstI
  split
  · rename_i h; exact .inr ⟨by show 0 < 9; omega, h.2⟩
  · split
    · rename_i h; exact .inr ⟨by show 0 < 3 + _; omega, by show 3 + _ ≤ _; omega⟩
    · exact .inl rfl
set_option maxRecDepth 20000 in
set_option maxHeartbeats 1600000 in
theorem decode_any {w : World} {v : Value} {bs : List UInt8} (h : ByC w v bs) (hcap : capOk v) : Calls Try.prog 65 #[v] w (ItRetE w.heap.size w (decR bs) (decE bs)) := by
  obtain ⟨ao, m, cap, hv, hm⟩ : ∃ ao m cap, v = .slice ao m cap ∧ Hid (m = bs.length) := by
    obtain ⟨ao, cap, hv, _⟩ := h
    exact ⟨ao, _, cap, hv, Lib.hid rfl⟩
  have hmb : m ≤ 9223372036854775807 := by rw [hm.out]; obtain ⟨_, _, _, hh⟩ := h.form; exact hh
  subst hv
  have hmc : m ≤ cap := hcap
  go_enter Try.func65, Try.ntmps65
  go_wp2
  go_loopw [0, 4] (fun bv lv wr => ∃ bo n c, ∃ (bs' : List UInt8) (acc : List It) (f : Nat), bv = .slice bo n c ∧ n ≤ 9223372036854775807 ∧ n ≤ c ∧ Hid (n = bs'.length) ∧ Hid (bs'.length ≤ f) ∧ ByC w (.slice bo n c) bs' ∧ OwnI w.heap.size wr lv acc ∧ Hid (acc.length ≤ 4000) ∧ Below w.heap.size w wr ∧ Hid (dec f acc bs' = decO bs)) (fun bv _ _ => slen bv)
  case atStart => exact ⟨_, _, _, bs, [], bs.length, rfl, hmb, hmc, hm, Lib.hid (Nat.le_refl _), h, OwnI.nil _ _, Lib.hid (by simp), Below.refl _ _, Lib.hid rfl⟩
  case round =>
    obtain ⟨bo, n, c, bs', acc, f, rfl, hn9, hnc, hn, hf, hby, ho, hacc, hbel, hdec⟩ := hrel
    obtain ⟨lo, lm, lc, hlv, hlm⟩ := ho.form'
    subst hlv
    by_cases hpos : 0 < n
    · obtain ⟨x, k, hx⟩ : ∃ x k, firstI bs' = (x, k) := ⟨_, _, rfl⟩
      have hfi := first_any (hby.below hbel) hnc (by rw [← hn.out]; exact hpos) x k hx
      have hxok : x.ok := by have := firstI_ok bs'; rwa [hx] at this
      have hks := firstI_size bs'
      rw [hx] at hks
      simp only at hks
      obtain ⟨f', hf'⟩ : ∃ f', f = f' + 1 := ⟨f - 1, by have := hf.out; have := hn.out; omega⟩
      have hd : Hid (decO bs = if k = 0 ∨ acc.length = 4000 then none else dec f' (acc ++ [x]) (bs'.drop k)) := Lib.hid (by
        rw [← hdec.out, hf', dec, if_neg (by rw [← hn.out]; omega), hx])
      have HKS := Lib.hid hks
      clear hx hks hdec
      go_wp2_with fail
      refine hfi.mono ?_
      rintro e w1 ⟨rfl, b1⟩
      clear hfi
      have bb1 := hbel.trans (b1.mono hbel.size)
      have ho1 := ho.below b1
      clear b1 ho hbel
      by_cases hbad : k = 0 ∨ lm = 4000
      · have hE : Hid (decO bs = none) := Lib.hid (by rw [hd.out, if_pos (by rw [← hlm.out]; exact hbad)])
        clear hd
        rcases Nat.eq_zero_or_pos k with hk0 | hk0
        · subst hk0
          clear hbad
          go_wp2
          go_ret2
          refine ⟨_, by rw [show decE bs = 2 by unfold decE; rw [hE.out]; rfl]; rfl, ?_, bb1.alloc bb1.size _⟩
          rw [show decR bs = [] by unfold decR; rw [hE.out]; rfl]; exact OwnI.nil _ _
        · obtain rfl : lm = 4000 := by omega
          have hk1 : ((k : Int) == 0) = false := by simp; omega
          clear hbad
          go_wp2
          go_ret2
          refine ⟨_, by rw [show decE bs = 2 by unfold decE; rw [hE.out]; rfl]; rfl, ?_, bb1.alloc bb1.size _⟩
          rw [show decR bs = [] by unfold decR; rw [hE.out]; rfl]; exact OwnI.nil _ _
      · have hE : Hid (dec f' (acc ++ [x]) (bs'.drop k) = decO bs) := Lib.hid (by rw [hd.out, if_neg (by rw [← hlm.out]; exact hbad)])
        clear hd
        have hk1 : ((k : Int) == 0) = false := by simp; omega
        have hl1 : ((lm : Int) == 4000) = false := by simp; omega
        have hkn : 0 < k ∧ k ≤ n := by
          rcases HKS.out with e | e
          · omega
          · rw [hn.out]; exact e
        obtain ⟨bo2, c2, s2, hc2, r2⟩ := tail_run hby hnc k hkn.2 (k : Int) rfl
        have hal : acc.length < 4000 := by have := hacc.out; have := hlm.out; omega
        have hsz : (w1.alloc (.cells #[.int .i64 x.k, .int .i64 x.n, .string x.s] 77)).heap.size = w1.heap.size + 1 := by simp
        have hbs := build_slice_one (w1.alloc (.cells #[.int .i64 x.k, .int .i64 x.n, .string x.s] 77)) x
        have hit := items_one (w1.alloc (.cells #[.int .i64 x.k, .int .i64 x.n, .string x.s] 77)) x hxok
        rw [hsz] at hbs hit
        obtain ⟨v4, w4, hr4, h4, b4, s4⟩ := own_append_items ((ho1.alloc (.cells #[.int .i64 x.k, .int .i64 x.n, .string x.s] 77)).alloc (.cells #[.int .i64 x.k, .int .i64 x.n, .string x.s] 77)) hit (by simp; omega) (by have := bb1.size; simp; omega) 74
        have bb4 := ((bb1.alloc bb1.size (.cells #[.int .i64 x.k, .int .i64 x.n, .string x.s] 77)).alloc (by have := bb1.size; simp; omega) (.cells #[.int .i64 x.k, .int .i64 x.n, .string x.s] 77)).trans b4
        obtain ⟨lo4, lm4, lc4, hv4, hm4⟩ := h4.form'
        subst hv4
        have HR4 := Lib.hid hr4
        have hn2 : Hid (n - k = (bs'.drop k).length) := Lib.hid (by rw [List.length_drop, hn.out])
        have hf2 : Hid ((bs'.drop k).length ≤ f') := Lib.hid (by rw [List.length_drop]; have := hf.out; have := hn.out; omega)
        have ha2 : Hid ((acc ++ [x]).length ≤ 4000) := Lib.hid (by simp; omega)
        generalize hN : n - k = N at s2 hc2 r2 hn2
        have hNn : N < n := by omega
        clear hr4 hit hsz b4 s4 ho1 hby hbad hkn hN
        go_wp2_with (with_reducible refine wpList_append_eq rfl (.tmp 22) (.tmp 24) 74 74 rfl (.slice lo lm lc) (.slice (some ⟨w1.heap.size + 1, 0, none⟩) 1 1) (.slice lo4 lm4 lc4) rfl rfl HR4.out ?_)
        go_roundw
        case rel => exact ⟨bo2, N, c2, _, _, f', rfl, by omega, hc2, hn2, hf2, s2, h4, ha2, bb4, hE⟩
        case measure => simp [slen]; omega
    · have hE : Hid (decO bs = some acc) := Lib.hid (by
        rw [← hdec.out]
        have h0 : bs'.length = 0 := by rw [← hn.out]; omega
        cases f with
        | zero => rw [dec, if_pos h0]
        | succ f => rw [dec, if_pos h0])
      obtain rfl : n = 0 := by omega
      go_wp2
      go_ret2
      refine ⟨_, by rw [show decE bs = 0 by unfold decE; rw [hE.out]; rfl]; rfl, ?_, hbel⟩
      rw [show decR bs = acc by unfold decR; rw [hE.out]; rfl]; exact ho
end Go.Proofs.Ytmkomhdlcbimoaa
