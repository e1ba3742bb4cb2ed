/- The document's device in memory: its block, its lists, what of it other calls keep; spend and Arm. No statement of the seat is proved here. -/
import Derived.Test.YtfdabkcbefhdaaaREl
import Derived.Test.YtfdabkcbefhdaaaFSmall
import Derived.Test.YtfdabkcbefhdaaaFPick
namespace Go.Proofs.Ytfdabkcbefhdaaa
set_option maxRecDepth 20000
open Go.RowKit

/-- the kinds of blocks that the document's device is made of -/
def RK : Obj → Bool
  | .cells _ t _ => t == 47 || t == 9 || t == 4 || t == 75
  | _ => false
theorem RK_FK : ∀ o, FK o = true → RK o = false := by
  intro o h
  cases o with
  | cells cs t fz =>
    simp only [FK, Bool.or_eq_true, beq_iff_eq] at h
    rcases h with rfl | rfl <;> rfl
  | _ => rfl
theorem FK_RK : ∀ o, RK o = true → FK o = false := by
  intro o h
  cases hf : FK o with
  | false => rfl
  | true => rw [RK_FK o hf] at h; cases h
/-- how many writes and flushes are left, as the document's device tells it -/
def armR (d : Dev) : Int := if d.armed then (d.left : Int) else -1
def waitsR (d : Dev) : List (Int × ByteArray) := d.waits.map fun p => (p.1, ⟨p.2.toArray⟩)
/-- the document's lists of all sectors tell what the device d lasts -/
structure Tells (d : Dev) (L : List ByteArray) (T : List Bool) : Prop where
  len : L.length = d.size
  lenT : T.length = d.size
  torn : ∀ i : Nat, i < d.size → T[i]? = some (d.last i).2
  last : ∀ i : Nat, i < d.size → (d.last i).2 = false → L[i]? = some ⟨(d.last i).1.toArray⟩
structure RDevAt (B : Nat) (w : World) (rb : Nat) (d : Dev) : Prop where
  ok : d.Ok
  ge : B ≤ rb
  box : ∃ lv tv wv L T, w.heap[rb]? = some (.cells #[lv, tv, wv, .bool d.off, .int .i64 (armR d)] 47 (0, 0)) ∧
    Tells d L T ∧ OwnR elS B w lv L ∧ w.ownsRow B 4 1 tv T.length (T.map Value.bool) ∧ OwnR elW B w wv (waitsR d)
theorem RDevAt.fr {K : Obj → Bool} {B B' : Nat} {w w' : World} {rb : Nat} {d : Dev} (h : RDevAt B w rb d) (hf : Fr K B' w w') (hK : ∀ o, RK o = true → K o = false) : RDevAt B w' rb d := by
  obtain ⟨ok, ge, lv, tv, wv, L, T, h1, h2, h3, h4, h5⟩ := h
  exact ⟨ok, ge, lv, tv, wv, L, T, hf.keep _ _ h1 (Or.inr (hK _ rfl)), h2, hf.ownsRow h3 (fun cs => hK _ rfl), hf.ownsRow h4 (fun cs => hK _ rfl), hf.ownsRow h5 (fun cs => hK _ rfl)⟩
theorem RDevAt.below {B : Nat} {w w' : World} {rb : Nat} {d : Dev} (h : RDevAt B w rb d) (hb : Below w.heap.size w w') : RDevAt B w' rb d :=
  h.fr (Fr.of_below (K := fun _ => false) (B := 0) hb) (fun _ _ => rfl)
theorem RDevAt.cells {B : Nat} {w : World} {rb : Nat} {d : Dev} (h : RDevAt B w rb d) : w.cell? ⟨rb, 3, none⟩ = some (.bool d.off) ∧ w.cell? ⟨rb, 4, none⟩ = some (.int .i64 (armR d)) ∧ ∀ i, w.frozen? ⟨rb, i, none⟩ = false := by
  obtain ⟨-, -, lv, tv, wv, L, T, h1, -⟩ := h
  exact ⟨by rw [cell_of_row _ _ _ _ _ _ h1]; rfl, by rw [cell_of_row _ _ _ _ _ _ h1]; rfl, fun i => by simp [World.frozen?, h1]⟩
/-- a store into the block's own flag or number -/
theorem RDevAt.store {B : Nat} {w : World} {rb : Nat} {d d' : Dev} (h : RDevAt B w rb d) (i : Nat) (u : Value) (hd : d'.Ok)
    (hcs : ∀ lv tv wv, (#[lv, tv, wv, .bool d.off, .int .i64 (armR d)] : Array Value).setIfInBounds i u = #[lv, tv, wv, .bool d'.off, .int .i64 (armR d')])
    (hz : d'.size = d.size) (hl : d'.last = d.last) (hw : d'.waits = d.waits) : RDevAt B (w.setCell ⟨rb, i, none⟩ u) rb d' ∧ Fr RK B w (w.setCell ⟨rb, i, none⟩ u) := by
  obtain ⟨ok, ge, lv, tv, wv, L, T, h1, h2, h3, h4, h5⟩ := h
  have hs := heap_setCell_same w rb i _ _ u h1
  rw [hcs] at hs
  have hk : ∀ (k : Nat) cs t, t ≠ 47 → w.heap[k]? = some (.cells cs t (0, 0)) → (w.setCell ⟨rb, i, none⟩ u).heap[k]? = some (.cells cs t (0, 0)) := fun k cs t ht hk => by
    rw [Below.heap_setCell _ _ _ _ (by rintro rfl; rw [h1] at hk; injection hk with e; injection e with _ e _; exact ht e.symm)]; exact hk
  refine ⟨⟨hd, ge, lv, tv, wv, L, T, hs, ⟨hz ▸ h2.len, hz ▸ h2.lenT, by rw [hz, hl]; exact h2.torn, by rw [hz, hl]; exact h2.last⟩, ownsRow_of_row h3 (fun k cs => hk k cs _ (by decide)), ownsRow_of_row h4 (fun k cs => hk k cs _ (by decide)), ?_⟩, (Fr.refl _ _ _).setCell h1 ge rfl u⟩
  have e : waitsR d' = waitsR d := by unfold waitsR; rw [hw]
  rw [e]
  exact ownsRow_of_row h5 (fun k cs => hk k cs _ (by decide))
theorem rspend_end {B : Nat} {w : World} {rb : Nat} {d d' : Dev} {b b' : Bool} (hs : d.spend = (b', d')) (hb : b = b') {w' : World} (h : RDevAt B w' rb d' ∧ Fr RK B w w') : Ending.returned (.bool b) = .returned (.bool d.spend.1) ∧ RDevAt B w' rb d.spend.2 ∧ Fr RK B w w' := by
  rw [hs, hb]; exact ⟨rfl, h⟩
set_option maxHeartbeats 1600000 in
theorem rspend_any {B : Nat} {w : World} {rb : Nat} {d : Dev} (h : RDevAt B w rb d) :
    Calls Try.prog 37 #[.pointer (some ⟨rb, 0, none⟩)] w fun e w' => e = .returned (.bool d.spend.1) ∧ RDevAt B w' rb d.spend.2 ∧ Fr RK B w w' := by
  obtain ⟨c3, c4, fz⟩ := h.cells
  have f3 := fz 3
  have f4 := fz 4
  clear fz
  have hle := h.ok.left
  by_cases h1 : d.off = true
  · have st := h.store (d' := d) 3 (.bool true) h.ok (fun _ _ _ => by simp [h1]) rfl rfl rfl
    rw [h1] at c3
    have ST := Lib.hid st
    clear st h
    have H1 := Lib.hid h1
    clear h1
    go_enter Try.func37, Try.ntmps37
    go_wp2
    go_ret
    exact rspend_end (by simp [Dev.spend, H1.out]; done) rfl ST.out
  · have h1' : d.off = false := by simpa using h1
    rw [h1'] at c3
    by_cases h2 : d.armed = true
    · by_cases h3 : d.left = 0
      · have ea : armR d = 0 := by unfold armR; rw [h2, h3]; rfl
        have st := h.store (d' := { d with off := true }) 3 (.bool true) ⟨h.ok.1, h.ok.2, h.ok.3, h.ok.4, h.ok.5⟩ (fun _ _ _ => by simp [armR]) rfl rfl rfl
        rw [ea] at c4
        have ST := Lib.hid st
        have H3 := Lib.hid (And.intro h1' (And.intro h2 h3))
        clear st h h1 h1' h2 h3 ea
        go_enter Try.func37, Try.ntmps37
        go_wp2
        go_ret
        exact rspend_end (by simp [Dev.spend, H3.out.1, H3.out.2.1, H3.out.2.2]; done) rfl ST.out
      · have ea : armR d = (d.left : Int) := by unfold armR; rw [h2]; rfl
        have st := h.store (d' := { d with left := d.left - 1 }) 4 (.int .i64 ((d.left : Int) - 1)) ⟨h.ok.1, by have := h.ok.2; simp; omega, h.ok.3, h.ok.4, h.ok.5⟩ (fun _ _ _ => by simp [armR, h2]; omega) rfl rfl rfl
        rw [ea] at c4
        have ST := Lib.hid st
        have H3 := Lib.hid (And.intro h1' (And.intro h2 h3))
        have h4 : ((d.left : Int) == 0) = false := beq_eq_false_iff_ne.2 (by omega)
        have h5 : (0 : Int) < (d.left : Int) := by omega
        clear st h h1 h1' h2 ea
        go_enter Try.func37, Try.ntmps37
        go_wp2
        go_ret
        exact rspend_end (by simp [Dev.spend, H3.out.1, H3.out.2.1, H3.out.2.2]; done) rfl ST.out
    · have h2' : d.armed = false := by simpa using h2
      have ea : armR d = -1 := by unfold armR; rw [h2']; rfl
      rw [ea] at c4
      have HH := Lib.hid h
      have H3 := Lib.hid (And.intro h1' h2')
      clear h h1 h1' h2 h2' ea
      go_enter Try.func37, Try.ntmps37
      go_wp2
      go_ret
      exact rspend_end (by simp [Dev.spend, H3.out.1, H3.out.2]; done) rfl ⟨HH.out, Fr.refl _ _ _⟩
set_option maxHeartbeats 800000 in
theorem rarm_any {B : Nat} {w : World} {rb : Nat} {d : Dev} (h : RDevAt B w rb d) (n : Int) (hn : n ≤ 9223372036854775807) :
    Calls Try.prog 33 #[.pointer (some ⟨rb, 0, none⟩), .int .i64 n] w fun e w' => e = .returned (.tuple #[]) ∧ RDevAt B w' rb (d.arm n) ∧ Fr RK B w w' := by
  obtain ⟨-, c4, fz⟩ := h.cells
  have f4 := fz 4
  clear fz
  have st := h.store (d' := d.arm n) 4 (.int .i64 (max n (-1))) ⟨h.ok.1, by simp [Dev.arm]; omega, h.ok.3, h.ok.4, h.ok.5⟩ (fun _ _ _ => by
    by_cases h0 : 0 ≤ n
    · simp [Dev.arm, armR, h0]; omega
    · simp [Dev.arm, armR, h0]; omega) rfl rfl rfl
  have ST := Lib.hid st
  clear st h
  by_cases h0 : -1 ≤ n
  · have e : max n (-1) = n := by omega
    rw [e] at ST
    go_enter Try.func33, Try.ntmps33
    go_wp2
    all_goals
      go_returns
      first
        | exact ⟨rfl, ST.out⟩
        | (have e2 : n = -1 := by omega
           rw [e2] at ST
           rw [e2]
           exact ⟨rfl, ST.out⟩)
  · have e : max n (-1) = -1 := by omega
    rw [e] at ST
    go_enter Try.func33, Try.ntmps33
    go_wp2
    all_goals
      go_returns
      first
        | exact ⟨rfl, ST.out⟩
        | (exfalso; omega)
end Go.Proofs.Ytfdabkcbefhdaaa
