/- A log that grows on a device whose power stays on: what it is told to find when it is opened. No statement of the seat is proved here. -/
import Derived.Test.YtbgefdigmdfalaaWDev
import Derived.Test.YtbgefdigmdfalaaWOpen
namespace Go.Proofs.Ytbgefdigmdfalaa
set_option maxRecDepth 20000
open Go.RowKit

theorem ImgsR.k {B : Nat} {w : World} {v : Value} {l : List Im} (h : ImgsR w v l) : ImgsK B w v l := by
  obtain ⟨ao, cap, hv, h1, h2, h3, h4⟩ := h
  refine ⟨ao, cap, hv, h1, h2, h3, fun h0 => ?_⟩
  obtain ⟨b, off, cs, fz, e, hb, hc⟩ := h4 h0
  exact ⟨b, off, _, e, hb, .inr (FK_img cs fz), hc⟩
theorem imgsR_one (w : World) (x : Im) (hx : x.ok) : ImgsR (w.alloc (.cells #[.int .i64 x.p, .string x.d] 50)) (.slice (some ⟨w.heap.size, 0, none⟩) 1 1) [x] := by
  refine ⟨_, 1, rfl, Nat.le_refl _, by simp, fun y hy => ?_, fun _ => ⟨w.heap.size, 0, _, _, rfl, heap_alloc_new w _, fun i hi => ?_⟩⟩
  · rw [List.mem_singleton.1 hy]; exact hx
  · have : i = 0 := by simpa using hi
    subst this
    exact ⟨cell_new w _ _ 0 _ rfl, cell_new w _ _ 1 _ rfl⟩
structure Grown (d : Dev) (l : Wl) (T : Txs) : Prop where
  off : d.off = false
  arm : d.armed = false
  fits : Fits d l
  ok : l.Ok
  std : StdA (vw d l) l.tail T
  next : l.next = l.tail + lenT T
  void : ∀ q, l.next ≤ q → q < l.tail + l.size → vw d l q = none
  eps : ∀ x ∈ T, x.1 = l.epoch
theorem Grown.congr {d d' : Dev} {l : Wl} {T : Txs} (h : Grown d l T) (h1 : d'.off = false) (h2 : d'.armed = false) (h3 : d'.size = d.size) (hr : ∀ i, d'.read i = d.read i) : Grown d' l T := by
  have hv : vw d' l = vw d l := funext fun s => vw_congr (hr _)
  exact ⟨h1, h2, by have := h.fits; unfold Fits at *; rw [h3]; exact this, h.ok, by rw [hv]; exact h.std, h.next, by rw [hv]; exact h.void, h.eps⟩
theorem fresh_none (n : Nat) (l : Wl) (q : Nat) : vw (Dev.fresh n) l q = none := by
  by_cases h : (Dev.fresh n).has (l.at q : Nat) = true
  · refine vw_bad ?_
    have : (Dev.fresh n).read (l.at q : Nat) = (zeros, 0) := by
      unfold Dev.read
      rw [if_neg (by rw [h]; simp)]
      rfl
    rw [this]; exact logE_zeros
  · refine vw_unread ?_
    unfold Dev.read
    rw [if_pos (by simpa using h)]
    decide
theorem Grown.start {n first size tail epoch : Nat} (hn : n ≤ 4096) (h : openB (Dev.fresh n) first size tail epoch = true) : Grown (Dev.fresh n) (wl0 first size tail epoch) [] := by
  have hok := wl0_ok (fresh_ok n hn) h
  have hfa := openB_facts h
  have hs : (Dev.fresh n).size = n := rfl
  rw [hs] at hfa
  exact ⟨rfl, rfl, by unfold Fits wl0; rw [hs]; simp only; omega, hok, trivial, rfl, fun q _ _ => fresh_none n _ q, by simp⟩
theorem fresh_scan {n first size tail epoch : Nat} (hn : n ≤ 4096) (h : openB (Dev.fresh n) first size tail epoch = true) (f : Nat) : scanR (Dev.fresh n) f (wl0 first size tail epoch) 0 = ([], tail) :=
  scan_stop (wl0_ok (fresh_ok n hn) h) (fun hd h1 => by rw [fresh_none] at h1; exact absurd h1 (by simp)) f
theorem Grown.app {d : Dev} {l : Wl} {T : Txs} (h : Grown d l T) {a : List Im} (hi : imsOk a = true) (hx : ∀ x ∈ a, x.ok) (hr : a.length + 1 ≤ l.room) :
    appE d l a = 0 ∧ Grown (appDev d l a) (appL d l a) (T ++ [(l.epoch, a)]) ∧ (appDev d l a).waits.length = d.waits.length + (a.length + 1) ∧ (appDev d l a).size = d.size ∧ (appDev d l a).last = d.last ∧ appL d l a = { l with next := l.next + (a.length + 1) } := by
  have hrs : l.room ≤ l.size := by unfold Wl.room; omega
  have hrl := room_lim h.ok
  have htn := h.ok.tn
  have hrm := h.ok.room
  have hfs := h.ok.fs
  have hta := h.ok.tail
  have e1 : appE d l a = (appD d l a (a.length + 1)).1 := by unfold appE; rw [if_neg (by rw [hi]; simp), if_neg (by omega), if_neg (by omega)]
  have e2 : appDev d l a = (appD d l a (a.length + 1)).2 := by unfold appDev; rw [if_neg (by rw [hi]; simp; omega)]
  obtain ⟨k, g1, g2, g3, g4, g5, g6⟩ := appD_any h.ok h.fits h.off hi (a.length + 1)
  obtain ⟨f1, f2⟩ := g6 h.arm
  have e0 : appE d l a = 0 := by rw [e1]; exact f1
  have e3 : appL d l a = { l with next := l.next + (a.length + 1) } := by unfold appL; rw [if_pos e0]
  rcases g5 with ⟨q1, q2, q3⟩ | ⟨q1, _, _⟩
  · subst q2
    have hv : ∀ q, l.tail ≤ q → q < l.tail + l.size → vw (appDev d l a) l q = if l.next ≤ q ∧ q < l.next + (a.length + 1) then some (wantR l.epoch l.next (q - l.next) a) else vw d l q := fun q h1 h2 => by
      rw [e2]
      exact vw_recs h.ok h.fits h.off q3 g4 g2 g3 hi (fun i hi' => want_ok (by omega) hx _ _ _ h.ok.epoch (by omega) (by omega)) htn (by omega) h1 h2
    rw [e3]
    refine ⟨e0, ⟨by rw [e2]; exact q3, by rw [e2]; exact f2, by have := h.fits; unfold Fits at *; rw [e2, g4]; exact this, h.ok.step hr, ?_, ?_, ?_, ?_⟩, by rw [e2, g2, List.length_append]; simp [recsN], by rw [e2]; exact g4, by rw [e2]; exact g3, rfl⟩
    · show StdA (vw (appDev d l a) l) l.tail (T ++ [(l.epoch, a)])
      rw [StdA_append]
      refine ⟨h.std.keep (fun q h1 h2 => ?_), ?_, trivial⟩
      · rw [hv q h1 (by have := h.next; omega), if_neg (by have := h.next; omega)]
      · rw [← h.next]
        show Std (vw (appDev d l a) l) l.next l.epoch a
        exact std_recs (v := vw d l) (fun q h1 h2 => hv q (by omega) (by omega))
    · show l.next + (a.length + 1) = l.tail + lenT (T ++ [(l.epoch, a)])
      rw [lenT_append, h.next]
      simp only [lenT]; omega
    · intro q h1 h2
      show vw (appDev d l a) l q = none
      simp only at h1 h2
      rw [hv q (by omega) h2, if_neg (by omega)]
      exact h.void q (by omega) h2
    · intro x hx
      rcases List.mem_append.1 hx with hx | hx
      · exact h.eps x hx
      · rw [List.mem_singleton.1 hx]
  · omega
theorem Grown.flush {d : Dev} {l : Wl} {T : Txs} (h : Grown d l T) : d.flush = (0, d.flushed) ∧ Grown d.flushed l T := by
  obtain ⟨h1, h2, h3, h4, h5⟩ := flushed_same d
  exact ⟨flush_free h.off h.arm, h.congr (h3.trans h.off) (h4.trans h.arm) h2 (flushed_read d)⟩
theorem Grown.crash0 {d : Dev} {l : Wl} {T : Txs} (h : Grown d l T) (hw : d.waits = []) (zs : List Int) : Grown (d.crash zs) l T := by
  obtain ⟨h1, h2, h3, h4, h5⟩ := crash_same d zs
  have hl : (d.crash zs).last = d.last := by unfold Dev.crash; rw [hw]; rfl
  exact h.congr h3 h4 h2 (fun i => read_same (h3.trans h.off.symm) h2 (h1.trans hw.symm) hl i)
theorem epsA_const {e e0 : Nat} (he : e0 ≤ e) : ∀ {T : Txs}, (∀ x ∈ T, x.1 = e) → EpsA e0 T
  | [], _ => trivial
  | x :: r, h => by
    have hx := h x (by simp)
    exact ⟨by omega, by rw [hx]; exact epsA_const (Nat.le_refl _) (fun y hy => h y (by simp [hy]))⟩
theorem Grown.opens {d : Dev} {l : Wl} {A B : Txs} (h : Grown d l (A ++ B)) (hlt : l.next < l.tail + l.size) (e' : Nat) (he : e' ≤ 1125899906842624) (ht : l.next ≤ 1125899906842624) :
    openB d l.first l.size (l.tail + lenT A : Nat) e' = true ∧ (d.read (l.first : Nat)).2 ≠ 4 ∧ scanR d l.size (wl0 l.first l.size (l.tail + lenT A) e') 0 = (imgT B, l.next) := by
  have hn := h.next
  rw [lenT_append] at hn
  have hfs := h.ok.fs
  have hf := h.fits
  have h2 := h.ok.two
  unfold Fits at hf
  have hl0 : (wl0 l.first l.size (l.tail + lenT A) e').Ok := by
    unfold wl0
    exact ⟨by simp only; omega, by simp only; omega, Nat.le_refl _, by simp only; omega, by simp only; omega, by simp only; omega⟩
  have hv : vw d (wl0 l.first l.size (l.tail + lenT A) e') = vw d l := rfl
  refine ⟨?_, ?_, ?_⟩
  · unfold openB fitsB cntB
    simp only [Bool.and_eq_true, decide_eq_true_eq]
    omega
  · unfold Dev.read
    rw [if_neg (by rw [has_true ⟨by omega, by omega⟩]; simp), if_neg (by rw [h.off]; simp)]
    split
    · simp
    · split <;> simp
  · have hs := StdA_append.1 h.std
    have hsc := scan_all (d := d) (T := B) (l := wl0 l.first l.size (l.tail + lenT A) e') (e := 0) hl0 (by rw [hv]; exact hs.2) (epsA_const (Nat.zero_le _) (fun x hx => h.eps x (List.mem_append.2 (.inr hx))))
      (by rw [room_lim hl0]; show lenT B ≤ l.tail + lenT A + l.size - (l.tail + lenT A); omega)
      (by
        intro hd h1
        rw [hv] at h1
        have h1 : vw d l (l.tail + lenT A + lenT B) = some hd := h1
        rw [h.void _ (by omega) (by omega)] at h1
        exact absurd h1 (by simp))
      (f := l.size) (by have := lenT_pos B; have := h.ok.room; omega)
    show scanR d l.size (wl0 l.first l.size (l.tail + lenT A) e') ((0 : Nat) : Int) = _
    rw [hsc]
    show (imgT B, l.tail + lenT A + lenT B) = _
    rw [hn, Nat.add_assoc]
end Go.Proofs.Ytbgefdigmdfalaa
