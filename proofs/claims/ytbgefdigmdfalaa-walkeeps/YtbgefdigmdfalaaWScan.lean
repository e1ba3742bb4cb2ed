/- The contract of wal's scan. No statement of the seat is proved here. -/
import Derived.Test.YtbgefdigmdfalaaWLst
namespace Go.Proofs.Ytbgefdigmdfalaa
set_option maxRecDepth 20000
open Go.RowKit

/-- the kind of a log -/
def KG : Obj → Bool
  | .cells _ t _ => t == 80
  | _ => false
theorem KG_FK (o : Obj) (h : FK o = true) : KG o = false := by
  unfold FK at h; unfold KG
  split at h
  · simp_all
  · simp at h
    rcases h with rfl | rfl <;> rfl
  all_goals simp_all
theorem KG_img (cs : Array Value) (fz : Nat × Nat) : KG (.cells cs 50 fz) = false := rfl
theorem KG_lst (cs : Array Value) (fz : Nat × Nat) : KG (.cells cs 44 fz) = false := rfl
theorem KL_wal (cs : Array Value) : KL (.cells cs 80 (0, 0)) = false := rfl
/-- .. and lists of lists -/
def KGL : Obj → Bool := fun o => KG o || KL o
theorem KGL_FK (o : Obj) (h : FK o = true) : KGL o = false := by unfold KGL; rw [KG_FK o h, KL_FK o h]; rfl
theorem KGL_img (cs : Array Value) (fz : Nat × Nat) : KGL (.cells cs 50 fz) = false := rfl
def ScanPost (B : Nat) (w : World) (lb db : Nat) (l : Wl) (d : Dev) (N : Nat) (r : List (List Im) × Nat) (e : Ending) (w' : World) : Prop :=
  ∃ v, e = .returned v ∧ OutT w.heap.size w' v r.1 ∧ WlAt w' lb db { l with next := r.2 } ∧ DevAt B w' db d N ∧ Below lb w w'
theorem scanR_zero {d : Dev} {l : Wl} {e : Int} (f : Nat) (h : l.room = 0) : scanR d f l e = ([], l.next) := by
  cases f with
  | zero => rfl
  | succ f => rw [scanR, if_pos h]
theorem scanR_stop {d : Dev} {l : Wl} {e : Int} (f : Nat) (h : (wlRec d l l.next).2 = false ∨ (wlRec d l l.next).1.epoch < e) : scanR d f l e = ([], l.next) := by
  cases f with
  | zero => rfl
  | succ f =>
    rw [scanR]
    split
    · rfl
    · first | rw [if_pos h] | rfl
theorem scanR_none {d : Dev} {l : Wl} {e : Int} (f : Nat) (h : txR d l (wlRec d l l.next).1 (wlRec d l l.next).1.count.toNat = none) : scanR d f l e = ([], l.next) := by
  cases f with
  | zero => rfl
  | succ f =>
    rw [scanR]
    split
    · rfl
    · split
      · rfl
      · rw [h]
theorem scanR_more {d : Dev} {l : Wl} {e : Int} {f : Nat} {a : List Im} (h0 : l.room ≠ 0) (h1 : (wlRec d l l.next).2 = true) (h2 : ¬ (wlRec d l l.next).1.epoch < e) (h : txR d l (wlRec d l l.next).1 (wlRec d l l.next).1.count.toNat = some a) :
    scanR d (f + 1) l e = (a :: (scanR d f { l with next := l.next + (a.length + 1) } (wlRec d l l.next).1.epoch).1, (scanR d f { l with next := l.next + (a.length + 1) } (wlRec d l l.next).1.epoch).2) := by
  rw [scanR, if_neg h0, if_neg (by rw [h1]; simp; omega), h]
def ScanInv (d : Dev) (l : Wl) (acc : List (List Im)) (l' : Wl) (e : Int) (f : Nat) : Prop :=
  scanR d l.size l 0 = (acc ++ (scanR d f l' e).1, (scanR d f l' e).2) ∧ l'.room ≤ f ∧ l' = { l with next := l'.next } ∧ l'.Ok ∧ acc.length ≤ 4096 ∧ inI e
theorem ScanInv.stop {d : Dev} {l : Wl} {acc : List (List Im)} {l' : Wl} {e : Int} {f : Nat} (h : ScanInv d l acc l' e f) (hs : scanR d f l' e = ([], l'.next)) : scanR d l.size l 0 = (acc, l'.next) := by
  rw [h.1, hs, List.append_nil]
theorem room_le (l : Wl) : l.room ≤ l.size := by unfold Wl.room; omega
theorem ScanInv.start (d : Dev) {l : Wl} (ok : l.Ok) : ScanInv d l [] l 0 l.size := ⟨by simp, room_le l, rfl, ok, by simp, by unfold inI; omega⟩
theorem ScanInv.more {d : Dev} {l : Wl} {acc : List (List Im)} {l' : Wl} {e : Int} {f : Nat} {a : List Im} (h : ScanInv d l acc l' e f) (hlen : acc.length + l'.room ≤ 4096) (h0 : l'.room ≠ 0) (h1 : (wlRec d l' l'.next).2 = true) (h2 : ¬ (wlRec d l' l'.next).1.epoch < e) (h3 : txR d l' (wlRec d l' l'.next).1 (wlRec d l' l'.next).1.count.toNat = some a) :
    ∃ f', ScanInv d l (acc ++ [a]) { l' with next := l'.next + (a.length + 1) } (wlRec d l' l'.next).1.epoch f' ∧ (acc ++ [a]).length + Wl.room { l' with next := l'.next + (a.length + 1) } ≤ 4096 := by
  obtain ⟨g1, g2, g3, g4, g5, g6⟩ := h
  obtain ⟨q1, q2⟩ := txR_length h3
  have hok := g4.step (k := a.length + 1) (by omega)
  obtain ⟨f', rfl⟩ : ∃ f', f = f' + 1 := ⟨f - 1, by omega⟩
  have hro : Wl.room { l' with next := l'.next + (a.length + 1) } + (a.length + 1) = l'.room := by
    have := g4.tn; have := g4.room; unfold Wl.room at *; simp only; omega
  refine ⟨f', ⟨?_, by omega, by rw [g3], hok, by rw [List.length_append]; simp; omega, (wlRec_ok h1).2.2.1⟩, by rw [List.length_append]; simp; omega⟩
  rw [g1, scanR_more h0 h1 h2 h3]
  simp
set_option maxRecDepth 20000 in
set_option maxHeartbeats 3200000 in
theorem scan_any {B : Nat} {w : World} {lb db : Nat} {l : Wl} {d : Dev} {N : Nat} (hd : DevAt B w db d N) (h : WlAt w lb db l) (ok : l.Ok) (hlen : d.waits.length < 1000000) :
    Calls Try.prog 38 #[.pointer (some ⟨lb, 0, none⟩)] w (ScanPost B w lb db l d N (scanR d l.size l 0)) := by
  have hlbw := lt_of_heap h
  have hr0 : l.room ≤ 4096 := by have := room_le l; have := ok.fs; omega
  go_enter Try.func38, Try.ntmps38
  go_wp2
  go_loopw [3, 4] (fun av ev wr => ∃ acc l' e f, Hid (ScanInv d l acc l' e f) ∧ acc.length + l'.room ≤ 4096 ∧ ev = .int .i64 e ∧ OutT w.heap.size wr av acc ∧ WlAt wr lb db l' ∧ DevAt B wr db d N ∧ Below lb w wr ∧ w.heap.size ≤ wr.heap.size) (fun _ _ wr => l.tail + l.size - (intOf ((wr.cell? ⟨lb, 4, none⟩).getD (.int .i64 0))).toNat)
  case atStart => exact ⟨[], l, 0, l.size, Lib.hid (ScanInv.start d ok), by simpa using hr0, rfl, OutT.nil _ _, h, hd, Below.refl _ _, Nat.le_refl _⟩
  case round =>
    obtain ⟨acc, l', e, f, hi, hal, rfl, ta, h', d', bw, sw⟩ := hrel
    clear h hd
    obtain ⟨lo, lm, lc, hlv, hlm⟩ := ta.form'
    subst hlv
    have ok' := hi.out.2.2.2.1
    have hro := room_any h' ok'
    have c4 : wr.cell? ⟨lb, 4, none⟩ = some (.int .i64 (l'.next : Nat)) := cell_row h' 4 rfl
    go_wp2_with fail
    refine Calls.mono hro ?_
    rintro x w1 ⟨rfl, b1⟩
    have bw1 := bw.trans (b1.mono (by omega))
    have t1 := ta.below b1
    have h1 := h'.below b1
    have d1 := d'.below b1
    have s1 : w.heap.size ≤ w1.heap.size := Nat.le_trans sw b1.size
    clear hro b1 ta h' d' bw
    by_cases hr : l'.room = 0
    · have HS := Lib.hid (hi.out.stop (scanR_zero f hr))
      have hl' := hi.out.2.2.1
      have FIN : Hid (ScanPost B w lb db l d N (scanR d l.size l 0) (.returned (.slice lo lm lc)) w1) := Lib.hid ⟨_, rfl, by rw [HS.out]; exact t1, by rw [HS.out]; rw [← hl']; exact h1, d1, bw1⟩
      rw [hr]
      clear t1 h1 d1 bw1 hl'
      go_wp2
      go_ret
      exact FIN.out
    · have hpos : (0 : Int) < (l'.room : Int) := by omega
      obtain ⟨m, hm⟩ : ∃ m : Nat, l'.room = m := ⟨_, rfl⟩
      rw [hm] at hpos ⊢
      have HM := Lib.hid hm
      have HR := Lib.hid hr
      clear hm hr
      have hrd := wlRead_any d1 h1 ok' hlen l'.next
      have c4' : w1.cell? ⟨lb, 4, none⟩ = some (.int .i64 (l'.next : Nat)) := cell_row h1 4 rfl
      obtain ⟨rr, hrr⟩ : ∃ rr, (wlRec d l' l'.next).1 = rr := ⟨_, rfl⟩
      obtain ⟨bb, hbb⟩ : ∃ bb, (wlRec d l' l'.next).2 = bb := ⟨_, rfl⟩
      rw [hrr, hbb] at hrd
      have HRR := Lib.hid hrr
      have HBB := Lib.hid hbb
      clear hrr hbb
      go_wp2_with fail
      refine Calls.mono hrd ?_
      rintro x w4 ⟨rfl, b4⟩
      have Zn := below_new w4 (.cells #[.int .i64 0, .int .i64 0, .int .i64 0, .int .i64 0, .int .i64 0, .int .i64 0, .int .i64 0, .string ⟨#[]⟩] 87)
      have gW := heap_alloc_new w4 (.cells #[.int .i64 0, .int .i64 0, .int .i64 0, .int .i64 0, .int .i64 0, .int .i64 0, .int .i64 0, .string ⟨#[]⟩] 87)
      have K1 : StoreOk 87 #[.int .i64 0, .int .i64 0, .int .i64 0, .int .i64 0, .int .i64 0, .int .i64 0, .int .i64 0, .string ⟨#[]⟩] #[.int .i64 rr.kind, .int .i64 rr.epoch, .int .i64 rr.seq, .int .i64 rr.tx, .int .i64 rr.index, .int .i64 rr.count, .int .i64 rr.page, .string rr.data] := ⟨by kernel_rfl, rfl, by simp [Value.oneCell']⟩
      clear hrd
      go_wp2_with (with_reducible refine wpList_store_row4 rfl 87 (.tmp 5) (.tmp 18) rfl w4.heap.size #[.int .i64 rr.kind, .int .i64 rr.epoch, .int .i64 rr.seq, .int .i64 rr.tx, .int .i64 rr.index, .int .i64 rr.count, .int .i64 rr.page, .string rr.data] rfl rfl 87 #[.int .i64 0, .int .i64 0, .int .i64 0, .int .i64 0, .int .i64 0, .int .i64 0, .int .i64 0, .string ⟨#[]⟩] gW K1 Zn (Nat.le_refl _) ?_)
      intro w7 gR BR
      have b7r : Below w1.heap.size w1 w7 := b4.trans (BR.mono b4.size)
      have b7 : Below lb w w7 := bw1.trans (b7r.mono (by omega))
      have t7 := t1.below b7r
      have h7 := h1.below b7r
      have d7 := d1.below b7r
      have s7 : w.heap.size ≤ w7.heap.size := Nat.le_trans s1 b7r.size
      have hep : w7.cell? ⟨w4.heap.size, 1, none⟩ = some (.int .i64 rr.epoch) := cell_row gR 1 rfl
      have q0 : w7.cell? ⟨w4.heap.size, 0, none⟩ = some (.int .i64 rr.kind) := cell_row gR 0 rfl
      have q2 : w7.cell? ⟨w4.heap.size, 2, none⟩ = some (.int .i64 rr.seq) := cell_row gR 2 rfl
      have q3 : w7.cell? ⟨w4.heap.size, 3, none⟩ = some (.int .i64 rr.tx) := cell_row gR 3 rfl
      have q4 : w7.cell? ⟨w4.heap.size, 4, none⟩ = some (.int .i64 rr.index) := cell_row gR 4 rfl
      have q5 : w7.cell? ⟨w4.heap.size, 5, none⟩ = some (.int .i64 rr.count) := cell_row gR 5 rfl
      have q6 : w7.cell? ⟨w4.heap.size, 6, none⟩ = some (.int .i64 rr.page) := cell_row gR 6 rfl
      have q7 : w7.cell? ⟨w4.heap.size, 7, none⟩ = some (.string rr.data) := cell_row gR 7 rfl
      clear Zn gW K1 b4 BR t1 h1 d1 bw1 b7r c4'
      cases bb
      · have HS := Lib.hid (hi.out.stop (scanR_stop f (.inl HBB.out)))
        have hl' := hi.out.2.2.1
        have FIN : Hid (ScanPost B w lb db l d N (scanR d l.size l 0) (.returned (.slice lo lm lc)) w7) := Lib.hid ⟨_, rfl, by rw [HS.out]; exact t7, by rw [HS.out]; rw [← hl']; exact h7, d7, b7⟩
        clear t7 h7 d7 b7 hl'
        go_wp2
        go_ret
        exact FIN.out
      · by_cases hle : rr.epoch < e
        · have HS := Lib.hid (hi.out.stop (scanR_stop f (.inr (by rw [HRR.out]; exact hle))))
          have hl' := hi.out.2.2.1
          have FIN : Hid (ScanPost B w lb db l d N (scanR d l.size l 0) (.returned (.slice lo lm lc)) w7) := Lib.hid ⟨_, rfl, by rw [HS.out]; exact t7, by rw [HS.out]; rw [← hl']; exact h7, d7, b7⟩
          clear t7 h7 d7 b7 hl'
          go_wp2
          go_ret
          exact FIN.out
        · have hwk := wlRec_ok HBB.out
          rw [HRR.out] at hwk
          have hcz : rr.count = ((rr.count.toNat : Nat) : Int) := by
            have := hwk.1
            unfold logOk at this
            simp only [decide_eq_true_eq] at this
            omega
          have htx := transaction_any d7 h7 ok' hlen rr rr.count.toNat hcz
          obtain ⟨o, ho⟩ : ∃ o, txR d l' rr rr.count.toNat = o := ⟨_, rfl⟩
          rw [ho] at htx
          have HO := Lib.hid ho
          have HE := Lib.hid hle
          clear ho hcz hwk
          go_wp2_with fail
          refine Calls.mono htx ?_
          rintro x w8 ⟨v8, rfl, o8, b8⟩
          obtain ⟨ao, am, ac, hv8, hm8⟩ := o8.form'
          subst hv8
          have t8 := t7.below b8
          have h8 := h7.below b8
          have d8 := d7.below b8
          have b8w := b7.trans (b8.mono (by omega))
          have s8 : w.heap.size ≤ w8.heap.size := Nat.le_trans s7 b8.size
          have gR8 := (b8.block _ (lt_of_heap gR)).trans gR
          have hep8 : w8.cell? ⟨w4.heap.size, 1, none⟩ = some (.int .i64 rr.epoch) := cell_row gR8 1 rfl
          clear htx t7 h7 d7 b7 b8 gR hep q0 q2 q3 q4 q5 q6 q7
          cases o
          · have HS := Lib.hid (hi.out.stop (scanR_none f (by rw [HRR.out]; exact HO.out)))
            have hl' := hi.out.2.2.1
            have FIN : Hid (ScanPost B w lb db l d N (scanR d l.size l 0) (.returned (.slice lo lm lc)) w8) := Lib.hid ⟨_, rfl, by rw [HS.out]; exact t8, by rw [HS.out]; rw [← hl']; exact h8, d8, b8w⟩
            clear t8 h8 d8 b8w hl'
            go_wp2
            go_ret
            exact FIN.out
          · rename_i a
            have hio := txA_ok (by have := HO.out; unfold txR at this; split at this; exact absurd this (by simp); exact this)
            have hil := (txR_length HO.out)
            have hrl := room_le l'
            have hfs := ok'.fs
            have r8 : ImgsR w8 (.slice ao am ac) a := OwnM.reads (l := a) o8 hio.2 (by omega)
            obtain ⟨f', hinv, hal'⟩ := hi.out.more hal HR.out HBB.out (by rw [HRR.out]; have := HE.out; omega) (by rw [HRR.out]; exact HO.out)
            rw [HRR.out] at hinv
            have HINV := Lib.hid hinv
            have HAL := Lib.hid hal'
            have hbs := build_lst_one w8 ao am ac
            have bn := below_new w8 (.cells #[.slice ao am ac] 44)
            have hz9 : (w8.alloc (.cells #[.slice ao am ac] 44)).heap.size = w8.heap.size + 1 := by simp
            obtain ⟨v10, w10, hr10, t10, f10⟩ := outt_push (t8.below bn) (by rw [hz9]; omega) (heap_alloc_new w8 (.cells #[.slice ao am ac] 44)) (r8.below bn) (by have := hi.out.2.2.2.2.1; omega) 34
            have h10 : WlAt w10 lb db l' := f10.keep _ _ (h8.below bn) (.inr (KL_wal _))
            have d10 := (d8.below bn).fr f10 KL_FK
            have hg10 : w10.heap[w4.heap.size]? = _ := f10.keep _ _ ((bn.block _ (lt_of_heap gR8)).trans gR8) (.inr rfl)
            have hep10 : w10.cell? ⟨w4.heap.size, 1, none⟩ = some (.int .i64 rr.epoch) := cell_row hg10 1 rfl
            have b10 : Below lb w w10 := (b8w.trans (bn.mono (by omega))).trans ((f10.below (by rw [hz9]; omega)).mono (by omega))
            have s10 : w.heap.size ≤ w10.heap.size := by have := f10.size; omega
            have hma : am = a.length := hm8.out
            have c10 : w10.cell? ⟨lb, 4, none⟩ = some (.int .i64 (l'.next : Nat)) := cell_row h10 4 rfl
            have z10 := free_row h10 4
            have hnx : l'.next ≤ 1125899906860000 := by have := ok'.tail; have := ok'.room; omega
            have hst : WlAt (w10.setCell ⟨lb, 4, none⟩ (.int .i64 ((l'.next + (a.length + 1) : Nat) : Int))) lb db { l' with next := l'.next + (a.length + 1) } := Go.heap_setCell_same w10 lb 4 _ _ (.int .i64 ((l'.next + (a.length + 1) : Nat) : Int)) h10
            have fst' : Fr KG 0 w10 (w10.setCell ⟨lb, 4, none⟩ (.int .i64 ((l'.next + (a.length + 1) : Nat) : Int))) := (Fr.refl _ _ _).setCell (p := ⟨lb, 4, none⟩) h10 (Nat.zero_le _) rfl _
            have dst' := d10.fr fst' KG_FK
            have tst := t10.fr fst' KG_img KG_lst
            have bst : Below lb w (w10.setCell ⟨lb, 4, none⟩ (.int .i64 ((l'.next + (a.length + 1) : Nat) : Int))) := b10.setCell (p := ⟨lb, 4, none⟩) (Nat.le_refl _) _
            have sst : w.heap.size ≤ (w10.setCell ⟨lb, 4, none⟩ (.int .i64 ((l'.next + (a.length + 1) : Nat) : Int))).heap.size := Nat.le_trans s10 fst'.size
            obtain ⟨lo2, lm2, lc2, hv2, hm2⟩ := t10.form'
            subst hv2
            have hsum1 : ((l'.next + (a.length + 1) : Nat) : Int) = (l'.next : Int) + ((am : Int) + 1) := by omega
            have ha9 : am ≤ 4096 := by omega
            rw [hsum1] at hst dst' tst bst sst
            have FIN := Lib.hid (And.intro hst (And.intro dst' (And.intro tst (And.intro bst sst))))
            have HR10 := Lib.hid hr10
            have hcell4 : (w10.setCell ⟨lb, 4, none⟩ (.int .i64 ((l'.next : Int) + ((am : Int) + 1)))).cell? ⟨lb, 4, none⟩ = some (.int .i64 ((l'.next : Int) + ((am : Int) + 1))) := cell_row hst 4 (by rw [← hsum1]; rfl)
            have HC4 := Lib.hid hcell4
            have htn := ok'.tn
            have hrm := ok'.room
            have hlt : l'.tail = l.tail ∧ l'.size = l.size := by have := hi.out.2.2.1; rw [this]; exact ⟨rfl, rfl⟩
            have hnr : l'.next + (a.length + 1) ≤ l.tail + l.size := by
              have := hi.out.2.2.2.1
              have h2 := hil.2
              unfold Wl.room at h2
              omega
            have HMA := Lib.hid hma
            have HNR := Lib.hid hnr
            have HLT := Lib.hid hlt
            clear hma hil hnr hlt hsum1 hz9 hrl
            clear hst fst' dst' tst bst sst h10 d10 hg10 b10 s10 t10 f10 hr10 bn r8 hio h8 d8 b8w s8 t8 o8 gR8 hep8 hinv hal' hcell4 hm8
            go_wp2_with (with_reducible refine wpList_append_eq rfl (.tmp 36) (.tmp 38) 34 34 rfl (.slice lo lm lc) (.slice (some ⟨w8.heap.size, 0, none⟩) 1 1) (.slice lo2 lm2 lc2) rfl rfl HR10.out ?_)
            go_roundw
            case rel => exact ⟨_, _, _, f', HINV, HAL.out, rfl, FIN.out.2.2.1, FIN.out.1, FIN.out.2.1, FIN.out.2.2.2.1, FIN.out.2.2.2.2⟩
            case measure =>
              have h1 := HNR.out
              have h2 := HMA.out
              rw [HC4.out, c4]
              simp [intOf]
              omega
end Go.Proofs.Ytbgefdigmdfalaa
