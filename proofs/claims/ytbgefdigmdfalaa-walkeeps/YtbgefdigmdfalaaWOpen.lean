/- The contract of wal's Open. No statement of the seat is proved here. -/
import Derived.Test.YtbgefdigmdfalaaWScan
namespace Go.Proofs.Ytbgefdigmdfalaa
set_option maxRecDepth 20000
open Go.RowKit

def fitsB (d : Dev) (first size : Int) : Bool := decide (0 ≤ first ∧ 2 ≤ size ∧ first ≤ (d.size : Int) - size)
set_option maxRecDepth 20000 in
set_option maxHeartbeats 1600000 in
theorem fits_any {B : Nat} {w : World} {db : Nat} {d : Dev} {N : Nat} (hd : DevAt B w db d N) (first size : Int) (h1 : inI first) (h2 : inI size) : Calls Try.prog 35 #[.pointer (some ⟨db, 0, none⟩), .int .i64 first, .int .i64 size] w fun e w' => e = .returned (.bool (fitsB d first size)) ∧ w = w' := by
  have hsz := size_any hd
  have hok := hd.ok.size
  unfold fitsB
  unfold inI at h1 h2
  by_cases c1 : 0 ≤ first
  · by_cases c2 : 2 ≤ size
    · go_enter Try.func35, Try.ntmps35
      go_wp2_with fail
      refine Calls.mono hsz ?_
      rintro e w1 ⟨rfl, rfl⟩
      clear hsz hd
      go_wp2
      go_ret
      refine ⟨?_, rfl⟩
      simp only [c1, c2, true_and]
      rfl
    · rw [decide_eq_false (by omega)]
      clear hsz hd
      go_enter Try.func35, Try.ntmps35
      go_wp2
      go_ret
      exact ⟨rfl, rfl⟩
  · rw [decide_eq_false (by omega)]
    clear hsz hd
    go_enter Try.func35, Try.ntmps35
    go_wp2
    go_ret
    exact ⟨rfl, rfl⟩
def cntB (z : Int) : Bool := decide (0 ≤ z ∧ z ≤ 1125899906842624)
def openB (d : Dev) (first size tail epoch : Int) : Bool := fitsB d first size && cntB tail && cntB epoch
set_option maxRecDepth 20000 in
set_option maxHeartbeats 1600000 in
theorem open_bad {B : Nat} {w : World} {db : Nat} {d : Dev} {N : Nat} (hd : DevAt B w db d N) {first size tail epoch : Int} (h1 : inI first) (h2 : inI size) (hno : openB d first size tail epoch = false) : Calls Try.prog 11 #[.pointer (some ⟨db, 0, none⟩), .int .i64 first, .int .i64 size, .int .i64 tail, .int .i64 epoch] w fun e w' => e = .returned (.tuple #[.pointer none, .slice none 0 0, .int .i64 1]) ∧ w = w' := by
  have hf := fits_any hd first size h1 h2
  have ht := fun w => counts_any tail w
  have he := fun w => counts_any epoch w
  change ∀ w, Calls Try.prog _ _ w fun e w' => e = .returned (.bool (cntB tail)) ∧ w = w' at ht
  change ∀ w, Calls Try.prog _ _ w fun e w' => e = .returned (.bool (cntB epoch)) ∧ w = w' at he
  unfold openB at hno
  clear hd
  generalize fitsB d first size = b1 at hf hno
  generalize cntB tail = b2 at ht hno
  generalize cntB epoch = b3 at he hno
  go_enter Try.func11, Try.ntmps11
  cases b1
  · clear hno
    go_wp2_with fail
    refine Calls.mono hf ?_
    rintro e w1 ⟨rfl, rfl⟩
    go_wp2
    go_returns
    exact ⟨rfl, rfl⟩
  · cases b2
    · clear hno
      go_wp2_with fail
      refine Calls.mono hf ?_
      rintro e w1 ⟨rfl, rfl⟩
      go_wp2_with fail
      refine Calls.mono (ht _) ?_
      rintro e w1 ⟨rfl, rfl⟩
      go_wp2
      go_returns
      exact ⟨rfl, rfl⟩
    · obtain rfl : b3 = false := by simpa using hno
      clear hno
      go_wp2_with fail
      refine Calls.mono hf ?_
      rintro e w1 ⟨rfl, rfl⟩
      go_wp2_with fail
      refine Calls.mono (ht _) ?_
      rintro e w1 ⟨rfl, rfl⟩
      go_wp2_with fail
      refine Calls.mono (he _) ?_
      rintro e w1 ⟨rfl, rfl⟩
      go_wp2
      go_returns
      exact ⟨rfl, rfl⟩
def OpenPost (B : Nat) (w : World) (db : Nat) (l : Wl) (d : Dev) (N : Nat) (r : List (List Im) × Nat) (e : Ending) (w' : World) : Prop :=
  ∃ lb v, e = .returned (.tuple #[.pointer (some ⟨lb, 0, none⟩), v, .int .i64 0]) ∧ w.heap.size ≤ lb ∧ OutT w.heap.size w' v r.1 ∧ WlAt w' lb db { l with next := r.2 } ∧ DevAt B w' db d N ∧ Below w.heap.size w w'
theorem openB_facts {d : Dev} {first size tail epoch : Int} (h : openB d first size tail epoch = true) : 0 ≤ first ∧ 2 ≤ size ∧ first ≤ (d.size : Int) - size ∧ 0 ≤ tail ∧ tail ≤ 1125899906842624 ∧ 0 ≤ epoch ∧ epoch ≤ 1125899906842624 := by
  unfold openB fitsB cntB at h
  simp only [Bool.and_eq_true, decide_eq_true_eq] at h
  omega
set_option maxRecDepth 20000 in
set_option maxHeartbeats 1600000 in
theorem open_down {B : Nat} {w : World} {db : Nat} {d : Dev} {N : Nat} (hd : DevAt B w db d N) (hlen : d.waits.length < 1000000) {first size tail epoch : Nat} (hyes : openB d first size tail epoch = true) (hoff : (d.read (first : Nat)).2 = 4) : Calls Try.prog 11 #[.pointer (some ⟨db, 0, none⟩), .int .i64 (first : Nat), .int .i64 (size : Nat), .int .i64 (tail : Nat), .int .i64 (epoch : Nat)] w fun e w' => e = .returned (.tuple #[.pointer none, .slice none 0 0, .int .i64 4]) ∧ Below w.heap.size w w' := by
  have hfa := openB_facts hyes
  have hds := hd.ok.size
  have hf := fits_any hd first size (by unfold inI; omega) (by unfold inI; omega)
  have ht := fun w => counts_any tail w
  have he := fun w => counts_any epoch w
  have hrd := read_any hd first hlen
  change ∀ w, Calls Try.prog _ _ w fun e w' => e = .returned (.bool (cntB tail)) ∧ w = w' at ht
  change ∀ w, Calls Try.prog _ _ w fun e w' => e = .returned (.bool (cntB epoch)) ∧ w = w' at he
  unfold openB at hyes
  simp only [Bool.and_eq_true] at hyes
  rw [hyes.1.1] at hf
  rw [hyes.1.2] at ht
  rw [hyes.2] at he
  rw [hoff] at hrd
  clear hd hyes hoff hfa
  go_enter Try.func11, Try.ntmps11
  go_wp2_with fail
  refine Calls.mono hf ?_
  rintro e w1 ⟨rfl, rfl⟩
  go_wp2_with fail
  refine Calls.mono (ht _) ?_
  rintro e w1 ⟨rfl, rfl⟩
  go_wp2_with fail
  refine Calls.mono (he _) ?_
  rintro e w1 ⟨rfl, rfl⟩
  go_wp2_with fail
  refine Calls.mono hrd ?_
  rintro e w1 ⟨v, rfl, ov, b1⟩
  obtain ⟨sa, sn, sc, hvd⟩ : ∃ sa sn sc, v = .slice sa sn sc := by obtain ⟨a, c, h⟩ := ownsRow_slice ov; exact ⟨a, _, c, h⟩
  subst hvd
  clear hf ht he hrd ov
  go_wp2
  go_returns
  exact ⟨rfl, b1⟩
def wl0 (first size tail epoch : Nat) : Wl := ⟨first, size, tail, tail, epoch⟩
theorem wl0_ok {d : Dev} (hd : d.Ok) {first size tail epoch : Nat} (h : openB d first size tail epoch = true) : (wl0 first size tail epoch).Ok := by
  have hfa := openB_facts h
  have hds := hd.size
  unfold wl0
  exact ⟨by simp only; omega, by simp only; omega, Nat.le_refl _, by simp only; omega, by simp only; omega, by simp only; omega⟩
set_option maxRecDepth 20000 in
set_option maxHeartbeats 1600000 in
theorem open_yes {B : Nat} {w : World} {db : Nat} {d : Dev} {N : Nat} (hd : DevAt B w db d N) (hlen : d.waits.length < 1000000) {first size tail epoch : Nat} (hyes : openB d first size tail epoch = true) (hoff : (d.read (first : Nat)).2 ≠ 4) :
    Calls Try.prog 11 #[.pointer (some ⟨db, 0, none⟩), .int .i64 (first : Nat), .int .i64 (size : Nat), .int .i64 (tail : Nat), .int .i64 (epoch : Nat)] w (OpenPost B w db (wl0 first size tail epoch) d N (scanR d size (wl0 first size tail epoch) 0)) := by
  have hfa := openB_facts hyes
  have hok := wl0_ok hd.ok hyes
  have hds := hd.ok.size
  have hf := fits_any hd first size (by unfold inI; omega) (by unfold inI; omega)
  have ht := fun w => counts_any tail w
  have he := fun w => counts_any epoch w
  have hrd := read_any hd first hlen
  change ∀ w, Calls Try.prog _ _ w fun e w' => e = .returned (.bool (cntB tail)) ∧ w = w' at ht
  change ∀ w, Calls Try.prog _ _ w fun e w' => e = .returned (.bool (cntB epoch)) ∧ w = w' at he
  unfold openB at hyes
  simp only [Bool.and_eq_true] at hyes
  rw [hyes.1.1] at hf
  rw [hyes.1.2] at ht
  rw [hyes.2] at he
  obtain ⟨re, hre⟩ : ∃ re, (d.read (first : Nat)).2 = re := ⟨_, rfl⟩
  rw [hre] at hrd hoff
  have hq : (re == 4) = false := by simpa using hoff
  clear hyes hoff hfa hre
  go_enter Try.func11, Try.ntmps11
  go_wp2_with fail
  refine Calls.mono hf ?_
  rintro e w1 ⟨rfl, rfl⟩
  go_wp2_with fail
  refine Calls.mono (ht _) ?_
  rintro e w1 ⟨rfl, rfl⟩
  go_wp2_with fail
  refine Calls.mono (he _) ?_
  rintro e w1 ⟨rfl, rfl⟩
  go_wp2_with fail
  refine Calls.mono hrd ?_
  rintro e w1 ⟨v, rfl, ov, b1⟩
  obtain ⟨sa, sn, sc, hvd⟩ : ∃ sa sn sc, v = .slice sa sn sc := by obtain ⟨a, c, h⟩ := ownsRow_slice ov; exact ⟨a, _, c, h⟩
  subst hvd
  have d1 := hd.below b1
  have bn := below_new w1 (.cells #[.pointer (some ⟨db, 0, none⟩), .int .i64 (first : Nat), .int .i64 (size : Nat), .int .i64 (tail : Nat), .int .i64 (tail : Nat), .int .i64 (epoch : Nat)] 80)
  have hwl : WlAt (w1.alloc (.cells #[.pointer (some ⟨db, 0, none⟩), .int .i64 (first : Nat), .int .i64 (size : Nat), .int .i64 (tail : Nat), .int .i64 (tail : Nat), .int .i64 (epoch : Nat)] 80)) w1.heap.size db (wl0 first size tail epoch) := heap_alloc_new w1 _
  have hsc := scan_any (d1.below bn) hwl hok hlen
  have hb1 := b1.size
  have bw : Below w.heap.size w (w1.alloc (.cells #[.pointer (some ⟨db, 0, none⟩), .int .i64 (first : Nat), .int .i64 (size : Nat), .int .i64 (tail : Nat), .int .i64 (tail : Nat), .int .i64 (epoch : Nat)] 80)) := b1.trans (bn.mono hb1)
  have hsz2 : w1.heap.size ≤ (w1.alloc (.cells #[.pointer (some ⟨db, 0, none⟩), .int .i64 (first : Nat), .int .i64 (size : Nat), .int .i64 (tail : Nat), .int .i64 (tail : Nat), .int .i64 (epoch : Nat)] 80)).heap.size := by simp
  obtain ⟨r, hr⟩ : ∃ r, scanR d size (wl0 first size tail epoch) 0 = r := ⟨_, rfl⟩
  have HR := Lib.hid hr
  have hsc : Calls Try.prog 38 #[.pointer (some ⟨w1.heap.size, 0, none⟩)] (w1.alloc (.cells #[.pointer (some ⟨db, 0, none⟩), .int .i64 (first : Nat), .int .i64 (size : Nat), .int .i64 (tail : Nat), .int .i64 (tail : Nat), .int .i64 (epoch : Nat)] 80)) (ScanPost B (w1.alloc (.cells #[.pointer (some ⟨db, 0, none⟩), .int .i64 (first : Nat), .int .i64 (size : Nat), .int .i64 (tail : Nat), .int .i64 (tail : Nat), .int .i64 (epoch : Nat)] 80)) w1.heap.size db (wl0 first size tail epoch) d N r) := by rw [← hr]; exact hsc
  clear hf ht he hrd ov hr bn hwl d1 hd b1
  go_wp2_with fail
  refine Calls.mono hsc ?_
  rintro e w2 ⟨v, rfl, t2, l2, d2, b2⟩
  have FIN : Hid (OpenPost B w db (wl0 first size tail epoch) d N r (.returned (.tuple #[.pointer (some ⟨w1.heap.size, 0, none⟩), v, .int .i64 0])) w2) := Lib.hid ⟨_, _, rfl, hb1, t2.base (by omega), l2, d2, bw.trans (b2.mono hb1)⟩
  clear t2 l2 d2 b2 hsc bw
  go_wp2
  go_returns
  have := FIN.out
  rw [← HR.out] at this
  exact this
end Go.Proofs.Ytbgefdigmdfalaa
