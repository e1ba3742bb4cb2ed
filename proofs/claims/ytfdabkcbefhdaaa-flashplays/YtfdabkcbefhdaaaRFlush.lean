/- The contract of the document's Flush. No statement of the seat is proved here. -/
import Derived.Test.YtfdabkcbefhdaaaRKeep
import Derived.Test.YtfdabkcbefhdaaaFFlush
namespace Go.Proofs.Ytfdabkcbefhdaaa
set_option maxRecDepth 20000
open Go.RowKit

theorem RDevAt.unwait {B : Nat} {w : World} {rb : Nat} {d : Dev} (h : RDevAt B w rb d) : RDevAt B (w.setCell ⟨rb, 2, none⟩ (.slice none 0 0)) rb { d with waits := [] } ∧ Fr RK B w (w.setCell ⟨rb, 2, none⟩ (.slice none 0 0)) := by
  obtain ⟨ok, ge, lv, tv, wv, L, T, h1, h2, h3, h4, h5⟩ := h
  have hs := heap_setCell_same w rb 2 _ _ (.slice none 0 0) h1
  have hk : ∀ (k : Nat) cs t, t ≠ 47 → w.heap[k]? = some (.cells cs t (0, 0)) → (w.setCell ⟨rb, 2, none⟩ (.slice none 0 0)).heap[k]? = some (.cells cs t (0, 0)) := fun k cs t ht hk => by
    rw [Below.heap_setCell _ _ _ _ (by rintro rfl; rw [h1] at hk; injection hk with e; injection e with _ e _; exact ht e.symm)]; exact hk
  exact ⟨⟨⟨ok.1, ok.2, fun p hp => (List.not_mem_nil hp).elim, fun p hp => (List.not_mem_nil hp).elim, ok.5⟩, ge, lv, tv, .slice none 0 0, L, T, hs, ⟨h2.len, h2.lenT, h2.torn, h2.last⟩, ownsRow_of_row h3 (fun k cs => hk k cs _ (by decide)), ownsRow_of_row h4 (fun k cs => hk k cs _ (by decide)), OwnR.nil _ _ _⟩, (Fr.refl _ _ _).setCell h1 ge rfl _⟩
set_option maxHeartbeats 6400000 in
theorem rflush_any {B : Nat} {w : World} {rb : Nat} {d : Dev} (h : RDevAt B w rb d) (hlen : d.waits.length < 1000000) :
    Calls Try.prog 32 #[.pointer (some ⟨rb, 0, none⟩)] w fun e w' => e = .returned (.int .i64 d.flush.1) ∧ RDevAt B w' rb d.flush.2 ∧ Fr RK B w w' := by
  have hsp := rspend_any h
  by_cases hs : d.spend.1 = true
  · have HW : Hid (d.flush = (0, d.spend.2.flushed)) := by unfold Dev.flush; rw [if_neg (by simp [hs])]; exact rfl
    rw [hs] at hsp
    have HS := Lib.hid hsp
    have hsw := (spend_waits d).1
    rw [← hsw] at hlen
    clear hsp hs hsw h
    generalize d.spend.2 = d1 at *
    obtain ⟨M, hM⟩ : ∃ M, d1.waits.length = M := ⟨_, rfl⟩
    obtain ⟨S, hS⟩ : ∃ S, d1.size = S := ⟨_, rfl⟩
    have HM := Lib.hid hM
    have HZ := Lib.hid hS
    rw [hM] at hlen
    clear hM hS
    go_enter Try.func32, Try.ntmps32
    go_wp2_with fail
    refine HS.out.mono ?_
    rintro e w1 ⟨rfl, h1, f1⟩
    go_wp2
    go_loopw [3] (fun iv wr => ∃ k : Nat, k ≤ M ∧ iv = .int .i64 k ∧ RDevAt B wr rb (d1.apply flushF k) ∧ Fr RK B w wr) (fun iv _ => M - (intOf iv).toNat)
    case atStart => exact ⟨0, Nat.zero_le _, rfl, h1, f1⟩
    case round =>
      obtain ⟨k, hk, rfl, hr, hf⟩ := hrel
      have sm := apply_same d1 flushF k
      obtain ⟨la, lc, ta, tc, wa, wc, L, T, c0, c1, c2, -, -, -, oW⟩ := hr.all
      rw [sm.1, HM.out] at c2
      by_cases hlt : k < M
      · obtain ⟨p, hp⟩ : ∃ p, d1.waits[k]? = some p := ⟨_, List.getElem?_eq_getElem (by have := HM.out; omega)⟩
        obtain ⟨wg, rfl, ca, cb⟩ := wait_at oW (k := k) (p := p) (by rw [sm.1]; exact hp)
        have hpm := List.mem_of_getElem? hp
        have hat := h1.ok.at_ p hpm
        have hpl := h1.ok.len p hpm
        obtain ⟨i, hi⟩ : ∃ i : Nat, p.1 = (i : Int) := ⟨p.1.toNat, by omega⟩
        have hiS : i < S := by have := HZ.out; omega
        obtain ⟨lg, lc2, tg, tc2, u1, u2, k0, k1, e1, e2, e3, e4, hne, hr', hf'⟩ := hr.kept (i := i) (by rw [sm.2.1, HZ.out]; exact hiS) hpl
        rw [sm.2.1, HZ.out] at k0 k1
        have nx := apply_flush hp
        rw [hi] at nx ca
        rw [← nx] at hr'
        have FIN := Lib.hid (And.intro hr' (hf.trans hf'))
        obtain ⟨bs, hbs⟩ : ∃ bs : ByteArray, ⟨p.2.toArray⟩ = bs := ⟨_, rfl⟩
        rw [hbs] at cb FIN
        clear c0 c1 oW hp hpm hat hpl hi sm hr hf hr' hf' nx hbs
        go_wp2_with fail
        go_region
        all_goals
          go_wp2
          go_roundw
          case rel => exact ⟨k + 1, by omega, by go_num, ⟨FIN.out.1.ok, FIN.out.1.ge, FIN.out.1.box⟩, FIN.out.2.drew⟩
          case measure => simp [intOf]; omega
      · have hkM : k = M := by omega
        subst hkM
        have un := hr.unwait
        obtain ⟨-, -, fz⟩ := hr.cells
        have f2 := fz 2
        have ef : d1.flushed = { d1.apply flushF k with waits := [] } := by unfold Dev.flushed; rw [HM.out]
        rw [← ef] at un
        have FIN := Lib.hid (And.intro un.1 (hf.trans un.2))
        clear fz un ef hr hf oW sm c0 c1
        go_wp2
        go_ret
        exact ⟨by rw [HW.out]; rfl, by rw [HW.out]; exact FIN.out.1, FIN.out.2⟩
  · have hs' : d.spend.1 = false := by simpa using hs
    have HW : Hid (d.flush = (4, d.spend.2)) := by unfold Dev.flush; rw [if_pos hs']; exact rfl
    rw [hs'] at hsp
    clear hs hs' hlen h
    go_enter Try.func32, Try.ntmps32
    go_wp2_with fail
    refine hsp.mono ?_
    rintro e w1 ⟨rfl, r1, f1⟩
    have FIN := Lib.hid (And.intro r1 f1)
    clear hsp r1 f1
    go_wp2
    go_ret
    exact ⟨by rw [HW.out]; rfl, by rw [HW.out]; exact FIN.out.1, FIN.out.2⟩
end Go.Proofs.Ytfdabkcbefhdaaa
