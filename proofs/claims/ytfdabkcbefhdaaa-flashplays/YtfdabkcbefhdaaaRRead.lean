/- The contract of the document's Read. No statement of the seat is proved here. -/
import Derived.Test.YtfdabkcbefhdaaaRDev
import Derived.Test.YtfdabkcbefhdaaaFRead
namespace Go.Proofs.Ytfdabkcbefhdaaa
set_option maxRecDepth 20000
open Go.RowKit

/-- all five cells, with their forms and what stands in the rows -/
theorem RDevAt.all {B : Nat} {w : World} {rb : Nat} {d : Dev} (h : RDevAt B w rb d) : ∃ la lc ta tc wa wc L T, w.cell? ⟨rb, 0, none⟩ = some (.slice la d.size lc) ∧ w.cell? ⟨rb, 1, none⟩ = some (.slice ta d.size tc) ∧ w.cell? ⟨rb, 2, none⟩ = some (.slice wa d.waits.length wc) ∧ Tells d L T ∧
    OwnR elS B w (.slice la d.size lc) L ∧ w.ownsRow B 4 1 (.slice ta d.size tc) T.length (T.map Value.bool) ∧ OwnR elW B w (.slice wa d.waits.length wc) (waitsR d) := by
  obtain ⟨-, -, lv, tv, wv, L, T, h1, h2, h3, h4, h5⟩ := h
  obtain ⟨la, lc, rfl, -, -⟩ := h3.form
  obtain ⟨ta, tc, rfl, -, -⟩ := ownsRow_form h4
  obtain ⟨wa, wc, rfl, -, -⟩ := h5.form
  have e1 := h2.len
  have e2 := h2.lenT
  have e3 : (waitsR d).length = d.waits.length := List.length_map _
  rw [e1] at h1 h3
  rw [e2] at h1 h4
  rw [e3] at h1 h5
  refine ⟨la, lc, ta, tc, wa, wc, L, T, by rw [cell_of_row _ _ _ _ _ _ h1]; rfl, by rw [cell_of_row _ _ _ _ _ _ h1]; rfl, by rw [cell_of_row _ _ _ _ _ _ h1]; rfl, h2, h3, by rw [e2]; exact h4, h5⟩
theorem wait_at {B : Nat} {w : World} {wa : Option Addr} {n wc : Nat} {d : Dev} (h : OwnR elW B w (.slice wa n wc) (waitsR d)) {k : Nat} {p : Int × List UInt8} (hk : d.waits[k]? = some p) : ∃ g, wa = some ⟨g, 0, none⟩ ∧ w.cell? ⟨g, k * 2, none⟩ = some (.int .i64 p.1) ∧ w.cell? ⟨g, k * 2 + 1, none⟩ = some (.string ⟨p.2.toArray⟩) := by
  have hx : (waitsR d)[k]? = some (p.1, ⟨p.2.toArray⟩) := by unfold waitsR; rw [List.getElem?_map, hk]; rfl
  obtain ⟨g, e, -, c0⟩ := ownsRow_cell h (j := k * 2 + 0) ((cells_get okW _ k _ hx 0 (by decide)).trans rfl)
  obtain ⟨g2, e2, -, c1⟩ := ownsRow_cell h (j := k * 2 + 1) ((cells_get okW _ k _ hx 1 (by decide)).trans rfl)
  obtain rfl : g = g2 := by rw [e] at e2; injection e2 with e2; injection e2
  exact ⟨g, e, c0, c1⟩
theorem last_at {B : Nat} {w : World} {la : Option Addr} {n lc : Nat} {L : List ByteArray} (h : OwnR elS B w (.slice la n lc) L) {i : Nat} {s : ByteArray} (hi : L[i]? = some s) : ∃ g, la = some ⟨g, 0, none⟩ ∧ w.cell? ⟨g, i, none⟩ = some (.string s) := by
  obtain ⟨g, e, -, c⟩ := ownsRow_cell h (j := i * 1 + 0) ((cells_get okS _ i _ hi 0 (by decide)).trans rfl)
  rw [Nat.mul_one, Nat.add_zero] at c
  exact ⟨g, e, c⟩
theorem torn_at {B : Nat} {w : World} {ta : Option Addr} {n tc m : Nat} {T : List Bool} (h : w.ownsRow B 4 1 (.slice ta n tc) m (T.map Value.bool)) {i : Nat} {b : Bool} (hi : T[i]? = some b) : ∃ g, ta = some ⟨g, 0, none⟩ ∧ w.cell? ⟨g, i, none⟩ = some (.bool b) := by
  obtain ⟨g, e, -, c⟩ := ownsRow_cell h (j := i) (u := .bool b) (by rw [List.getElem?_map, hi]; rfl)
  exact ⟨g, e, c⟩
set_option maxHeartbeats 1600000 in
theorem rread_any {B : Nat} {w : World} {rb : Nat} {d : Dev} (h : RDevAt B w rb d) (i : Int) (hlen : d.waits.length < 1000000) :
    Calls Try.prog 30 #[.pointer (some ⟨rb, 0, none⟩), .int .i64 i] w fun e w' => e = .returned (.tuple #[.string ⟨(d.read i).1.toArray⟩, .int .i64 (d.read i).2]) ∧ w' = w := by
  obtain ⟨c3, -, -⟩ := h.cells
  obtain ⟨la, lc, ta, tc, wa, wc, L, T, c0, c1, c2, tl, oL, oT, oW⟩ := h.all
  have hok := h.ok.size
  by_cases hh : d.has i = true
  · have hi2 : 0 ≤ i ∧ i < d.size := by simpa [Dev.has] using hh
    obtain ⟨j, rfl⟩ : ∃ j : Nat, i = (j : Int) := ⟨i.toNat, by omega⟩
    have hj : j < d.size := by omega
    have e1 : ¬ ((j : Int) < 0) := by omega
    have e2 : ¬ ((d.size : Int) ≤ (j : Int)) := by omega
    by_cases ho : d.off = true
    · have HR : Hid (d.read j = ([], 4)) := by unfold Dev.read; rw [if_neg (by simp [hh]), if_pos ho]; exact rfl
      rw [ho] at c3
      clear hh ho oL oT oW tl h hi2 hok c1 c2
      go_enter Try.func30, Try.ntmps30
      go_wp2
      go_ret2
      exact ⟨by rw [HR.out]; rfl, rfl⟩
    · have ho' : d.off = false := by simpa using ho
      rw [ho'] at c3
      have HR : Hid (d.read j = match newest d.waits j with | some bs => (bs, 0) | none => if (d.last j).2 = true then ([], 3) else ((d.last j).1, 0)) := by
        show d.read j = _
        unfold Dev.read; rw [if_neg (by simp [hh]), if_neg (by simp [ho'])]; rfl
      obtain ⟨tg, rfl, ct⟩ := torn_at oT (tl.torn j hj)
      have LA := Lib.hid (fun (q : (d.last j).2 = false) => last_at oL (tl.last j hj q))
      have WA := Lib.hid (fun (k : Nat) (p : Int × List UInt8) (hk : d.waits[k]? = some p) => wait_at oW hk)
      obtain ⟨M, hM⟩ : ∃ M, d.waits.length = M := ⟨_, rfl⟩
      have HM := Lib.hid hM
      rw [hM] at c2 hlen
      have hw1 : IntKind.i64.wrap ((M : Int) - 1) = (M : Int) - 1 := by rw [IntKind.wrap_i64]; omega
      clear hh ho ho' oL oT oW tl h hi2 hM
      go_enter Try.func30, Try.ntmps30
      go_wp2
      go_loop [6] (fun iv => ∃ k : Nat, k ≤ M ∧ iv = .int .i64 ((k : Int) - 1) ∧ Hid (newest d.waits j = newest (d.waits.take k) j)) (fun iv => (intOf iv + 1).toNat)
      case atStart => exact ⟨M, Nat.le_refl _, rfl, Lib.hid (by rw [List.take_of_length_le (Nat.le_of_eq HM.out)])⟩
      case round =>
        obtain ⟨k, hk, rfl, hnew⟩ := hrel
        rcases k with _ | m
        · have hn0 : newest d.waits j = none := by rw [hnew.out]; rfl
          have HR2 : Hid (d.read j = if (d.last j).2 = true then ([], 3) else ((d.last j).1, 0)) := by show d.read j = _; rw [HR.out, hn0]
          clear hnew hn0 HR WA
          cases ht : (d.last j).2
          · obtain ⟨lg, rfl, cl⟩ := LA.out ht
            rw [ht] at ct
            have HR3 : Hid (d.read j = ((d.last j).1, 0)) := by show _ = _; rw [HR2.out, ht]; rfl
            clear LA HR2 ht
            go_wp2
            go_ret2
            exact ⟨by rw [HR3.out]; rfl, rfl⟩
          · rw [ht] at ct
            have HR3 : Hid (d.read j = ([], 3)) := by show _ = _; rw [HR2.out, ht]; rfl
            clear LA HR2 ht
            go_wp2
            go_ret2
            exact ⟨by rw [HR3.out]; rfl, rfl⟩
        · obtain ⟨p, hp⟩ : ∃ p, d.waits[m]? = some p := ⟨_, List.getElem?_eq_getElem (by have := HM.out; omega)⟩
          obtain ⟨g, hg, ca, cb⟩ := WA.out m p hp
          subst hg
          have hnx := newest_succ (i := (j : Int)) hp
          rw [← hnew.out] at hnx
          have e3 : (((m + 1 : Nat) : Int) - 1) = (m : Int) := by omega
          rw [e3]
          have HNX := Lib.hid hnx
          clear hp hnx hnew e3 LA WA
          have hkM : m < M := by omega
          by_cases hpi : p.1 = j
          · have HPI := Lib.hid hpi
            have hpi' : (p.1 == (j : Int)) = true := by simpa using hpi
            clear hpi
            go_wp2
            go_ret2
            exact ⟨by rw [HR.out, HNX.out, if_pos HPI.out]; rfl, rfl⟩
          · have HPI := Lib.hid hpi
            have hpi' : (p.1 == (j : Int)) = false := by simpa using hpi
            clear hpi
            go_wp2
            go_round
            case rel => exact ⟨m, by omega, by go_num, Lib.hid (by rw [HNX.out, if_neg HPI.out])⟩
            case measure => simp [intOf]
  · have hh' : d.has i = false := by simpa using hh
    have HR : Hid (d.read i = ([], 1)) := by unfold Dev.read; rw [if_pos hh']; exact rfl
    have hi2 : ¬ (0 ≤ i ∧ i < d.size) := by simpa [Dev.has] using hh
    clear hh hh' oL oT oW tl h c1 c2 c3
    by_cases h1 : i < 0
    · go_enter Try.func30, Try.ntmps30
      go_wp2
      go_ret2
      exact ⟨by rw [HR.out]; rfl, rfl⟩
    · have h2 : (d.size : Int) ≤ i := by omega
      clear hi2
      go_enter Try.func30, Try.ntmps30
      go_wp2
      go_ret2
      exact ⟨by rw [HR.out]; rfl, rfl⟩
end Go.Proofs.Ytfdabkcbefhdaaa
