/- What the document's decoding of a record tells, and that it is the program's: plain mathematics. No statement of the seat is proved here. -/
import Derived.Test.YtmkomhdlcbimoaaRRec
namespace Go.Proofs.Ytmkomhdlcbimoaa
set_option maxRecDepth 20000
open Go.RowKit

def ddK (it : List It) (j : Nat) : Int := if j = 0 then 0 else (itAt it 0).n
def ddZ (it : List It) : Nat → List Int
  | 0 => []
  | j + 1 => if j = 0 then [] else if (itAt it j).k = 1 then ddZ it j ++ [(itAt it j).n] else ddZ it j
def ddT (it : List It) : Nat → ByteArray
  | 0 => ByteArray.empty
  | j + 1 => if j = 0 then ByteArray.empty else if (itAt it j).k = 1 then ddT it j else (itAt it j).s
theorem ddZ_len (it : List It) (j : Nat) : (ddZ it j).length ≤ j := by
  induction j with
  | zero => simp [ddZ]
  | succ j ih =>
    unfold ddZ; split
    · simp
    · split
      · simp; omega
      · omega
theorem ddZ_in {it : List It} (h : ∀ x ∈ it, x.ok) (j : Nat) (hj : j ≤ it.length) : ∀ z ∈ ddZ it j, inI z := by
  induction j with
  | zero => intro z hz; simp [ddZ] at hz
  | succ j ih =>
    intro z hz
    unfold ddZ at hz
    split at hz
    · cases hz
    · split at hz
      · rcases List.mem_append.1 hz with hz | hz
        · exact ih (by omega) z hz
        · rw [List.mem_singleton.1 hz]; exact (itAt_ok h (by omega)).2.1
      · exact ih (by omega) z hz
theorem ddT_size {it : List It} (h : ∀ x ∈ it, x.s.size ≤ 140737488355328) (j : Nat) (hj : j ≤ it.length) : (ddT it j).size ≤ 140737488355328 := by
  induction j with
  | zero => show (0 : Nat) ≤ _; omega
  | succ j ih =>
    unfold ddT; split
    · show (0 : Nat) ≤ _; omega
    · split
      · exact ih (by omega)
      · exact h _ (itAt_mem (by omega))
def ddOk (bs : List UInt8) (it : List It) (kind : Int) : Bool := decide (ddK it it.length = kind) && rightB kind (ddZ it it.length) (ddT it it.length) && decide (sectB (recI kind (ddZ it it.length) (ddT it it.length)) = bs)
def ddE (bs : List UInt8) (kind : Int) : Int := if unE bs ≠ 0 then 2 else if unsE (unR bs) ≠ 0 then unsE (unR bs) else if ddOk bs (unsR (unR bs)) kind then 0 else 2
theorem ddE_zero {bs : List UInt8} {kind : Int} (h : ddE bs kind = 0) : unE bs = 0 ∧ unsE (unR bs) = 0 ∧ ddOk bs (unsR (unR bs)) kind = true := by
  unfold ddE at h
  split at h
  · cases h
  · split at h
    · contradiction
    · split at h
      · exact ⟨Decidable.of_not_not ‹_›, Decidable.of_not_not ‹_›, ‹_›⟩
      · cases h
theorem ddE_of {bs : List UInt8} {kind : Int} (h1 : unE bs = 0) (h2 : unsE (unR bs) = 0) (h3 : ddOk bs (unsR (unR bs)) kind = true) : ddE bs kind = 0 := by
  unfold ddE; rw [h1, h2, h3]; rfl
theorem sect_uns {l : List It} (h : encE l = 0) (hok : ∀ x ∈ l, x.ok) (hs : (packB l).length ≤ 250) : unE (sectB l) = 0 ∧ unsE (unR (sectB l)) = 0 ∧ unsR (unR (sectB l)) = l := by
  obtain ⟨h1, h2, h3⟩ := sect_un hs
  obtain ⟨h4, h5⟩ := uns_seal h hok
  rw [h2]; exact ⟨h1, h4, h5⟩
/-- Two decodings that fail alike, and succeed alike, tell the same. -/
theorem dd_sec {bs : List UInt8} {kind : Int} {hd t : Nat} {E : Int} (hE : E = if secE bs kind hd t = 0 then E else secE bs kind hd t) (h2 : secE bs kind hd t = 0 → E = 0 ∨ E = 2) (hiff : ddE bs kind = 0 ↔ E = 0) : ddE bs kind = E := by
  by_cases c1 : unE bs = 0
  · by_cases c2 : unsE (unR bs) = 0
    · have d1 : ddE bs kind = 0 ∨ ddE bs kind = 2 := by
        unfold ddE; rw [c1, c2]; simp only [ne_eq, not_true, if_false]; split <;> simp
      have d2 : E = 0 ∨ E = 2 := by
        by_cases c3 : secE bs kind hd t = 0
        · exact h2 c3
        · rw [if_neg c3] at hE
          rw [hE]
          have : secE bs kind hd t = 0 ∨ secE bs kind hd t = 2 := by
            unfold secE; rw [c1, c2]; simp only [ne_eq, not_true, if_false]; split <;> simp
          exact this
      rcases d1 with d1 | d1
      · rw [d1, hiff.1 d1]
      · rcases d2 with d2 | d2
        · rw [hiff.2 d2] at d1; cases d1
        · rw [d1, d2]
    · have e1 : ddE bs kind = unsE (unR bs) := by unfold ddE; rw [c1, if_neg (by simp), if_pos c2]
      have e2 : secE bs kind hd t = unsE (unR bs) := by unfold secE; rw [c1, if_neg (by simp), if_pos c2]
      rw [if_neg (by rw [e2]; exact c2)] at hE
      rw [e1, hE, e2]
  · have hu : unE bs = 2 := by rcases unE_cases bs with h | h; exact absurd h c1; exact h
    have e1 : ddE bs kind = 2 := by unfold ddE; rw [if_pos c1]
    have e2 : secE bs kind hd t = 2 := by unfold secE; rw [if_pos c1, hu]
    rw [if_neg (by rw [e2]; decide)] at hE
    rw [e1, hE, e2]
def ddz (bs : List UInt8) (kind : Int) : List Int := if ddE bs kind = 0 then ddZ (unsR (unR bs)) (unsR (unR bs)).length else []
def ddt (bs : List UInt8) (kind : Int) : ByteArray := if ddE bs kind = 0 then ddT (unsR (unR bs)) (unsR (unR bs)).length else ByteArray.empty
theorem dd_super (bs : List UInt8) : ddE bs 1 = supE bs ∧ (supE bs = 0 → ddz bs 1 = [supG bs 1, supG bs 2, supG bs 3] ∧ ddt bs 1 = ByteArray.empty) := by
  have fwd : supE bs = 0 → ddE bs 1 = 0 ∧ ddz bs 1 = [supG bs 1, supG bs 2, supG bs 3] ∧ ddt bs 1 = ByteArray.empty := fun h => by
    obtain ⟨e, ho, i1, i2, i3⟩ := super_back h
    obtain ⟨u1, u2, u3⟩ := sect_uns (encE_super (supG bs 1) (supG bs 2) (supG bs 3)) (superI_ok i1 i2 i3) (by rw [superI_len]; omega)
    rw [← e] at u1 u2 u3
    have hz : ddZ (unsR (unR bs)) (unsR (unR bs)).length = [supG bs 1, supG bs 2, supG bs 3] := by rw [u3]; rfl
    have ht : ddT (unsR (unR bs)) (unsR (unR bs)).length = ByteArray.empty := by rw [u3]; rfl
    have hk : ddK (unsR (unR bs)) (unsR (unR bs)).length = 1 := by rw [u3]; rfl
    have hE : ddE bs 1 = 0 := ddE_of u1 u2 (by
      unfold ddOk
      rw [hz, ht, hk, dr_super, ho, decide_eq_true rfl, decide_eq_true (show sectB (recI 1 [supG bs 1, supG bs 2, supG bs 3] ByteArray.empty) = bs from e.symm)]; rfl)
    refine ⟨hE, ?_, ?_⟩
    · unfold ddz; rw [if_pos hE, hz]
    · unfold ddt; rw [if_pos hE, ht]
  refine ⟨dd_sec (hd := 4) (t := 0) (by unfold supE; split <;> rfl) (fun h => by unfold supE; rw [if_pos h]; split <;> simp) ⟨fun h => ?_, fun h => (fwd h).1⟩, fun h => (fwd h).2⟩
  obtain ⟨h1, h2, h3⟩ := ddE_zero h
  obtain ⟨v1, v2, v3⟩ := unsE_zero h2
  unfold ddOk at h3
  simp only [Bool.and_eq_true, decide_eq_true_eq] at h3
  obtain ⟨⟨k1, k2⟩, k3⟩ := h3
  have hin := ddZ_in v3 _ (Nat.le_refl _)
  generalize ddZ (unsR (unR bs)) (unsR (unR bs)).length = zs at k2 k3 hin
  generalize ddT (unsR (unR bs)) (unsR (unR bs)).length = tt at k2 k3
  have hlen : zs.length = 3 ∧ tt.size = 0 := by
    unfold rightB cnt at k2
    simp at k2
    exact ⟨k2.1.1.1, by rw [k2.2]; rfl⟩
  match zs, hlen.1 with
  | [a, b, c], _ =>
    have e0 := empty_of_size hlen.2
    subst e0
    rw [dr_super] at k2
    rw [← k3]
    exact (super_sect k2 (hin a (by simp)) (hin b (by simp)) (hin c (by simp))).1
theorem dd_home (bs : List UInt8) : ddE bs 3 = homE bs ∧ (homE bs = 0 → ddz bs 3 = [homP bs] ∧ ddt bs 3 = homD bs) := by
  have fwd : homE bs = 0 → ddE bs 3 = 0 ∧ ddz bs 3 = [homP bs] ∧ ddt bs 3 = homD bs := fun h => by
    obtain ⟨e, ho, i1, i2⟩ := home_back h
    have hsz := homeOk_size ho
    obtain ⟨u1, u2, u3⟩ := sect_uns (encE_home (p := homP bs) hsz) (homeI_ok i1 i2) (by rw [homeI_len]; omega)
    rw [← e] at u1 u2 u3
    have hz : ddZ (unsR (unR bs)) (unsR (unR bs)).length = [homP bs] := by rw [u3]; rfl
    have ht : ddT (unsR (unR bs)) (unsR (unR bs)).length = homD bs := by rw [u3]; rfl
    have hk : ddK (unsR (unR bs)) (unsR (unR bs)).length = 3 := by rw [u3]; rfl
    have hE : ddE bs 3 = 0 := ddE_of u1 u2 (by
      unfold ddOk
      rw [hz, ht, hk, dr_home, ho, decide_eq_true rfl, decide_eq_true (show sectB (recI 3 [homP bs] (homD bs)) = bs from e.symm)]; rfl)
    refine ⟨hE, ?_, ?_⟩
    · unfold ddz; rw [if_pos hE, hz]
    · unfold ddt; rw [if_pos hE, ht]
  refine ⟨dd_sec (hd := 2) (t := 1) (by unfold homE; split <;> rfl) (fun h => by unfold homE; rw [if_pos h]; split <;> simp) ⟨fun h => ?_, fun h => (fwd h).1⟩, fun h => (fwd h).2⟩
  obtain ⟨h1, h2, h3⟩ := ddE_zero h
  obtain ⟨v1, v2, v3⟩ := unsE_zero h2
  unfold ddOk at h3
  simp only [Bool.and_eq_true, decide_eq_true_eq] at h3
  obtain ⟨⟨k1, k2⟩, k3⟩ := h3
  have hin := ddZ_in v3 _ (Nat.le_refl _)
  generalize ddZ (unsR (unR bs)) (unsR (unR bs)).length = zs at k2 k3 hin
  generalize ddT (unsR (unR bs)) (unsR (unR bs)).length = tt at k2 k3
  have hlen : zs.length = 1 := by
    unfold rightB cnt at k2
    simp at k2
    exact k2.1.1
  match zs, hlen with
  | [a], _ =>
    rw [dr_home] at k2
    rw [← k3]
    exact (home_sect k2 (hin a (by simp))).1
theorem dd_log (bs : List UInt8) : ddE bs 2 = logE bs ∧ (logE bs = 0 → ddz bs 2 = [(logV bs).kind, (logV bs).epoch, (logV bs).seq, (logV bs).tx, (logV bs).index, (logV bs).count, (logV bs).page] ∧ ddt bs 2 = (logV bs).data) := by
  have fwd : logE bs = 0 → ddE bs 2 = 0 ∧ ddz bs 2 = [(logV bs).kind, (logV bs).epoch, (logV bs).seq, (logV bs).tx, (logV bs).index, (logV bs).count, (logV bs).page] ∧ ddt bs 2 = (logV bs).data := fun h => by
    obtain ⟨e, ho, i1⟩ := log_back h
    have hsz := logOk_size ho
    obtain ⟨u1, u2, u3⟩ := sect_uns (encE_log hsz) (logI_ok i1) (by rw [logI_len]; omega)
    rw [← e] at u1 u2 u3
    have hz : ddZ (unsR (unR bs)) (unsR (unR bs)).length = [(logV bs).kind, (logV bs).epoch, (logV bs).seq, (logV bs).tx, (logV bs).index, (logV bs).count, (logV bs).page] := by rw [u3]; rfl
    have ht : ddT (unsR (unR bs)) (unsR (unR bs)).length = (logV bs).data := by rw [u3]; rfl
    have hk : ddK (unsR (unR bs)) (unsR (unR bs)).length = 2 := by rw [u3]; rfl
    have hE : ddE bs 2 = 0 := ddE_of u1 u2 (by
      unfold ddOk
      rw [hz, ht, hk, dr_log, ho, decide_eq_true rfl, decide_eq_true (show sectB (recI 2 [(logV bs).kind, (logV bs).epoch, (logV bs).seq, (logV bs).tx, (logV bs).index, (logV bs).count, (logV bs).page] (logV bs).data) = bs from e.symm)]; rfl)
    refine ⟨hE, ?_, ?_⟩
    · unfold ddz; rw [if_pos hE, hz]
    · unfold ddt; rw [if_pos hE, ht]
  refine ⟨dd_sec (hd := 8) (t := 1) (by unfold logE; split <;> rfl) (fun h => by unfold logE; rw [if_pos h]; split <;> simp) ⟨fun h => ?_, fun h => (fwd h).1⟩, fun h => (fwd h).2⟩
  obtain ⟨h1, h2, h3⟩ := ddE_zero h
  obtain ⟨v1, v2, v3⟩ := unsE_zero h2
  unfold ddOk at h3
  simp only [Bool.and_eq_true, decide_eq_true_eq] at h3
  obtain ⟨⟨k1, k2⟩, k3⟩ := h3
  have hin := ddZ_in v3 _ (Nat.le_refl _)
  generalize ddZ (unsR (unR bs)) (unsR (unR bs)).length = zs at k2 k3 hin
  generalize ddT (unsR (unR bs)) (unsR (unR bs)).length = tt at k2 k3
  have hlen : zs.length = 7 := by
    unfold rightB at k2
    simp only [Bool.and_eq_true, decide_eq_true_eq] at k2
    exact k2.1.1.1
  have hts := (right_facts k2).2
  match zs, hlen with
  | [a, b, c, d, e, f, g], _ =>
    have k2' : logOk ⟨a, b, c, d, e, f, g, tt⟩ = true := by rw [← dr_log ⟨a, b, c, d, e, f, g, tt⟩]; exact k2
    rw [← k3]
    exact (log_sect (l := ⟨a, b, c, d, e, f, g, tt⟩) k2' ⟨hin a (by simp), hin b (by simp), hin c (by simp), hin d (by simp), hin e (by simp), hin f (by simp), hin g (by simp), by show tt.size ≤ maxLen; unfold maxLen; omega⟩).1
end Go.Proofs.Ytmkomhdlcbimoaa
