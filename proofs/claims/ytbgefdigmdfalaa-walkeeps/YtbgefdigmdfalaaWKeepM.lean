/- What lasts of a log, what waits, what stands behind a crash. No statement of the seat is proved here. -/
import Derived.Test.YtbgefdigmdfalaaWTrimL
namespace Go.Proofs.Ytbgefdigmdfalaa
set_option maxRecDepth 20000
open Go.RowKit

def lastD (d : Dev) : Dev := { d with waits := [], off := false }
/-- the records that last -/
def vl (d : Dev) (l : Wl) : Nat → Option Lg := vw (lastD d) l
theorem vl_congr {d d' : Dev} (h1 : d'.last = d.last) (h2 : d'.size = d.size) (l : Wl) : vl d' l = vl d l := funext fun s => vw_congr (read_same (d := lastD d) (d' := lastD d') rfl h2 rfl h1 _)
theorem vw_at {l l' : Wl} (h1 : l'.first = l.first) (h2 : l'.size = l.size) (d : Dev) : vw d l' = vw d l := funext fun s => by
  have e : l'.at s = l.at s := by unfold Wl.at; rw [h1, h2]
  rw [vw_of, vw_of, e]
/-- records that wait, one behind the other -/
def wr (l : Wl) (s : Nat) (R : Nat → Lg) (K : Nat) : List (Int × List UInt8) := (List.range K).map fun i => (((l.at (s + i) : Nat) : Int), sectB (logI (R (s + i))))
theorem wr_succ (l : Wl) (s : Nat) (R : Nat → Lg) (K : Nat) : wr l s R (K + 1) = wr l s R K ++ [(((l.at (s + K) : Nat) : Int), sectB (logI (R (s + K))))] := by
  unfold wr; rw [List.range_succ, List.map_append]; rfl
theorem wr_length (l : Wl) (s : Nat) (R : Nat → Lg) (K : Nat) : (wr l s R K).length = K := by unfold wr; simp
theorem wr_append (l : Wl) (s : Nat) (R : Nat → Lg) (K : Nat) : ∀ k, wr l s R (K + k) = wr l s R K ++ wr l (s + K) R k
  | 0 => by simp [wr]
  | k + 1 => by rw [← Nat.add_assoc, wr_succ, wr_append l s R K k, wr_succ, List.append_assoc, Nat.add_assoc]
theorem wr_congr {l : Wl} {s : Nat} {R R' : Nat → Lg} {K : Nat} (h : ∀ i, i < K → R (s + i) = R' (s + i)) : wr l s R K = wr l s R' K := by
  unfold wr
  apply List.map_congr_left
  intro i hi
  rw [h i (List.mem_range.1 hi)]
theorem recsN_wr (l : Wl) (e s : Nat) (a : List Im) (k : Nat) : recsN l e s a k = wr l s (fun q => wantR e s (q - s) a) k := by
  unfold recsN wr
  apply List.map_congr_left
  intro i _
  simp only [Nat.add_sub_cancel_left]
theorem wr_newest {l : Wl} {R : Nat → Lg} {t s : Nat} (ht : t ≤ s) : ∀ (K : Nat), s + K ≤ t + l.size → ∀ (q : Nat), t ≤ q → q < t + l.size →
    newest (wr l s R K) (l.at q : Nat) = if s ≤ q ∧ q < s + K then some (sectB (logI (R q))) else none
  | 0, _, q, _, _ => by rw [if_neg (by omega)]; rfl
  | K + 1, hk, q, h1, h2 => by
    rw [wr_succ, newest_append]
    have ih := wr_newest (R := R) ht K (by omega) q h1 h2
    by_cases hq : q = s + K
    · subst hq
      rw [if_pos rfl, if_pos (by omega)]
    · rw [if_neg (fun h => hq (at_inj h1 h2 (by omega) (by omega) (by simp only at h; omega))), ih]
      by_cases hc : s ≤ q ∧ q < s + K
      · rw [if_pos hc, if_pos (by omega)]
      · rw [if_neg hc, if_neg (by omega)]
theorem vw_wr {d D : Dev} {l : Wl} {R : Nat → Lg} {t s K : Nat} (ok : l.Ok) (hf : Fits D l) (hD : D.off = false) (hw : D.waits = wr l s R K) (h4 : D.last = d.last) (h2 : D.size = d.size) (hR : ∀ i, i < K → logOk (R (s + i)) = true ∧ (R (s + i)).ok) (ht : t ≤ s) (hk : s + K ≤ t + l.size) {q : Nat} (q1 : t ≤ q) (q2 : q < t + l.size) :
    vw D l q = if s ≤ q ∧ q < s + K then some (R q) else vl d l q := by
  have hn := wr_newest (R := R) ht K hk q q1 q2
  rw [← hw] at hn
  have hf' : Fits (lastD d) l := by unfold Fits lastD at *; simp only; omega
  split
  · rename_i h
    rw [if_pos h] at hn
    obtain ⟨r1, r2⟩ := hR (q - s) (by omega)
    rw [show s + (q - s) = q by omega] at r1 r2
    refine vw_read ?_ r1 r2
    rw [read_on ok hf hD, hn]
  · rename_i h
    rw [if_neg h] at hn
    unfold vl
    refine vw_congr ?_
    rw [read_on ok hf hD, read_on ok hf' rfl, hn, h4]
    rfl
/-! ### a crash -/
theorem wr_get {l : Wl} {s : Nat} {R : Nat → Lg} {K k : Nat} (h : k < K) : (wr l s R K)[k]? = some (((l.at (s + k) : Nat) : Int), sectB (logI (R (s + k)))) := by
  unfold wr; rw [List.getElem?_map, List.getElem?_range h]; rfl
theorem crash_last {d : Dev} {l : Wl} {R : Nat → Lg} {zs : List Int} {t s K : Nat} (hw : d.waits = wr l s R K) (ht : t ≤ s) (hk : s + K ≤ t + l.size) {q : Nat} (q1 : t ≤ q) (q2 : q < t + l.size) : ∀ k, k ≤ K →
    (d.apply (crashF zs) k).last (l.at q : Nat) = if s ≤ q ∧ q < s + k then (if pickOf zs (q - s) = 1 then (sectB (logI (R q)), false) else if pickOf zs (q - s) = 2 then (zeros, true) else d.last (l.at q : Nat)) else d.last (l.at q : Nat)
  | 0, _ => by rw [if_neg (by omega)]; rfl
  | k + 1, hkk => by
    have ih := crash_last (zs := zs) hw ht hk q1 q2 k (by omega)
    have hg : d.waits[k]? = some (((l.at (s + k) : Nat) : Int), sectB (logI (R (s + k)))) := by rw [hw]; exact wr_get (by omega)
    have hcf : crashF zs k (((l.at (s + k) : Nat) : Int), sectB (logI (R (s + k)))) = if pickOf zs k = 1 then some (sectB (logI (R (s + k))), false) else if pickOf zs k = 2 then some (zeros, true) else none := rfl
    rw [apply_next hg, hcf]
    by_cases hq : q = s + k
    · subst hq
      rw [if_neg (by omega)] at ih
      rw [if_pos (show s ≤ s + k ∧ s + k < s + (k + 1) by omega), Nat.add_sub_cancel_left]
      by_cases p1 : pickOf zs k = 1
      · rw [if_pos p1, if_pos p1]
        show upd _ _ _ _ = _
        unfold upd; rw [if_pos rfl]
      · rw [if_neg p1, if_neg p1]
        by_cases p2 : pickOf zs k = 2
        · rw [if_pos p2, if_pos p2]
          show upd _ _ _ _ = _
          unfold upd; rw [if_pos rfl]
        · rw [if_neg p2, if_neg p2]
          exact ih
    · have hne : ¬ ((l.at q : Nat) : Int) = ((l.at (s + k) : Nat) : Int) := fun h => hq (at_inj q1 q2 (by omega) (by omega) (by omega))
      have hside : (if s ≤ q ∧ q < s + (k + 1) then (if pickOf zs (q - s) = 1 then (sectB (logI (R q)), false) else if pickOf zs (q - s) = 2 then (zeros, true) else d.last (l.at q : Nat)) else d.last (l.at q : Nat)) = (if s ≤ q ∧ q < s + k then (if pickOf zs (q - s) = 1 then (sectB (logI (R q)), false) else if pickOf zs (q - s) = 2 then (zeros, true) else d.last (l.at q : Nat)) else d.last (l.at q : Nat)) := by
        by_cases hc : s ≤ q ∧ q < s + k
        · rw [if_pos hc, if_pos (by omega)]
        · rw [if_neg hc, if_neg (by omega)]
      rw [hside, ← ih]
      by_cases p1 : pickOf zs k = 1
      · rw [if_pos p1]
        show upd _ _ _ _ = _
        unfold upd; rw [if_neg hne]
      · rw [if_neg p1]
        by_cases p2 : pickOf zs k = 2
        · rw [if_pos p2]
          show upd _ _ _ _ = _
          unfold upd; rw [if_neg hne]
        · rw [if_neg p2]
theorem vl_crash {d : Dev} {l : Wl} {R : Nat → Lg} {zs : List Int} {t s K : Nat} (ok : l.Ok) (hf : Fits d l) (hw : d.waits = wr l s R K) (hR : ∀ i, i < K → logOk (R (s + i)) = true ∧ (R (s + i)).ok) (ht : t ≤ s) (hk : s + K ≤ t + l.size) {q : Nat} (q1 : t ≤ q) (q2 : q < t + l.size) :
    vl (d.crash zs) l q = if s ≤ q ∧ q < s + K then (if pickOf zs (q - s) = 1 then some (R q) else if pickOf zs (q - s) = 2 then none else vl d l q) else vl d l q := by
  have hcl := crash_last (zs := zs) hw ht hk q1 q2 K (Nat.le_refl _)
  have hlen : d.waits.length = K := by rw [hw, wr_length]
  obtain ⟨c1, c2, -⟩ := crash_same d zs
  have hlast : (d.crash zs).last (l.at q : Nat) = (d.apply (crashF zs) K).last (l.at q : Nat) := by unfold Dev.crash; rw [hlen]
  rw [← hlast] at hcl
  have hf1 : Fits (lastD (d.crash zs)) l := by unfold Fits lastD at *; simp only; rw [c2]; exact hf
  have hf2 : Fits (lastD d) l := by unfold Fits lastD at *; exact hf
  have hr := read_on ok hf1 rfl q
  have hr2 := read_on ok hf2 rfl q
  have e1 : newest (lastD (d.crash zs)).waits (l.at q : Nat) = none := rfl
  have e2 : newest (lastD d).waits (l.at q : Nat) = none := rfl
  rw [e1] at hr
  rw [e2] at hr2
  have e3 : (lastD (d.crash zs)).last = (d.crash zs).last := rfl
  have e4 : (lastD d).last = d.last := rfl
  simp only at hr hr2
  rw [e3, hcl] at hr
  rw [e4] at hr2
  split
  · rename_i h
    rw [if_pos h] at hr
    by_cases p1 : pickOf zs (q - s) = 1
    · rw [if_pos p1] at hr ⊢
      obtain ⟨r1, r2⟩ := hR (q - s) (by omega)
      rw [show s + (q - s) = q by omega] at r1 r2
      exact vw_read (by rw [hr]; rfl) r1 r2
    · rw [if_neg p1] at hr ⊢
      by_cases p2 : pickOf zs (q - s) = 2
      · rw [if_pos p2] at hr ⊢
        exact vw_unread (by rw [hr]; decide)
      · rw [if_neg p2] at hr ⊢
        exact vw_congr (by rw [hr, hr2])
  · rename_i h
    rw [if_neg h] at hr
    exact vw_congr (by rw [hr, hr2])
theorem mix_of {v vo : Nat → Option Lg} {R : Nat → Lg} {lim E k : Nat} {b : List Im} (hkb : k ≤ b.length) : ∀ {T : Txs} {s : Nat}, StdA (fun q => some (R q)) s T → (∀ x ∈ T, x.1 = E) → (∀ i, i < k → R (s + lenT T + i) = wantR E (s + lenT T) i b) →
    (∀ q, s ≤ q → q < lim → v q = none ∨ v q = vo q ∨ (q < s + lenT T + k ∧ v q = some (R q))) → s + lenT T ≤ lim → Mix v vo lim E s T
  | [], s, _, _, hb, hv, _ => by
    refine ⟨b, fun i hi => ?_⟩
    rcases hv (s + i) (by omega) hi with h | h | ⟨h1, h2⟩
    · exact .inl h
    · exact .inr (.inl h)
    · have hik : i < k := by simp only [lenT] at h1; omega
      have := hb i hik
      simp only [lenT, Nat.add_zero] at this
      exact .inr (.inr ⟨by omega, by rw [h2, this]⟩)
  | x :: r, s, hR, hE, hb, hv, hl => by
    obtain ⟨h1, h2⟩ := hR
    have hx := hE x (by simp)
    simp only [lenT] at hb hv hl
    refine ⟨hx, fun i hi => ?_, mix_of hkb h2 (fun y hy => hE y (by simp [hy])) (fun i hi => ?_) (fun q q1 q2 => ?_) (by omega)⟩
    · rcases hv (s + i) (by omega) (by omega) with h | h | ⟨-, h⟩
      · exact .inl h
      · exact .inr (.inl h)
      · have := h1 i hi
        simp only at this
        rw [hx] at this
        exact .inr (.inr (by rw [h]; exact this))
    · have := hb i hi
      rw [show s + (x.2.length + 1) + lenT r = s + (x.2.length + 1 + lenT r) by omega]
      exact this
    · rcases hv q (by omega) q2 with h | h | ⟨h3, h4⟩
      · exact .inl h
      · exact .inr (.inl h)
      · exact .inr (.inr ⟨by omega, h4⟩)
end Go.Proofs.Ytbgefdigmdfalaa
