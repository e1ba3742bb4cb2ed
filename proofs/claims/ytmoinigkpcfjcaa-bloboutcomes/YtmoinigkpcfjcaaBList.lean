/- The contract of the store's List. No statement of the seat is proved here. -/
import Derived.Test.YtmoinigkpcfjcaaBDel
import Derived.Test.YtmoinigkpcfjcaaBIter
namespace Go.Proofs.Ytmoinigkpcfjcaa
open Go.RowKit

def Sto.listE (s : Sto) : Int := if s.out = 0 then 0 else 15
def ListPost (X : Nat → Prop) (w : World) (sb : Nat) (s : Sto) (N : Nat) (e : Ending) (w' : World) : Prop := ∃ v, e = .returned (.tuple #[v, .int .i64 s.listE]) ∧ StoAt X w' sb s.took N ∧ Kp X w w'
set_option maxRecDepth 20000 in
set_option maxHeartbeats 800000 in
theorem list_any {X : Nat → Prop} {w : World} {sb : Nat} {s : Sto} {N : Nat} (h : StoAt X w sb s N) (hc : s.calls < 4611686018427387904) (hN : N ≤ 1000000) :
    Calls Try.prog 22 #[.pointer (some ⟨sb, 0, none⟩)] w (ListPost X w sb s N) := by
  go_enter Try.func22, Try.ntmps22
  go_wp2_with fail
  refine (take_any h hc).mono ?_
  rintro e w1 ⟨rfl, h1, k1⟩
  have H1 := Lib.hid h1
  have K1 := Lib.hid k1
  obtain ⟨mv, ov, b1, m1, -⟩ := h1.box'
  have c0 : w1.cell? ⟨sb, 0, none⟩ = some mv := cell_row b1 0 rfl
  clear h1 k1 b1 h
  by_cases hq : s.out = 0
  · have HE := Lib.hid (show s.listE = 0 from if_pos hq)
    rw [hq]
    clear hq
    rcases m1 with ⟨rfl, -⟩ | ⟨mb, D, rfl, -, hown, -, -⟩
    · go_wp2_with fail
      refine (callsIn_wide.1 (Try.mapsKeys none w1)).mono ?_
      rintro e w2 ⟨rfl, hw2⟩
      subst hw2
      go_wp2_with fail
      refine (callsIn_wide.1 (Try.sortedKeysNil w1)).mono ?_
      rintro e w3 ⟨v, ss, rfl, -, -, -, hb⟩
      have FIN := Lib.hid (And.intro ((H1.out.below ((Below.refl _ _).alloc (Nat.le_refl _) _)).below hb) (K1.out.trans ((Kp.of_below (X := X) ((Below.refl _ _).alloc (Nat.le_refl _) _)).trans (Kp.of_below hb))))
      clear hb
      go_wp2
      go_returns
      exact ⟨v, by rw [HE.out]; rfl, FIN.out⟩
    · have hsz := hown.size_le
      go_wp2_with fail
      refine (callsIn_wide.1 (Try.mapsKeys (some mb) w1)).mono ?_
      rintro e w2 ⟨rfl, hw2⟩
      subst hw2
      have SO := Lib.hid (callsIn_wide.1 (Try.sortedKeys mb N D vR w1 hown (by unfold maxLen; omega) (by omega)))
      clear hown hsz
      go_wp2_with fail
      refine SO.out.mono ?_
      rintro e w3 ⟨v, ss, rfl, -, -, -, hb⟩
      have FIN := Lib.hid (And.intro ((H1.out.below ((Below.refl _ _).alloc (Nat.le_refl _) _)).below hb) (K1.out.trans ((Kp.of_below (X := X) ((Below.refl _ _).alloc (Nat.le_refl _) _)).trans (Kp.of_below hb))))
      clear hb SO
      go_wp2
      go_returns
      exact ⟨v, by rw [HE.out]; rfl, FIN.out⟩
  · have HE := Lib.hid (show s.listE = 15 from if_neg hq)
    have hb : (s.out != 0) = true := by simp [hq]
    clear hq m1
    go_wp2
    go_returns
    exact ⟨_, by rw [HE.out]; rfl, H1.out, K1.out⟩
end Go.Proofs.Ytmoinigkpcfjcaa
