/- The contract of the store's List where its answer is not lost: how many names it has. No statement of the seat is proved here. -/
import Derived.Test.YtcbbppgleclndaaBDel
import Derived.Test.YtcbbppgleclndaaBIter
namespace Go.Proofs.Ytcbbppgleclndaa
open Go.RowKit

/-- The names of what is there, each once. -/
def NamesOf (f : List UInt8 → Option (List UInt8)) (ks : List (List UInt8)) : Prop := ks.Nodup ∧ ∀ x, x ∈ ks ↔ (f x).isSome = true
theorem names_perm {X : Nat → Prop} {w : World} {mb N : Nat} {D : DataW Value} {f : List UInt8 → Option (List UInt8)} {ks : List (List UInt8)} (ho : w.ownsMap Try.prog 9 vR mb N D) (hat : ∀ k, BlobAt (fun k => ¬ X k) w D k (f k)) (h : NamesOf f ks) : ks.Perm (strKeys D) := by
  refine Collected.perm (left := fun _ => false) ⟨h.1, fun x => ?_⟩ ho keyed9 Try.underlying9 (fun _ => rfl)
  rw [h.2 x]
  have := hat x
  cases hf : f x with
  | none => rw [hf] at this; simp [show Maps.has D (.string x) = false from this]
  | some bs => rw [hf] at this; simp [this.1]
theorem row_form {w : World} {base n : Nat} {t : TypeId} {v : Value} {xs : List Value} (h : w.ownsRow base t 1 v n xs) : ∃ ao cap, v = .slice ao n cap := by
  rcases h.2 with ⟨h1, h2⟩ | ⟨g, cap, cur, hv, _⟩
  · exact ⟨none, 0, by rw [h1, h2]⟩
  · exact ⟨_, cap, hv⟩
def LenPost (X : Nat → Prop) (w : World) (sb : Nat) (s : Sto) (N n : Nat) (e : Ending) (w' : World) : Prop := ∃ ao cap, e = .returned (.tuple #[.slice ao n cap, .int .i64 0]) ∧ StoAt X w' sb s.took N ∧ Kp X w w'
set_option maxRecDepth 20000 in
set_option maxHeartbeats 800000 in
theorem list_len {X : Nat → Prop} {w : World} {sb : Nat} {s : Sto} {N : Nat} (h : StoAt X w sb s N) (hc : s.calls < 4611686018427387904) (hN : N ≤ 1000000) (hq : s.out = 0) {ks : List (List UInt8)} (hks : NamesOf s.blobs ks) {n : Nat} (hn : ks.length = n) :
    Calls Try.prog 22 #[.pointer (some ⟨sb, 0, none⟩)] w (LenPost X w sb s N n) := by
  go_enter Try.func22, Try.ntmps22
  go_wp2_with fail
  refine (take_any h hc).mono ?_
  rintro e w1 ⟨rfl, h1, k1⟩
  have H1 := Lib.hid h1
  have K1 := Lib.hid k1
  obtain ⟨mv, ov, b1, m1, -⟩ := h1.box'
  have c0 : w1.cell? ⟨sb, 0, none⟩ = some mv := cell_row b1 0 rfl
  clear h1 k1 b1 h
  rw [hq]
  clear hq
  rcases m1 with ⟨rfl, hz⟩ | ⟨mb, D, rfl, -, hown, -, hat⟩
  · have hn0 : n = 0 := by
      cases ks with
      | nil => exact hn.symm
      | cons a r => have := (hks.2 a).1 (List.mem_cons_self ..); rw [show s.blobs a = none from hz a] at this; cases this
    have N0 := Lib.hid hn0
    clear hz hks hn hn0
    go_wp2_with fail
    refine (callsIn_wide.1 (Try.mapsKeys none w1)).mono ?_
    rintro e w2 ⟨rfl, hw2⟩
    subst hw2
    go_wp2_with fail
    refine (callsIn_wide.1 (Try.sortedKeysNil w1)).mono ?_
    rintro e w3 ⟨v, ss, rfl, hss, hrow, -, hb⟩
    obtain ⟨ao, cap, rfl⟩ := row_form hrow
    have SL := Lib.hid (show ss.length = n by rw [hss, N0.out]; rfl)
    have FIN := Lib.hid (And.intro ((H1.out.below ((Below.refl _ _).alloc (Nat.le_refl _) _)).below hb) (K1.out.trans ((Kp.of_below (X := X) ((Below.refl _ _).alloc (Nat.le_refl _) _)).trans (Kp.of_below hb))))
    clear hb hss hrow
    go_wp2
    go_returns
    exact ⟨ao, cap, by rw [SL.out]; rfl, FIN.out⟩
  · have hsz := hown.size_le
    have PK := Lib.hid (names_perm hown hat hks)
    have NK := Lib.hid hn
    clear hat hks hn
    go_wp2_with fail
    refine (callsIn_wide.1 (Try.mapsKeys (some mb) w1)).mono ?_
    rintro e w2 ⟨rfl, hw2⟩
    subst hw2
    have SO := Lib.hid (callsIn_wide.1 (Try.sortedKeys mb N D vR w1 hown (by unfold maxLen; omega) (by omega)))
    clear hown hsz
    go_wp2_with fail
    refine SO.out.mono ?_
    rintro e w3 ⟨v, ss, rfl, hss, hrow, -, hb⟩
    obtain ⟨ao, cap, rfl⟩ := row_form hrow
    have SL := Lib.hid (show ss.length = n by rw [← NK.out]; exact (hss.trans PK.out.symm).length_eq)
    have FIN := Lib.hid (And.intro ((H1.out.below ((Below.refl _ _).alloc (Nat.le_refl _) _)).below hb) (K1.out.trans ((Kp.of_below (X := X) ((Below.refl _ _).alloc (Nat.le_refl _) _)).trans (Kp.of_below hb))))
    clear hb SO hss hrow
    go_wp2
    go_returns
    exact ⟨ao, cap, by rw [SL.out]; rfl, FIN.out⟩
end Go.Proofs.Ytcbbppgleclndaa
