/- The contracts of the document's DocEncode and take. No statement of the seat is proved here. -/
import Derived.Test.YtjjdpclobkdbjaaNRefE
import Derived.Test.YtjjdpclobkdbjaaNRdM
namespace Go.Proofs.Ytjjdpclobkdbjaa
set_option maxRecDepth 20000
open Go.RowKit

set_option maxHeartbeats 1600000 in
theorem docEncode_any {w : World} {v : Value} {n : Nd} (h : NdAt w.heap.size w v n) : Calls Try.prog 13 #[v] w fun e w' => e = .returned (.tuple #[.string (encS n), .int .i64 (encE n)]) ∧ Below w.heap.size w w' := by
  have HN := Lib.hid h
  obtain ⟨pv, kv, iv, rfl, h1, h2, h3⟩ := h
  obtain ⟨pa, pm, pc, rfl, -⟩ := h1.form
  obtain ⟨ka, km, kc, rfl, -⟩ := h2.form
  obtain ⟨ia, im, ic, rfl, -⟩ := h3.form
  obtain ⟨lf, hlf⟩ : ∃ b, n.leaf = b := ⟨_, rfl⟩
  rw [hlf] at HN ⊢
  have RB := Lib.hid (fun (w1 : World) b => rbox_facts (W := w) (lf := lf) (pv := .slice pa pm pc) (kv := .slice ka km kc) (iv := .slice ia im ic) (w1 := w1) b)
  have b0 : Below (w.heap.size + 1) (w.alloc (rbO lf (.slice pa pm pc) (.slice ka km kc) (.slice ia im ic))) (w.alloc (rbO lf (.slice pa pm pc) (.slice ka km kc) (.slice ia im ic))) := Below.refl _ _
  obtain ⟨⟨q0, q1, q2, q3⟩, B0, s0⟩ := RB.out _ b0
  have rt := right_any ((HN.out.below B0).more B0.size)
  clear h1 h2 h3 hlf
  cases hk : okN n
  · have e1 : encE n = 2 := by unfold encE; rw [hk]; rfl
    have e2 : encS n = ⟨#[]⟩ := by unfold encS; rw [hk]; rfl
    rw [e1, e2]
    rw [hk] at rt
    clear hk e1 e2
    go_enter Try.func13, Try.ntmps13
    go_wp2_with fail
    refine rt.mono ?_
    rintro e w1 ⟨rfl, c1⟩
    have B1 := B0.trans (c1.mono B0.size)
    clear rt c1
    go_wp2
    go_ret2
    exact ⟨rfl, B1⟩
  · rw [hk] at rt
    have HK := Lib.hid hk
    have SZ := Lib.hid (fun (w1 : World) (b : Below w.heap.size w w1) => refSize_any ((HN.out.below b).more b.size) (okN_ok hk))
    have EN := Lib.hid (fun (w1 : World) (b : Below w.heap.size w w1) => refEncode_any ((HN.out.below b).more b.size) hk)
    have hle := sizN_le hk
    have hw : IntKind.i64.wrap (sizN n : Nat) = (sizN n : Nat) := wrap_small (by omega) (by omega)
    rw [hw] at SZ
    by_cases hb : 160 < sizN n
    · have e1 : encE n = 14 := by unfold encE; rw [hk, if_pos rfl, if_pos hb]
      have e2 : encS n = ⟨#[]⟩ := by unfold encS; rw [hk, if_pos rfl, if_pos hb]
      rw [e1, e2]
      generalize sizN n = S at *
      clear hk e1 e2 hw
      go_enter Try.func13, Try.ntmps13
      go_wp2_with fail
      refine rt.mono ?_
      rintro e w1 ⟨rfl, c1⟩
      have b1 := Below.thenB b0 c1 s0
      obtain ⟨⟨q0, q1, q2, q3⟩, B1, s1⟩ := RB.out _ b1
      have sz := SZ.out _ B1
      clear rt c1
      go_wp2_with fail
      refine sz.mono ?_
      rintro e w2 ⟨rfl, c2⟩
      have B2 := B1.trans (c2.mono B1.size)
      clear sz c2
      go_wp2
      go_ret2
      exact ⟨rfl, B2⟩
    · have e1 : encE n = 0 := by unfold encE; rw [hk, if_pos rfl, if_neg hb]
      have e2 : encS n = strOf (encN n) := by unfold encS; rw [hk, if_pos rfl, if_neg hb]
      rw [e1, e2]
      generalize sizN n = S at *
      generalize strOf (encN n) = T at *
      clear hk e1 e2 hw
      go_enter Try.func13, Try.ntmps13
      go_wp2_with fail
      refine rt.mono ?_
      rintro e w1 ⟨rfl, c1⟩
      have b1 := Below.thenB b0 c1 s0
      obtain ⟨⟨q0, q1, q2, q3⟩, B1, s1⟩ := RB.out _ b1
      have sz := SZ.out _ B1
      clear rt c1
      go_wp2_with fail
      refine sz.mono ?_
      rintro e w2 ⟨rfl, c2⟩
      have b2 := Below.thenB b1 c2 s1
      obtain ⟨⟨q0, q1, q2, q3⟩, B2, s2⟩ := RB.out _ b2
      have en := EN.out _ B2
      clear sz c2
      go_wp2_with fail
      refine en.mono ?_
      rintro e w3 ⟨rfl, c3⟩
      have B3 := B2.trans (c3.mono B2.size)
      clear en c3
      go_wp2
      go_ret2
      exact ⟨rfl, B3⟩

/-! ### take -/
def tkN (s : ByteArray) : Nat := ((bts s).headD 0).toNat
def tkO (s : ByteArray) : Bool := decide (1 ≤ s.size) && decide (tkN s + 1 ≤ s.size)
def tkT (s : ByteArray) : ByteArray := if tkO s then s.extract 1 (1 + tkN s) else ⟨#[]⟩
def tkR (s : ByteArray) : ByteArray := if tkO s then s.extract (1 + tkN s) s.size else ⟨#[]⟩
theorem run_cut1 {s : ByteArray} {m : Nat} (h : m + 1 ≤ s.size) (w : World) : (Instr.sliceAt 9 (.string s) (some (.int .i64 1)) (some (.int .i64 (1 + m : Nat))) none).run Try.prog w = .ok (.string (s.extract 1 (1 + m))) w := by
  have e : (1 + (m : Int)).toNat = 1 + m := by omega
  simp [Instr.sliceAt, go_sem, run_underlying Try.underlying9]
  rw [if_pos ⟨by omega, by omega⟩, if_pos (by omega), e]
theorem run_cut2 {s : ByteArray} {m : Nat} (h : m + 1 ≤ s.size) (w : World) : (Instr.sliceAt 9 (.string s) (some (.int .i64 (1 + m : Nat))) none none).run Try.prog w = .ok (.string (s.extract (1 + m) s.size)) w := by
  have e : (1 + (m : Int)).toNat = 1 + m := by omega
  simp [Instr.sliceAt, go_sem, run_underlying Try.underlying9]
  rw [if_pos ⟨by omega, by omega⟩, e]
set_option maxHeartbeats 1600000 in
theorem takeRef_any (w : World) (s : ByteArray) (hs : s.size ≤ 1000) : Calls Try.prog 38 #[.string s] w fun e w' => e = .returned (.tuple #[.string (tkT s), .string (tkR s), .bool (tkO s)]) ∧ Below w.heap.size w w' := by
  by_cases h0 : s = ⟨#[]⟩
  · subst h0
    have e1 : tkO ⟨#[]⟩ = false := by decide
    have e2 : tkT ⟨#[]⟩ = ⟨#[]⟩ := by unfold tkT; rw [e1]; rfl
    have e3 : tkR ⟨#[]⟩ = ⟨#[]⟩ := by unfold tkR; rw [e1]; rfl
    rw [e1, e2, e3]
    clear e1 e2 e3
    go_enter Try.func38, Try.ntmps38
    go_wp2
    exact bodyPost_ret (v := .tuple #[.string ⟨#[]⟩, .string ⟨#[]⟩, .bool false]) (by simp [results, Try.results38, go_sem]) rfl ⟨rfl, Below.refl _ _⟩
  · have hne : s.toList ≠ [] := fun h => h0 (by rw [← strOf_bts s]; simp [bts, ← ByteArray.toList_eq, h, strOf])
    have hie : s.toList.isEmpty = false := by cases hq : s.toList with
      | nil => exact absurd hq hne
      | cons a r => rfl
    have h1 : 0 < s.size := by
      refine Nat.pos_of_ne_zero fun h => h0 ?_
      rw [← strOf_bts s, List.eq_nil_of_length_eq_zero ((bts_size s).trans h)]; rfl
    have hx0 : (s[0]'h1).toNat = tkN s := by
      unfold tkN bts
      obtain ⟨⟨l⟩⟩ := s
      cases l with
      | nil => simp [ByteArray.size] at h1
      | cons a r => rfl
    have hm := (show tkN s ≤ 255 by unfold tkN; have := ((bts s).headD 0).toNat_lt; omega)
    have hxx : wrap64 (((s[0]'h1).toNat : Nat) : Int) = ((tkN s : Nat) : Int) := by rw [hx0]; unfold wrap64; omega
    by_cases hk : tkN s + 1 ≤ s.size
    · have e1 : tkO s = true := by unfold tkO; rw [decide_eq_true (show 1 ≤ s.size from h1), decide_eq_true hk]; rfl
      have e2 : tkT s = s.extract 1 (1 + tkN s) := by unfold tkT; rw [e1]; rfl
      have e3 : tkR s = s.extract (1 + tkN s) s.size := by unfold tkR; rw [e1]; rfl
      rw [e1, e2, e3]
      generalize tkN s = m at *
      have hd : ¬ (s.size : Int) - 1 < wrap64 (((s[0]'h1).toNat : Nat) : Int) := by rw [hxx]; omega
      have ha : IntKind.i64.wrap (1 + wrap64 (((s[0]'h1).toNat : Nat) : Int)) = ((1 + m : Nat) : Int) := by rw [hxx, IntKind.wrap_i64]; omega
      have R1 := Lib.hid (fun (w' : World) => run_cut1 (s := s) (m := m) hk w')
      have R2 := Lib.hid (fun (w' : World) => run_cut2 (s := s) (m := m) hk w')
      clear e1 e2 e3 hx0 hxx
      go_enter Try.func38, Try.ntmps38
      go_wp2_with fail
      have hS := (Below.refl w.heap.size w).drew
      refine wp_region_held_drew (S := fun w' => Below w.heap.size w w') mixed hS (fun _ => ?_)
      show wpAnyH _ _ _ _ _ 11 (Array.replicate 11 false) _ _
      refine wpAnyH_take_d 0 (some 20) (.string s) rfl (by kernel_rfl) (by kernel_rfl) (by kernel_rfl) (by kernel_rfl) rfl (fun _ _ _ h => h) (fun _ _ => by kernel_rfl) (by exact hS) ?_
      simp only [Act.put, List.setIfInBounds_toArray, List.set_cons_succ, List.set_cons_zero]
      refine wpAnyH_take_d 1 (some 21) (.int .i64 (wrap64 (((s[0]'h1).toNat : Nat) : Int))) rfl (by kernel_rfl) (by kernel_rfl) (by kernel_rfl) (by kernel_rfl) rfl (fun _ _ _ h => h) (fun _ _ => by kernel_rfl) (by exact hS) ?_
      simp only [Act.put, List.setIfInBounds_toArray, List.set_cons_succ, List.set_cons_zero]
      refine wpAnyH_take_d 2 (some 22) (.int .i64 (1 + m : Nat)) rfl (by kernel_rfl) (by kernel_rfl) (by kernel_rfl) (by kernel_rfl) rfl (fun _ _ _ h => h) (fun _ _ => ex_add rfl rfl rfl ha) (by exact hS) ?_
      simp only [Act.put, List.setIfInBounds_toArray, List.set_cons_succ, List.set_cons_zero]
      refine wpAnyH_take_d 3 (some 23) (.string (s.extract 1 (1 + m))) rfl (by kernel_rfl) (by kernel_rfl) (by kernel_rfl) (by kernel_rfl) rfl (fun _ _ _ h => h) (fun w' _ => ex_slice rfl rfl rfl rfl (R1.out w')) (by exact hS) ?_
      simp only [Act.put, List.setIfInBounds_toArray, List.set_cons_succ, List.set_cons_zero]
      refine wpAnyH_take_d 4 (some 24) (.string s) rfl (by kernel_rfl) (by kernel_rfl) (by kernel_rfl) (by kernel_rfl) rfl (fun _ _ _ h => h) (fun _ _ => by kernel_rfl) (by exact hS) ?_
      simp only [Act.put, List.setIfInBounds_toArray, List.set_cons_succ, List.set_cons_zero]
      refine wpAnyH_take_d 5 (some 25) (.int .i64 (wrap64 (((s[0]'h1).toNat : Nat) : Int))) rfl (by kernel_rfl) (by kernel_rfl) (by kernel_rfl) (by kernel_rfl) rfl (fun _ _ _ h => h) (fun _ _ => by kernel_rfl) (by exact hS) ?_
      simp only [Act.put, List.setIfInBounds_toArray, List.set_cons_succ, List.set_cons_zero]
      refine wpAnyH_take_d 6 (some 26) (.int .i64 (1 + m : Nat)) rfl (by kernel_rfl) (by kernel_rfl) (by kernel_rfl) (by kernel_rfl) rfl (fun _ _ _ h => h) (fun _ _ => ex_add rfl rfl rfl ha) (by exact hS) ?_
      simp only [Act.put, List.setIfInBounds_toArray, List.set_cons_succ, List.set_cons_zero]
      refine wpAnyH_take_d 7 (some 27) (.string (s.extract (1 + m) s.size)) rfl (by kernel_rfl) (by kernel_rfl) (by kernel_rfl) (by kernel_rfl) rfl (fun _ _ _ h => h) (fun w' _ => ex_slice rfl rfl rfl rfl (R2.out w')) (by exact hS) ?_
      simp only [Act.put, List.setIfInBounds_toArray, List.set_cons_succ, List.set_cons_zero]
      refine wpAnyH_take_d 8 (some 2) (.string (s.extract 1 (1 + m))) rfl (by kernel_rfl) (by kernel_rfl) (by kernel_rfl) (by kernel_rfl) rfl (fun _ _ _ h => h) (fun _ _ => by kernel_rfl) (by exact hS) ?_
      simp only [Act.put, List.setIfInBounds_toArray, List.set_cons_succ, List.set_cons_zero]
      refine wpAnyH_take_d 9 (some 3) (.string (s.extract (1 + m) s.size)) rfl (by kernel_rfl) (by kernel_rfl) (by kernel_rfl) (by kernel_rfl) rfl (fun _ _ _ h => h) (fun _ _ => by kernel_rfl) (by exact hS) ?_
      simp only [Act.put, List.setIfInBounds_toArray, List.set_cons_succ, List.set_cons_zero]
      refine wpAnyH_take_d 10 (some 4) (.bool true) rfl (by kernel_rfl) (by kernel_rfl) (by kernel_rfl) (by kernel_rfl) rfl (fun _ _ _ h => h) (fun _ _ => by kernel_rfl) (by exact hS) ?_
      simp only [Act.put, List.setIfInBounds_toArray, List.set_cons_succ, List.set_cons_zero]
      refine wpAnyH_done (by kernel_rfl) ?_ _
      go_wp2
      exact bodyPost_ret (v := .tuple #[.string (s.extract 1 (1 + m)), .string (s.extract (1 + m) s.size), .bool true]) (by simp [results, Try.results38, go_sem]) rfl ⟨rfl, hS⟩
    · have e1 : tkO s = false := by unfold tkO; rw [decide_eq_false hk]; simp
      have e2 : tkT s = ⟨#[]⟩ := by unfold tkT; rw [e1]; rfl
      have e3 : tkR s = ⟨#[]⟩ := by unfold tkR; rw [e1]; rfl
      rw [e1, e2, e3]
      generalize tkN s = m at *
      have hd : (s.size : Int) - 1 < wrap64 (((s[0]'h1).toNat : Nat) : Int) := by rw [hxx]; omega
      clear e1 e2 e3 hx0 hxx
      go_enter Try.func38, Try.ntmps38
      go_wp2
      exact bodyPost_ret (v := .tuple #[.string ⟨#[]⟩, .string ⟨#[]⟩, .bool false]) (by simp [results, Try.results38, go_sem]) rfl ⟨rfl, Below.refl _ _⟩
end Go.Proofs.Ytjjdpclobkdbjaa
