/- The contracts of what must be of a record. No statement of the seat is proved here. -/
import Derived.Test.YtmkomhdlcbimoaaRUn
namespace Go.Proofs.Ytmkomhdlcbimoaa
set_option maxRecDepth 20000
open Go.RowKit

/-! ### what must be -/
abbrev superV (g e t : Int) : Value := .agg #[.int .i64 g, .int .i64 e, .int .i64 t]
abbrev logVal (l : Lg) : Value := .agg #[.int .i64 l.kind, .int .i64 l.epoch, .int .i64 l.seq, .int .i64 l.tx, .int .i64 l.index, .int .i64 l.count, .int .i64 l.page, .string l.data]
abbrev homeV (p : Int) (d : ByteArray) : Value := .agg #[.int .i64 p, .string d]
theorem size_alloc (w : World) (o : Obj) : (w.alloc o).heap.size = w.heap.size + 1 := by simp
set_option maxHeartbeats 800000 in
theorem superFormed_any (g e t : Int) (w : World) : Calls Try.prog 30 #[superV g e t] w fun x w' => x = .returned (.bool (superOk g e t)) ∧ Below w.heap.size w w' := by
  have hi := intc_new (w.alloc (.cells #[.int .i64 g, .int .i64 e, .int .i64 t] 23)) [g, e, t] (by simp)
  have hf := fromNought_any hi
  have he : allNat [g, e, t] = superOk g e t := by simp [allNat, superOk]
  rw [he, size_alloc] at hf
  clear he hi
  go_enter Try.func30, Try.ntmps30
  go_wp2_with fail
  refine Calls.mono hf ?_
  rintro e _ ⟨rfl, rfl⟩
  go_wp2
  go_ret
  exact ⟨rfl, (below_new w _).trans ((below_new _ _).mono (by simp))⟩
set_option maxHeartbeats 800000 in
theorem homeFormed_any (p : Int) (d : ByteArray) (hd : d.size ≤ maxLen) (w : World) : Calls Try.prog 35 #[homeV p d] w fun x w' => x = .returned (.bool (homeOk p d)) ∧ Below w.heap.size w w' := by
  unfold maxLen at hd
  by_cases h1 : 0 ≤ p
  · by_cases h2 : (d.size : Int) ≤ 160
    · have he : homeOk p d = true := by unfold homeOk; rw [decide_eq_true]; omega
      rw [he]
      clear he
      go_enter Try.func35, Try.ntmps35
      go_wp2
      go_ret
      exact ⟨rfl, below_new w _⟩
    · have he : homeOk p d = false := by unfold homeOk; rw [decide_eq_false]; omega
      rw [he]
      clear he
      go_enter Try.func35, Try.ntmps35
      go_wp2
      go_ret
      exact ⟨rfl, below_new w _⟩
  · have he : homeOk p d = false := by unfold homeOk; rw [decide_eq_false]; omega
    rw [he]
    clear he
    go_enter Try.func35, Try.ntmps35
    go_wp2
    go_ret
    exact ⟨rfl, below_new w _⟩
theorem strempty_eq (d : ByteArray) : d.toList.isEmpty = decide (d.size = 0) := by
  by_cases h : d.size = 0
  · rw [(size_list d).2 h, decide_eq_true h]; rfl
  · rw [decide_eq_false h]
    have : d.toList ≠ [] := fun e => h ((size_list d).1 e)
    simpa using this
set_option maxHeartbeats 1600000 in
theorem logFormed_any (l : Lg) (hl : l.ok) (w : World) : Calls Try.prog 33 #[logVal l] w fun x w' => x = .returned (.bool (logOk l)) ∧ Below w.heap.size w w' := by
  obtain ⟨_, _, _, _, _, _, _, hd⟩ := hl
  unfold maxLen at hd
  obtain ⟨a, b, c, d, e, f, g, s⟩ := l
  have hi := intc_new (w.alloc (.cells #[.int .i64 a, .int .i64 b, .int .i64 c, .int .i64 d, .int .i64 e, .int .i64 f, .int .i64 g, .string s] 25)) [b, c, d, e, f, g] (by simp)
  have hf := fromNought_any hi
  have BB : Below w.heap.size w ((w.alloc (.cells #[.int .i64 a, .int .i64 b, .int .i64 c, .int .i64 d, .int .i64 e, .int .i64 f, .int .i64 g, .string s] 25)).alloc (.cells #[.int .i64 b, .int .i64 c, .int .i64 d, .int .i64 e, .int .i64 f, .int .i64 g] 3)) := (below_new w _).trans ((below_new _ _).mono (by simp))
  rw [size_alloc] at hf
  clear hi
  by_cases h1 : 0 ≤ b ∧ 0 ≤ c ∧ 0 ≤ d ∧ 0 ≤ e ∧ 0 ≤ f ∧ 0 ≤ g
  · have hx : allNat [b, c, d, e, f, g] = true := by simp only [allNat, List.all_cons, List.all_nil, Bool.and_true, Bool.and_eq_true, decide_eq_true_eq]; omega
    rw [hx] at hf
    clear hx
    by_cases h2 : a = 1
    · subst h2
      by_cases h3 : (s.size : Int) ≤ 160
      · have hz := decide_eq_true h3
        have he : logOk ⟨1, b, c, d, e, f, g, s⟩ = true := by unfold logOk; rw [decide_eq_true]; exact ⟨h1, .inl ⟨rfl, by simp only; omega⟩⟩
        rw [he]
        clear he h1
        go_enter Try.func33, Try.ntmps33
        go_wp2_with fail
        refine Calls.mono hf ?_
        rintro e _ ⟨rfl, rfl⟩
        clear hf
        go_wp2
        go_ret
        exact ⟨by first | rfl | (rw [hz]; rfl), BB⟩
      · have hz := decide_eq_false h3
        have he : logOk ⟨1, b, c, d, e, f, g, s⟩ = false := by unfold logOk; rw [decide_eq_false]; simp only; omega
        rw [he]
        clear he h1
        go_enter Try.func33, Try.ntmps33
        go_wp2_with fail
        refine Calls.mono hf ?_
        rintro e _ ⟨rfl, rfl⟩
        clear hf
        go_wp2
        go_ret
        exact ⟨by first | rfl | (rw [hz]; rfl), BB⟩
    · have h2' : (a == 1) = false := by simpa using h2
      by_cases h3 : a = 2
      · subst h3
        by_cases h4 : g = 0
        · subst h4
          have hs := strempty_eq s
          by_cases h5 : s.size = 0
          · have he : logOk ⟨2, b, c, d, e, f, 0, s⟩ = true := by unfold logOk; rw [decide_eq_true]; exact ⟨h1, .inr ⟨rfl, rfl, h5⟩⟩
            rw [he]
            rw [decide_eq_true h5] at hs
            clear he h1 h5
            go_enter Try.func33, Try.ntmps33
            go_wp2_with fail
            refine Calls.mono hf ?_
            rintro e _ ⟨rfl, rfl⟩
            clear hf
            go_wp2
            go_ret
            exact ⟨by first | rfl | (rw [hs]; rfl), BB⟩
          · have he : logOk ⟨2, b, c, d, e, f, 0, s⟩ = false := by unfold logOk; rw [decide_eq_false]; simp only; omega
            rw [he]
            rw [decide_eq_false h5] at hs
            clear he h1 h5
            go_enter Try.func33, Try.ntmps33
            go_wp2_with fail
            refine Calls.mono hf ?_
            rintro e _ ⟨rfl, rfl⟩
            clear hf
            go_wp2
            go_ret
            exact ⟨by first | rfl | (rw [hs]; rfl), BB⟩
        · have he : logOk ⟨2, b, c, d, e, f, g, s⟩ = false := by unfold logOk; rw [decide_eq_false]; simp only; omega
          rw [he]
          have h4' : (g == 0) = false := by simpa using h4
          clear he h1 h4
          go_enter Try.func33, Try.ntmps33
          go_wp2_with fail
          refine Calls.mono hf ?_
          rintro e _ ⟨rfl, rfl⟩
          clear hf
          go_wp2
          go_ret
          exact ⟨rfl, BB⟩
      · have h3' : (a == 2) = false := by simpa using h3
        have he : logOk ⟨a, b, c, d, e, f, g, s⟩ = false := by unfold logOk; rw [decide_eq_false]; simp only; omega
        rw [he]
        clear he h1 h2 h3
        go_enter Try.func33, Try.ntmps33
        go_wp2_with fail
        refine Calls.mono hf ?_
        rintro e _ ⟨rfl, rfl⟩
        clear hf
        go_wp2
        go_ret
        exact ⟨rfl, BB⟩
  · have hx : allNat [b, c, d, e, f, g] = false := by
      rw [← Bool.not_eq_true]
      simp only [allNat, List.all_cons, List.all_nil, Bool.and_true, Bool.and_eq_true, decide_eq_true_eq]; omega
    rw [hx] at hf
    have he : logOk ⟨a, b, c, d, e, f, g, s⟩ = false := by unfold logOk; rw [decide_eq_false]; simp only; omega
    rw [he]
    clear he hx h1
    go_enter Try.func33, Try.ntmps33
    go_wp2_with fail
    refine Calls.mono hf ?_
    rintro e _ ⟨rfl, rfl⟩
    clear hf
    go_wp2
    go_ret
    exact ⟨rfl, BB⟩
end Go.Proofs.Ytmkomhdlcbimoaa
