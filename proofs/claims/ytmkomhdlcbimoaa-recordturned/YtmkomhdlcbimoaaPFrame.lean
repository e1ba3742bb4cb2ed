/- The contracts of pack.Frame and pack.Unframe. No statement of the seat is proved here. -/
import Derived.Test.YtmkomhdlcbimoaaPSeal
namespace Go.Proofs.Ytmkomhdlcbimoaa
set_option maxRecDepth 20000
open Go.RowKit

def zerosV (n : Nat) : List Value := List.replicate n (.int .u8 0)
theorem zerosV_cells (n : Nat) : zerosV n = cellsB (List.replicate n 0) := by
  unfold zerosV cellsB; rw [List.map_replicate]; rfl
theorem zeroCells_list (n : Nat) : (Builtin.zeroCells (Value.int .u8 0).cells n).toList = zerosV n := by
  have hz : (Value.int IntKind.u8 0).cells = #[.int .u8 0] := rfl
  rw [hz]
  unfold Builtin.zeroCells zerosV
  apply List.ext_getElem
  · simp
  · intro i h1 h2
    simp [Nat.mod_one]
theorem zeroCells_eq (n : Nat) : Builtin.zeroCells (Value.int .u8 0).cells n = (zerosV n).toArray := by
  rw [← zeroCells_list]
theorem zerosV_length (n : Nat) : (zerosV n).length = n := by simp [zerosV]
theorem zerosV_one (n : Nat) : ∀ u ∈ zerosV n, u.oneCell' = true := by
  intro u hu
  rw [(List.mem_replicate.1 hu).2]; rfl
/-- 'append(v, make([]byte, n)...)' onto bytes of one's own -/
theorem own_zeros {base : Nat} {w : World} {v : Value} {bs : List UInt8} (h : OwnB base w v bs) (n : Nat) (hlen : bs.length + n ≤ 140737488355328) (hb : base ≤ w.heap.size) (ty : TypeId) :
    ∃ v' w', (Builtin.append_ #[36, 3] ty #[v, .int .i64 n]).run Try.prog w = .ok v' w' ∧ OwnB base w' v' (bs ++ List.replicate n 0) ∧ Below base w w' ∧ w.heap.size ≤ w'.heap.size := by
  obtain ⟨i, hi, hi0, hi1, hi2⟩ := info5'
  have ht := Try.underlying36
  have hu := Try.underlying3
  have hwn : IntKind.i64.wrap (n : Int) = n := by rw [IntKind.wrap_i64]; omega
  have hcs : cellsB (bs ++ List.replicate n 0) = cellsB bs ++ zerosV n := by rw [zerosV_cells]; simp [cellsB]
  have hll : (cellsB bs ++ zerosV n).length = (bs.length + n) * 1 := by rw [List.length_append, cellsB_length, zerosV_length, Nat.mul_one]
  have hneg : ¬ ((n : Int) < 0) := by omega
  have hbig : ¬ (281474976710656 < (n : Int)) := by omega
  have fin : ∀ v' w' row, w'.ownsRow base 5 1 v' (bs.length + n) (cellsB bs ++ zerosV n) → w.grownBy w' row → (∀ k, row = some k → base ≤ k) → OwnB base w' v' (bs ++ List.replicate n 0) ∧ Below base w w' ∧ w.heap.size ≤ w'.heap.size := fun v' w' row ho hg hr => by
    refine ⟨?_, (Below.refl _ _).grown hg hb hr, hg.size⟩
    unfold OwnB
    rw [List.length_append, List.length_replicate, hcs]; exact ho
  by_cases h0 : n = 0
  · subst h0
    obtain ⟨ao, cap, hv, hc1, _⟩ := h.form
    refine ⟨v, w, ?_, by simpa using h, Below.refl _ _, Nat.le_refl _⟩
    subst hv
    cases ao <;> simp [Builtin.append_, run_underlying ht, run_underlying hu, sizeOf, typeInfo, hi, hi1, asInt, asIntOf, hc1, storeCells, Result.andThen, IntKind.wrap_i64]
  · have hn0 : ¬ (n * 1 = 0) := by omega
    rcases h.2 with ⟨hv, hlz⟩ | ⟨g, cap, cur, hv, hbg, hg, hnc, hcm, hcs', htake⟩
    · have hbs : bs = [] := List.eq_nil_of_length_eq_zero hlz
      subst hbs
      subst hv
      have hcap := grownCap_ge w n 0 5
      have hcm := grownCap_le_maxLen w n 0 5 (by unfold maxLen; omega)
      have h48 : ¬ (281474976710656 < Builtin.nextslicecap n 0) := by have := growslice_fits (need := n) (old := 0) (bytes := 1) (by omega) (by simpa using hlen); omega
      have h63 : ¬ (9223372036854775807 < (n : Int)) := by omega
      have hrun : (Builtin.append_ #[36, 3] ty #[.slice none 0 0, .int .i64 n]).run Try.prog w = .ok (.slice (some ⟨w.heap.size, 0, none⟩) n (grownCap w n 0 5)) (w.drew.alloc (.cells ((zerosV n).toArray ++ (zerosV (grownCap w n 0 5 - n)).toArray) 5)) := by
        simp [Builtin.append_, run_underlying ht, run_underlying hu, sizeOf, typeInfo, zeroValue, hi, hi0, hi1, hi2, asInt, asIntOf, hwn, hneg, hbig, h0, h63, h48, Question.forced, newRow, zeroCells_eq, Builtin.firstCells, grownCap]
      refine ⟨_, _, hrun, fin _ _ none ?_ ?_ (by simp)⟩
      · refine ⟨hll, .inr ⟨w.heap.size, _, _, by simp, hb, heap_alloc_new w.drew _, by simpa using hcap, hcm, ?_, ?_⟩⟩
        · simp [zerosV_length]; omega
        · simp [cellsB, zerosV_length]
      · exact ⟨rfl, rfl, rfl, by simp, fun k hk _ => Below.heap_alloc w.drew _ k hk⟩
    · subst hv
      have hcur : cur.size = cap := by simpa using hcs'
      by_cases hroom : bs.length + n ≤ cap
      · have hst := run_storeCells_at Try.prog g bs.length 5 (zerosV n) 0 cur w hg (by rw [zerosV_length]; omega) (zerosV_one n)
        simp only [Nat.add_zero, zerosV_length] at hst
        have hrun : (Builtin.append_ #[36, 3] ty #[.slice (some ⟨g, 0, none⟩) bs.length cap, .int .i64 n]).run Try.prog w = .ok (.slice (some ⟨g, 0, none⟩) (bs.length + n) cap) (w.setRow g (cur.toList.take bs.length ++ zerosV n ++ cur.toList.drop (bs.length + n)).toArray) := by
          simp [Builtin.append_, run_underlying ht, run_underlying hu, sizeOf, typeInfo, zeroValue, hi, hi0, hi1, hi2, asInt, asIntOf, hwn, hneg, hbig, h0, hroom, zeroCells_list, Addr.add_lit, hst]
        refine ⟨_, _, hrun, fin _ _ (some g) ?_ ?_ (by rintro k ⟨⟩; exact hbg)⟩
        · refine ⟨hll, .inr ⟨g, cap, _, rfl, hbg, setRow_heap w g cur _ _ _ hg, hroom, hcm, ?_, ?_⟩⟩
          · simp only [List.size_toArray, List.length_append, List.length_take, List.length_drop, Array.length_toList, zerosV_length]; omega
          · have ht' : cur.toList.take bs.length = cellsB bs := by simpa using htake
            rw [ht', ← hll]
            exact List.take_left
        · exact ⟨rfl, rfl, rfl, by simp, fun k _ hk => setRow_other w g k _ (fun e => hk (by simp [e]))⟩
      · have hcap := grownCap_ge w (bs.length + n) cap 5
        have hcm' := grownCap_le_maxLen w (bs.length + n) cap 5 (by unfold maxLen; omega)
        have h48 : ¬ (281474976710656 < Builtin.nextslicecap (bs.length + n) cap) := by have := growslice_fits (need := bs.length + n) (old := cap) (bytes := 1) (by omega) (by simpa using hlen); omega
        have h63 : ¬ (9223372036854775807 < (bs.length : Int) + n) := by omega
        have holds : ∀ j u, (cellsB bs)[j]? = some u → w.cell? ((⟨g, 0, none⟩ : Addr).add j) = some u := World.ownsRow.cells h (g := g) rfl
        have hfo := run_firstCells_some (P := Try.prog) w.drew 1 bs.length ⟨g, 0, none⟩ bs.length cap (cellsB bs) (by rw [cellsB_length, Nat.mul_one]) (by simpa using holds)
        have hrun : (Builtin.append_ #[36, 3] ty #[.slice (some ⟨g, 0, none⟩) bs.length cap, .int .i64 n]).run Try.prog w = .ok (.slice (some ⟨w.heap.size, 0, none⟩) (bs.length + n) (grownCap w (bs.length + n) cap 5)) (w.drew.alloc (.cells ((cellsB bs).toArray ++ (zerosV n).toArray ++ (zerosV (grownCap w (bs.length + n) cap 5 - (bs.length + n))).toArray) 5)) := by
          simp [Builtin.append_, run_underlying ht, run_underlying hu, sizeOf, typeInfo, zeroValue, hi, hi0, hi1, hi2, asInt, asIntOf, hwn, hneg, hbig, h0, hroom, h63, h48, Question.forced, newRow, zeroCells_eq, hfo, grownCap]
        refine ⟨_, _, hrun, fin _ _ none ?_ ?_ (by simp)⟩
        · refine ⟨hll, .inr ⟨w.heap.size, _, _, rfl, hb, heap_alloc_new w.drew _, hcap, hcm', ?_, ?_⟩⟩
          · simp [zerosV_length, cellsB_length]; omega
          · simp only [Array.toList_append, List.append_assoc]
            rw [← List.append_assoc, ← hll]
            exact List.take_left
        · exact ⟨rfl, rfl, rfl, by simp, fun k hk _ => Below.heap_alloc w.drew _ k hk⟩

/-- what a call that answers bytes of its own and an error leaves -/
def OwnRetE (base : Nat) (w : World) (bs : List UInt8) (er : Int) (e : Ending) (w' : World) : Prop := ∃ v', e = .returned (.tuple #[v', .int .i64 er]) ∧ OwnB base w' v' bs ∧ Below base w w'
def frameE (n : Nat) (size : Int) : Int := if size < 2 ∨ 60000 < size then 1 else if size - 2 < n then 14 else 0
def frameB (bs : List UInt8) (size : Int) : List UInt8 := low bs.length 2 ++ bs ++ List.replicate (size.toNat - (2 + bs.length)) 0
def frameR (bs : List UInt8) (size : Int) : List UInt8 := if frameE bs.length size = 0 then frameB bs size else []
set_option maxHeartbeats 800000 in
theorem frame_any {w : World} {v : Value} {bs : List UInt8} (h : ByC w v bs) (size : Int) : Calls Try.prog 54 #[v, .int .i64 size] w (OwnRetE w.heap.size w (frameR bs size) (frameE bs.length size)) := by
  obtain ⟨ao, m, cap, hv, hm⟩ : ∃ ao m cap, v = .slice ao m cap ∧ Hid (m = bs.length) := by
    obtain ⟨ao, cap, hv, _⟩ := h
    exact ⟨ao, _, cap, hv, Lib.hid rfl⟩
  have hmb : m ≤ 9223372036854775807 := by rw [hm.out]; obtain ⟨_, _, _, hh⟩ := h.form; exact hh
  by_cases c1 : size < 2
  · have e0 : frameE bs.length size = 1 := by unfold frameE; rw [if_pos (.inl c1)]
    unfold frameR; rw [e0, if_neg (by decide)]
    clear e0
    subst hv
    go_enter Try.func54, Try.ntmps54
    go_wp2
    go_ret2
    exact ⟨_, rfl, OwnB.nil _ _, Below.refl _ _⟩
  · by_cases c2 : 60000 < size
    · have e0 : frameE bs.length size = 1 := by unfold frameE; rw [if_pos (.inr c2)]
      unfold frameR; rw [e0, if_neg (by decide)]
      clear e0
      subst hv
      go_enter Try.func54, Try.ntmps54
      go_wp2
      go_ret2
      exact ⟨_, rfl, OwnB.nil _ _, Below.refl _ _⟩
    · by_cases c3 : size - 2 < (m : Int)
      · have e0 : frameE bs.length size = 14 := by unfold frameE; rw [if_neg (by omega), if_pos (by rw [← hm.out]; exact c3)]
        unfold frameR; rw [e0, if_neg (by decide)]
        clear e0
        subst hv
        go_enter Try.func54, Try.ntmps54
        go_wp2
        go_ret2
        exact ⟨_, rfl, OwnB.nil _ _, Below.refl _ _⟩
      · have e0 : frameE bs.length size = 0 := by unfold frameE; rw [if_neg (by omega), if_neg (by rw [← hm.out]; exact c3)]
        unfold frameR; rw [e0, if_pos rfl]
        clear e0
        obtain ⟨S, rfl⟩ := Int.eq_ofNat_of_zero_le (show 0 ≤ size by omega)
        have hS : S ≤ 60000 := by omega
        have hmS : m + 2 ≤ S := by omega
        have hbl : bs.length + 2 ≤ S := by rw [← hm.out]; exact hmS
        obtain ⟨i, hi, hi0, hi1, hi2⟩ := info5'
        obtain ⟨w1, hmk, hown, hg1⟩ := run_make_own (P := Try.prog) w w.heap.size 36 5 i (.int .u8 0) 1 Try.underlying36 hi hi0 hi1 .i64 .i64 S (by rw [hi2]; omega) (by unfold maxLen; omega) (Nat.le_refl _)
        have b1 : Below w.heap.size w w1 := (Below.refl _ _).grown hg1 (Nat.le_refl _) (by simp)
        have hown' : OwnB w.heap.size w1 (.slice (some ⟨w.heap.size, 0, none⟩) 0 S) [] := hown
        have hl := appendLow_any hown' m 2 (by decide) b1.size (by decide)
        have hw : IntKind.u64.wrap ((m : Nat) : Int) = m := wrap_nat _ (by omega)
        clear hown hown' hg1 hi hi0 hi1 hi2 c1 c2 c3
        subst hv
        go_enter Try.func54, Try.ntmps54
        go_wp2_with fail
        refine hl.mono ?_
        rintro e w2 ⟨v2, rfl, h2, b2, -⟩
        clear hl hmk
        obtain ⟨v3, w3, hr3, h3, b3, s3, -⟩ := own_append h2 (h.below (b1.trans b2)) (by simp [low_length]; omega) (Nat.le_trans b1.size b2.size) 36
        obtain ⟨v4, w4, hr4, h4, b4, s4⟩ := own_zeros h3 (S - (2 + m)) (by simp [low_length]; omega) (Nat.le_trans b1.size (Nat.le_trans b2.size s3)) 36
        have BB := ((b1.trans b2).trans b3).trans b4
        have hl3 : ([] ++ low m 2 ++ bs).length = 2 + m := by simp [low_length, hm.out]
        obtain ⟨ao2, m2, cap2, hv2, hm2⟩ := h2.form'
        subst hv2
        obtain ⟨ao3, cap3, hv3, _, _⟩ := h3.form
        rw [hl3] at hv3
        subst hv3
        obtain ⟨ao4, m4, cap4, hv4, hm4⟩ := h4.form'
        subst hv4
        have H4 : OwnB w.heap.size w4 (.slice ao4 m4 cap4) (frameB bs S) := by
          have e : frameB bs (S : Int) = [] ++ low m 2 ++ bs ++ List.replicate (S - (2 + m)) 0 := by
            unfold frameB; rw [List.nil_append, ← hm.out]; rfl
          rw [e]; exact h4
        have hsub : ((S - (2 + m) : Nat) : Int) = (S : Int) - (2 + (m : Int)) := by omega
        rw [hsub] at hr4
        have HR3 := Lib.hid hr3
        have HR4 := Lib.hid hr4
        clear hr3 hr4 b1 b2 b3 b4 s3 s4 h2 h3 h4 hl3 h
        go_wp2_with (first
          | (with_reducible refine wpList_append_eq rfl (.tmp 25) (.tmp 26) 36 36 rfl (.slice ao2 m2 cap2) (.slice ao m cap) (.slice ao3 (2 + m) cap3) rfl rfl HR3.out ?_)
          | (with_reducible refine wpList_append_eq rfl (.tmp 28) (.tmp 32) 36 3 rfl (.slice ao3 (2 + m) cap3) (.int .i64 ((S : Int) - (2 + (m : Int)))) (.slice ao4 m4 cap4) rfl rfl HR4.out ?_))
        go_ret2
        exact ⟨_, rfl, H4, BB⟩

/-! ### parts of a slice -/
theorem sliced_at {w : World} {ao : Option Addr} {n cap : Nat} {bs : List UInt8} (h : ByC w (.slice ao n cap) bs) (lo hi : Nat) (h1 : lo ≤ hi) (h2 : hi ≤ bs.length) (h3 : bs.length ≤ cap) : ByC w (sliced ao lo hi cap 1) ((bs.drop lo).take (hi - lo)) := by
  obtain ⟨ao', cap', hv, hl, hc⟩ := h
  cases hv
  have hlen : ((bs.drop lo).take (hi - lo)).length = hi - lo := by rw [List.length_take, List.length_drop]; omega
  unfold sliced
  refine ⟨_, _, by rw [hlen], by rw [hlen]; omega, fun h0 => ?_⟩
  rw [hlen] at h0
  obtain ⟨b, off, rfl, hat⟩ := hc (by omega)
  refine ⟨b, off + lo, ?_, fun i hi' => ?_⟩
  · rw [if_neg (by omega)]; simp [Addr.add_mid]
  · rw [hlen] at hi'
    rw [Nat.add_assoc, hat (lo + i) (by omega)]
    congr 2
    simp only [List.getD_eq_getElem?_getD]
    rw [List.getElem?_take, if_pos hi', List.getElem?_drop]
end Go.Proofs.Ytmkomhdlcbimoaa
