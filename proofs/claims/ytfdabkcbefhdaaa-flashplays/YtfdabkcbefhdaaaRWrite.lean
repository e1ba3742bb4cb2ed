/- The contract of the document's Write. No statement of the seat is proved here. -/
import Derived.Test.YtfdabkcbefhdaaaRRead
import Derived.Test.YtfdabkcbefhdaaaFWrite
namespace Go.Proofs.Ytfdabkcbefhdaaa
set_option maxRecDepth 20000
open Go.RowKit

theorem OwnR.slv {α : Type} {E : El α} {base : Nat} {w : World} {v : Value} {l : List α} (h : OwnR E base w v l) : ∃ a n c, v = .slice a n c := by
  obtain ⟨_, _, rfl, _⟩ := h.form
  exact ⟨_, _, _, rfl⟩
theorem one_w {w : World} {g : Nat} {i : Int} {s : ByteArray} (hg : w.heap[g]? = some (.cells #[.int .i64 i, .string s] 75 (0, 0))) : SlAt elW w.heap.size w (.slice (some ⟨g, 0, none⟩) 1 1) [(i, s)] := by
  refine ⟨_, 1, rfl, Nat.le_refl _, by show 1 * 24 ≤ _; omega, fun _ => ⟨g, 0, rfl, lt_of_heap hg, fun j u hj => ?_⟩⟩
  rw [Nat.zero_add]
  match j, hj with
  | 0, hj => simp [cells] at hj; subst hj; rw [cell_of_row _ _ _ _ _ _ hg]; rfl
  | 1, hj => simp [cells] at hj; subst hj; rw [cell_of_row _ _ _ _ _ _ hg]; rfl
/-- one more write waits -/
theorem RDevAt.push {B : Nat} {w : World} {rb : Nat} {d : Dev} (h : RDevAt B w rb d) (i : Int) {bs : List UInt8} (hi : 0 ≤ i ∧ i < d.size) (hbs : bs.length = 256) (hlen : d.waits.length < 1000000) (hB : B ≤ w.heap.size) :
    ∃ wa wc a n c w7 u, w.cell? ⟨rb, 2, none⟩ = some (.slice wa d.waits.length wc) ∧
      (Builtin.append_ #[45, 45] 45 #[.slice wa d.waits.length wc, .slice (some ⟨w.heap.size, 0, none⟩) 1 1]).run Try.prog (w.alloc (.cells #[.int .i64 i, .string ⟨bs.toArray⟩] 75)) = .ok (.slice a n c) w7 ∧
      w7.cell? ⟨rb, 2, none⟩ = some u ∧ w7.frozen? ⟨rb, 2, none⟩ = false ∧ RDevAt B (w7.setCell ⟨rb, 2, none⟩ (.slice a n c)) rb { d with waits := d.waits ++ [(i, bs)] } ∧ Fr RK B w (w7.setCell ⟨rb, 2, none⟩ (.slice a n c)) := by
  obtain ⟨ok, ge, lv, tv, wv, L, T, h1, h2, h3, h4, h5⟩ := h
  have ew : (waitsR d).length = d.waits.length := List.length_map _
  obtain ⟨wa, wc, rfl, hwc, -⟩ := h5.form
  rw [ew] at h1 h5
  have g1 := heap_alloc_new w (.cells #[.int .i64 i, .string ⟨bs.toArray⟩] 75)
  have b2 : Below w.heap.size w (w.alloc (.cells #[.int .i64 i, .string ⟨bs.toArray⟩] 75)) := (Below.refl _ _).alloc (Nat.le_refl _) _
  obtain ⟨v', w7, hr, o7, b7, s7, gr⟩ := own_app okW (h5.below b2) (one_w g1) (by rw [ew]; show (_ + 1) * 24 ≤ _; omega) (Nat.le_trans hB b2.size) 45
  obtain ⟨a, n, c, rfl⟩ := o7.slv
  -- what is of another kind stands
  have own2 : ∀ (k : Nat) cs t fz, w.heap[k]? = some (.cells cs t fz) → t ≠ 75 → w7.heap[k]? = some (.cells cs t fz) := fun k cs t fz hk ht => by
    have hk2 := (b2.block k (lt_of_heap hk)).trans hk
    refine (gr.1 k (lt_of_heap hk2) fun e => ?_).trans hk2
    rcases (h5.below b2).2 with ⟨hv, -⟩ | ⟨g, cap, cur, hv, -, hh, -⟩
    · rw [hv] at e; cases e
    · rw [hv] at e
      have e : k = g := by simpa [Value.ownBlock] using e
      rw [e, hh] at hk2
      injection hk2 with e1
      injection e1 with _ e2 _
      exact ht e2.symm
  have hd7 := own2 _ _ _ _ h1 (by decide)
  have hk8 : ∀ (k : Nat) cs t, t ≠ 47 → w7.heap[k]? = some (.cells cs t (0, 0)) → (w7.setCell ⟨rb, 2, none⟩ (.slice a n c)).heap[k]? = some (.cells cs t (0, 0)) := fun k cs t ht hk => by
    rw [Below.heap_setCell _ _ _ _ (by rintro rfl; rw [hd7] at hk; injection hk with e; injection e with _ e _; exact ht e.symm)]; exact hk
  have hs := heap_setCell_same w7 rb 2 _ _ (.slice a n c) hd7
  have f7 : Fr RK B w w7 := ⟨b7.os.trans b2.os, b7.tape.trans b2.tape, b7.output.trans b2.output, Nat.le_trans b2.size s7, fun k o hk hko => by
    have hk2 := (b2.block k (lt_of_heap hk)).trans hk
    refine (gr.1 k (lt_of_heap hk2) fun e => ?_).trans hk2
    rcases (h5.below b2).2 with ⟨hv, -⟩ | ⟨g, cap, cur, hv, hg, hh, -⟩
    · rw [hv] at e; cases e
    · rw [hv] at e
      have e : k = g := by simpa [Value.ownBlock] using e
      rcases hko with hko | hko
      · omega
      · rw [e, hh] at hk2
        injection hk2 with e1
        rw [← e1] at hko
        cases hko⟩
  refine ⟨wa, wc, a, n, c, w7, _, by rw [cell_of_row _ _ _ _ _ _ h1]; rfl, hr, by rw [cell_of_row _ _ _ _ _ _ hd7]; rfl, by simp [World.frozen?, hd7], ?_, f7.setCell hd7 ge rfl _⟩
  refine ⟨⟨ok.1, ok.2, fun p hp => ?_, fun p hp => ?_, ok.5⟩, ge, lv, tv, .slice a n c, L, T, hs, ⟨h2.len, h2.lenT, h2.torn, h2.last⟩, ?_, ?_, ?_⟩
  · rcases List.mem_append.1 hp with hp | hp
    · exact ok.3 p hp
    · rw [List.mem_singleton.1 hp]; exact hi
  · rcases List.mem_append.1 hp with hp | hp
    · exact ok.4 p hp
    · rw [List.mem_singleton.1 hp]; exact hbs
  · exact ownsRow_of_row (ownsRow_of_row h3 (fun k cs hk => own2 k cs _ _ hk (by decide))) (fun k cs => hk8 k cs _ (by decide))
  · exact ownsRow_of_row (ownsRow_of_row h4 (fun k cs hk => own2 k cs _ _ hk (by decide))) (fun k cs => hk8 k cs _ (by decide))
  · have e : waitsR { d with waits := d.waits ++ [(i, bs)] } = waitsR d ++ [(i, ⟨bs.toArray⟩)] := by unfold waitsR; rw [List.map_append]; rfl
    rw [e]
    exact ownsRow_of_row o7 (fun k cs => hk8 k cs _ (by decide))
set_option maxHeartbeats 1600000 in
theorem rwrite_any {B : Nat} {w : World} {rb : Nat} {d : Dev} (h : RDevAt B w rb d) (i : Int) (bs : List UInt8) (hlen : d.waits.length < 1000000) (hB : B ≤ w.heap.size) :
    Calls Try.prog 31 #[.pointer (some ⟨rb, 0, none⟩), .int .i64 i, .string ⟨bs.toArray⟩] w fun e w' => e = .returned (.int .i64 (d.write i bs).1) ∧ RDevAt B w' rb (d.write i bs).2 ∧ Fr RK B w w' := by
  obtain ⟨la, lc, ta, tc, wa, wc, L, T, c0, -, -, -, -, -, -⟩ := h.all
  have HH := Lib.hid h
  have esz : (⟨bs.toArray⟩ : ByteArray).size = bs.length := by simp [ByteArray.size]
  obtain ⟨S, hS⟩ : ∃ S : ByteArray, ⟨bs.toArray⟩ = S := ⟨_, rfl⟩
  have HSS := Lib.hid hS
  rw [hS] at esz ⊢
  by_cases hh : d.has i = true
  · have hi2 : 0 ≤ i ∧ i < d.size := by simpa [Dev.has] using hh
    have e1 : ¬ (i < 0) := by omega
    have e2 : ¬ ((d.size : Int) ≤ i) := by omega
    have HI := Lib.hid hi2
    by_cases hl : bs.length = 256
    · have e3 : ((S.size : Int) != 256) = false := by rw [esz, hl]; rfl
      have hsp := rspend_any h
      by_cases hs : d.spend.1 = true
      · have HW : Hid (d.write i bs = (0, { d.spend.2 with waits := d.spend.2.waits ++ [(i, bs)] })) := by unfold Dev.write; rw [if_neg (by simp [hh, hl]), if_neg (by simp [hs])]; exact rfl
        rw [hs] at hsp
        have HL := Lib.hid hl
        have HN := Lib.hid hlen
        clear h hS hh hi2 hl hs hlen esz
        go_enter Try.func31, Try.ntmps31
        go_wp2_with fail
        refine hsp.mono ?_
        rintro e w1 ⟨rfl, r1, f1⟩
        have hw := spend_waits d
        obtain ⟨wa, wc, a, n, c, w7, u, k2, hr, k7, f7, r8, fr8⟩ := r1.push i (bs := bs) (by rw [hw.2.1]; exact HI.out) HL.out (by rw [hw.1]; exact HN.out) (Nat.le_trans hB f1.size)
        rw [HSS.out] at hr
        have HR := Lib.hid hr
        have FIN := Lib.hid (And.intro r8 (f1.trans fr8))
        have bw : ∀ w' : World, (Instr.build 75 #[(0, .int .i64 i), (1, .string S)]).run Try.prog w' = .ok (.agg #[.int .i64 i, .string S]) w' := fun w' => run_build w' 75 _ _ (by kernel_rfl)
        have bw1 := bw w1
        obtain ⟨M, hM⟩ : ∃ M, d.spend.2.waits.length = M := ⟨_, rfl⟩
        rw [hM] at k2 HR
        clear hsp c0 e1 e2 e3 hw r1 f1 r8 fr8 hr bw hM HH
        go_wp2_with (with_reducible refine wpList_append_own rfl (.tmp 30) (.tmp 34) 45 45 rfl (.slice wa M wc) (.slice (some ⟨w1.heap.size, 0, none⟩) 1 1) (.slice a n c) rfl rfl HR.out ?_)
        go_ret
        exact ⟨by rw [HW.out]; rfl, by rw [HW.out]; exact FIN.out.1, FIN.out.2⟩
      · have hs' : d.spend.1 = false := by simpa using hs
        have HW : Hid (d.write i bs = (4, d.spend.2)) := by unfold Dev.write; rw [if_neg (by simp [hh, hl]), if_pos hs']; exact rfl
        rw [hs'] at hsp
        clear h hS hh hi2 hl hs hs' hlen esz HH
        go_enter Try.func31, Try.ntmps31
        go_wp2_with fail
        refine hsp.mono ?_
        rintro e w1 ⟨rfl, r1, f1⟩
        have FIN := Lib.hid (And.intro r1 f1)
        clear hsp c0 e1 e2 e3 r1 f1
        go_wp2
        go_ret
        exact ⟨by rw [HW.out]; rfl, by rw [HW.out]; exact FIN.out.1, FIN.out.2⟩
    · have e3 : ((S.size : Int) != 256) = true := by rw [esz, bne_iff_ne]; omega
      have HW : Hid (d.write i bs = (1, d)) := by unfold Dev.write; rw [if_pos (Or.inr hl)]; exact rfl
      clear h hS hh hi2 hl hlen esz
      go_enter Try.func31, Try.ntmps31
      go_wp2
      go_ret
      exact ⟨by rw [HW.out]; rfl, by rw [HW.out]; exact HH.out, Fr.refl _ _ _⟩
  · have hh' : d.has i = false := by simpa using hh
    have HW : Hid (d.write i bs = (1, d)) := by unfold Dev.write; rw [if_pos (Or.inl hh')]; exact rfl
    have hi2 : ¬ (0 ≤ i ∧ i < d.size) := by simpa [Dev.has] using hh
    clear h hS hh hh' hlen esz
    by_cases h1 : i < 0
    · go_enter Try.func31, Try.ntmps31
      go_wp2
      go_ret
      exact ⟨by rw [HW.out]; rfl, by rw [HW.out]; exact HH.out, Fr.refl _ _ _⟩
    · have h2 : (d.size : Int) ≤ i := by omega
      clear hi2
      go_enter Try.func31, Try.ntmps31
      go_wp2
      go_ret
      exact ⟨by rw [HW.out]; rfl, by rw [HW.out]; exact HH.out, Fr.refl _ _ _⟩
end Go.Proofs.Ytfdabkcbefhdaaa
