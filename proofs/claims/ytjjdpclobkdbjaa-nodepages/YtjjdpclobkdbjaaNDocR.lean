/- The contract of the document's Decode. No statement of the seat is proved here. -/
import Derived.Test.YtjjdpclobkdbjaaNDocRL
import Derived.Test.YtjjdpclobkdbjaaNBack
namespace Go.Proofs.Ytjjdpclobkdbjaa
set_option maxRecDepth 20000
open Go.RowKit

theorem KP.ownB {α : Type} {E : El α} {ws wr : World} {b nb : Nat} {v : Value} {l : List α} (h : KP ws nb nb wr) (hb : nb < b) (o : OwnR E b ws v l) : OwnR E b wr v l :=
  ownsRow_keep o fun k hk => h.kp k (World.ownsRow.lt o k hk).2 (by have := (World.ownsRow.lt o k hk).1; omega) (by have := (World.ownsRow.lt o k hk).1; omega)
theorem ex_b0 {P : Program} {w : World} {ρ : Operand → Value} {o : Oper} {t : TypeId} {x0 : Operand} {v0 v : Value} (ho : o.op = .build t #[(0, x0)]) (h0 : ρ x0 = v0) (hrun : (Instr.build t #[(0, v0)]).run P w = .ok v w) : (execOp ρ o).run P w = .ok (.value v) w := by
  unfold execOp
  simp [ho, h0, hrun]
theorem ex_alloc {P : Program} {w : World} {ρ : Operand → Value} {o : Oper} {ty : TypeId} {z : Array Value} (ho : o.op = .alloc ty) (hz : ∀ w, (zeroValue ty).run P w = .ok (.agg z) w) {g : Nat} (hg : w.heap.size = g) : (execOp ρ o).run P w = .ok (.value (.pointer (some ⟨g, 0, none⟩))) (w.alloc (.cells z ty)) := by
  subst hg
  unfold execOp
  simp [ho, Instr.alloc, newVar, newRow, Value.cells, hz, go_sem]
theorem zeroRn (w : World) : (zeroValue 26).run Try.prog w = .ok (.agg #[.bool false, .slice none 0 0, .slice none 0 0, .slice none 0 0]) w := (zero_of_info (n := 4) (by kernel_rfl)).1 w
set_option maxHeartbeats 12800000 in
set_option maxRecDepth 40000 in
theorem docDecode_any (w : World) (s : ByteArray) : Calls Try.prog 16 #[.string s] w (NdRet w (decN s)) := by
  have zr : (w.alloc zrO).heap[w.heap.size]? = some zrO := heap_alloc_new _ _
  have fr := below_new w zrO
  by_cases h2 : s.size < 2
  · have hbad : decN s = (.none, 2) := no_good fun m g => by have := (good_size g).1; omega
    have d2 : (s.size : Int) < 2 := by omega
    go_enter Try.func16, Try.ntmps16
    have bz := build_rzz (w.alloc zrO)
    go_wp2_with (with_reducible refine wpList_store_rn (a0 := w) (B := w.heap.size) rfl (.tmp 2) (.tmp 27) rfl w.heap.size false (.slice none 0 0) (.slice none 0 0) (.slice none 0 0) rfl rfl #[.bool false, .slice none 0 0, .slice none 0 0, .slice none 0 0] zr rfl (.mk _ _ _) (.mk _ _ _) (.mk _ _ _) fr (Nat.le_refl _) ?_)
    rintro w8 ⟨r0, r1, r2, r3⟩ - B2 -
    go_wp2
    exact bodyPost_ret (v := .tuple #[zNd, .int .i64 2]) (by simp [results, Try.results16, go_sem, r0, r1, r2, r3]) rfl (by rw [hbad]; exact zNd_ret rfl B2)
  · by_cases h3 : 160 < s.size
    · have hbad : decN s = (.none, 2) := no_good fun m g => by have := (good_size g).2; omega
      have d2 : ¬ (s.size : Int) < 2 := by omega
      have d3 : (160 : Int) < (s.size : Int) := by omega
      go_enter Try.func16, Try.ntmps16
      have bz := build_rzz (w.alloc zrO)
      go_wp2_with (with_reducible refine wpList_store_rn (a0 := w) (B := w.heap.size) rfl (.tmp 2) (.tmp 27) rfl w.heap.size false (.slice none 0 0) (.slice none 0 0) (.slice none 0 0) rfl rfl #[.bool false, .slice none 0 0, .slice none 0 0, .slice none 0 0] zr rfl (.mk _ _ _) (.mk _ _ _) (.mk _ _ _) fr (Nat.le_refl _) ?_)
      rintro w8 ⟨r0, r1, r2, r3⟩ - B2 -
      go_wp2
      exact bodyPost_ret (v := .tuple #[zNd, .int .i64 2]) (by simp [results, Try.results16, go_sem, r0, r1, r2, r3]) rfl (by rw [hbad]; exact zNd_ret rfl B2)
    · have d2 : ¬ (s.size : Int) < 2 := by omega
      have d3 : ¬ (160 : Int) < (s.size : Int) := by omega
      have hz := bts_size s
      obtain ⟨x, y, l, hs⟩ : ∃ x y l, bts s = x :: y :: l := by
        cases hq : bts s with
        | nil => rw [hq] at hz; simp at hz; omega
        | cons x t => cases t with
          | nil => rw [hq] at hz; simp at hz; omega
          | cons y l => exact ⟨x, y, l, rfl⟩
      have hr0 := rest2 hs
      have R0 := Lib.hid (fun (w' : World) => run_rest2 (s := s) (by omega) w')
      have hrs : (s.extract 2 s.size).size ≤ 160 := by simp; omega
      generalize s.extract 2 s.size = r0 at *
      subst hr0
      have hx0 : (bts s)[0]? = some x := by rw [hs]; rfl
      have hx1 : (bts s)[1]? = some y := by rw [hs]; rfl
      have hyy : IntKind.i64.wrap ((y.toNat : Nat) : Int) = ((y.toNat : Nat) : Int) := by have := y.toNat_lt; rw [IntKind.wrap_i64]; omega
      have hy255 : y.toNat ≤ 255 := by have := y.toNat_lt; omega
      obtain ⟨bx, hbx⟩ : ∃ b, (((x.toNat : Nat) : Int) == 1) = b := ⟨_, rfl⟩
      have hzz : (w.alloc zrO).drew.heap.size = w.heap.size + 1 := by show (w.alloc zrO).heap.size = _; simp
      have zr1 : (w.alloc zrO).drew.heap[w.heap.size]? = some zrO := zr
      have fr1 := fr.drew
      go_enter Try.func16, Try.ntmps16
      go_wp2_with fail
      have hS := True.intro
      refine wp_region_held_drew (S := fun _ => True) mixed hS (fun _ => ?_)
      generalize (w.alloc zrO).drew = W0 at *
      show wpAnyH _ _ _ _ _ 13 (Array.replicate 13 false) _ _
      refine wpAnyH_take_d 0 (some 28) (.string s) rfl (by kernel_rfl) (by kernel_rfl) (by kernel_rfl) (by kernel_rfl) rfl (fun _ _ _ h => h) (fun _ _ => by kernel_rfl) (by exact hS) ?_
      simp only [Act.put, List.setIfInBounds_toArray, List.set_cons_succ, List.set_cons_zero]
      refine wpAnyH_take_d 1 (some 29) (.int .u8 (x.toNat : Nat)) rfl (by kernel_rfl) (by kernel_rfl) (by kernel_rfl) (by kernel_rfl) rfl (fun _ _ _ h => h) (fun _ _ => ex_sidx rfl rfl rfl hx0) (by exact hS) ?_
      simp only [Act.put, List.setIfInBounds_toArray, List.set_cons_succ, List.set_cons_zero]
      refine wpAnyH_take_d 2 (some 30) (.bool bx) rfl (by kernel_rfl) (by kernel_rfl) (by kernel_rfl) (by kernel_rfl) rfl (fun _ _ _ h => h) (fun _ _ => ex_eq rfl rfl rfl hbx) (by exact hS) ?_
      simp only [Act.put, List.setIfInBounds_toArray, List.set_cons_succ, List.set_cons_zero]
      refine wpAnyH_take_d 3 (some 31) (.agg #[.bool bx, .slice none 0 0, .slice none 0 0, .slice none 0 0]) rfl (by kernel_rfl) (by kernel_rfl) (by kernel_rfl) (by kernel_rfl) rfl (fun _ _ _ h => h) (fun w' _ => ex_b0 rfl rfl (build_rlf bx w')) (by exact hS) ?_
      simp only [Act.put, List.setIfInBounds_toArray, List.set_cons_succ, List.set_cons_zero]
      refine wpAnyH_take_d 4 (some 32) (.string s) rfl (by kernel_rfl) (by kernel_rfl) (by kernel_rfl) (by kernel_rfl) rfl (fun _ _ _ h => h) (fun _ _ => by kernel_rfl) (by exact hS) ?_
      simp only [Act.put, List.setIfInBounds_toArray, List.set_cons_succ, List.set_cons_zero]
      refine wpAnyH_take_d 5 (some 33) (.int .u8 (y.toNat : Nat)) rfl (by kernel_rfl) (by kernel_rfl) (by kernel_rfl) (by kernel_rfl) rfl (fun _ _ _ h => h) (fun _ _ => ex_sidx rfl rfl rfl hx1) (by exact hS) ?_
      simp only [Act.put, List.setIfInBounds_toArray, List.set_cons_succ, List.set_cons_zero]
      refine wpAnyH_take_d 6 (some 34) (.int .i64 (y.toNat : Nat)) rfl (by kernel_rfl) (by kernel_rfl) (by kernel_rfl) (by kernel_rfl) rfl (fun _ _ _ h => h) (fun w' _ => ex_conv rfl rfl (run_c53 hyy w')) (by exact hS) ?_
      simp only [Act.put, List.setIfInBounds_toArray, List.set_cons_succ, List.set_cons_zero]
      refine wpAnyH_take_d 7 (some 35) (.string s) rfl (by kernel_rfl) (by kernel_rfl) (by kernel_rfl) (by kernel_rfl) rfl (fun _ _ _ h => h) (fun _ _ => by kernel_rfl) (by exact hS) ?_
      simp only [Act.put, List.setIfInBounds_toArray, List.set_cons_succ, List.set_cons_zero]
      refine wpAnyH_take_d 8 (some 36) (.string r0) rfl (by kernel_rfl) (by kernel_rfl) (by kernel_rfl) (by kernel_rfl) rfl (fun _ _ _ h => h) (fun w' _ => ex_slice rfl rfl rfl rfl (R0.out w')) (by exact hS) ?_
      simp only [Act.put, List.setIfInBounds_toArray, List.set_cons_succ, List.set_cons_zero]
      -- left: [(9, ('4', 'Op.alloc 26', None)), (10, ('none', 'Op.store 26 t4 t31', None)), (11, ('5', 'Op.assign t34', None)), (12, ('6', 'Op.assign t36', None))]
      refine wpAnyH_one (w1 := W0.alloc zrO) 9 (some 4) (.pointer (some ⟨w.heap.size + 1, 0, none⟩)) rfl (by kernel_rfl) (by kernel_rfl) rfl (ex_alloc rfl zeroRn hzz) trivial ?_
      simp only [Act.put, List.setIfInBounds_toArray]
      have hg1 : (W0.alloc zrO).heap[w.heap.size + 1]? = some zrO := by rw [← hzz]; exact heap_alloc_new _ _
      have zr2 : (W0.alloc zrO).heap[w.heap.size]? = some zrO := by rw [Below.heap_alloc _ _ _ (by omega)]; exact zr1
      have fr2 := fr1.alloc fr1.size zrO
      refine wpAnyH_skip1 10 rfl (by kernel_rfl) (by kernel_rfl) (ex_store_row rfl rfl rfl hg1 (by kernel_rfl) rfl (by simp [Value.oneCell'])) trivial ?_
      simp only [Act.put, List.setIfInBounds_toArray]
      have hS := True.intro
      refine wpAnyH_take_d 11 (some 5) (.int .i64 (y.toNat : Nat)) rfl (by kernel_rfl) (by kernel_rfl) (by kernel_rfl) (by kernel_rfl) rfl (fun _ _ _ h => h) (fun _ _ => by kernel_rfl) (by exact hS) ?_
      simp only [Act.put, List.set_cons_succ, List.set_cons_zero]
      refine wpAnyH_take_d 12 (some 6) (.string r0) rfl (by kernel_rfl) (by kernel_rfl) (by kernel_rfl) (by kernel_rfl) rfl (fun _ _ _ h => h) (fun _ _ => by kernel_rfl) (by exact hS) ?_
      simp only [Act.put]
      refine wpAnyH_done (by kernel_rfl) ?_ _
      have L : DI w bx (.slice none 0 0) (.slice none 0 0) (.slice none 0 0) ((W0.alloc zrO).setRow (w.heap.size + 1) #[.bool bx, .slice none 0 0, .slice none 0 0, .slice none 0 0]) := ⟨below_setRow' fr2 (by omega) _, by rw [setRow_other _ _ _ _ (by omega)]; exact zr2, setRow_heap _ _ _ _ _ _ hg1⟩
      generalize (W0.alloc zrO).setRow (w.heap.size + 1) #[.bool bx, .slice none 0 0, .slice none 0 0, .slice none 0 0] = W2 at *
      obtain ⟨q0, q1, q2, q3⟩ := L.cs
      clear hg1 zr2 fr2 zr1 fr1 hzz hx0 hx1 hyy R0 zr fr d2 d3
      have hs160 : s.size ≤ 160 := by omega
      cases bx
      · have hx1 : x ≠ 1 := fun h => by subst h; exact absurd hbx (by decide)
        clear hbx
        go_wp2
        clear q0 q1 q2 q3
        have hp0 := phi0 hs hx1
        go_loopw [6, 14] (fun sv iv wr => ∃ (k : Nat) (r : ByteArray) (acc : List Int) (va : Option Addr) (vm vc : Nat), k ≤ y.toNat ∧ iv = .int .i64 (k : Nat) ∧ sv = .string r ∧ Hid (PhI s k acc r ∧ acc.length = k ∧ r.size ≤ 160) ∧ DI w false (.slice none 0 0) (.slice none 0 0) (.slice va vm vc) wr ∧ OwnR elI (w.heap.size + 2) wr (.slice va vm vc) acc) (fun _ iv _ => y.toNat - (intOf iv).toNat)
        case atStart => exact ⟨0, r0, [], none, 0, 0, Nat.zero_le _, rfl, rfl, Lib.hid ⟨hp0, rfl, hrs⟩, L, OwnR.nil _ _ _⟩
        case round =>
          clear L hp0
          obtain ⟨k, r, acc, va, vm, vc, hkc, rfl, rfl, ph, L, o⟩ := hrel
          by_cases hk : k < y.toNat
          · obtain ⟨hp, hlen, hrs⟩ := ph.out
            by_cases hr2 : r.size < 2
            · have hbad := phi_bad hs hp hk hr2
              have d4 : (r.size : Int) < 2 := by omega
              have zr := L.zr
              have fr := L.fr
              clear L o ph hp hlen
              have bz := build_rzz wr
              go_wp2_with (with_reducible refine wpList_store_rn (a0 := w) (B := w.heap.size) rfl (.tmp 2) (.tmp 80) rfl w.heap.size false (.slice none 0 0) (.slice none 0 0) (.slice none 0 0) rfl rfl #[.bool false, .slice none 0 0, .slice none 0 0, .slice none 0 0] zr rfl (.mk _ _ _) (.mk _ _ _) (.mk _ _ _) fr (Nat.le_refl _) ?_)
              rintro w8 ⟨r0, r1, r2, r3⟩ - B2 -
              go_wp2
              exact bodyPost_ret (v := .tuple #[zNd, .int .i64 2]) (by simp [results, Try.results16, go_sem, r0, r1, r2, r3]) rfl (by rw [hbad]; exact zNd_ret rfl B2)
            · have d4 : ¬ (r.size : Int) < 2 := by omega
              have hzr := bts_size r
              obtain ⟨a, b, z, hr⟩ : ∃ a b z, bts r = a :: b :: z := by
                cases hq : bts r with
                | nil => rw [hq] at hzr; simp at hzr; omega
                | cons x t => cases t with
                  | nil => rw [hq] at hzr; simp at hzr; omega
                  | cons y l => exact ⟨x, y, l, rfl⟩
              have hre := rest2 hr
              have HST := Lib.hid (And.intro (phi_step hs hp hk (r' := r.extract 2 r.size) (by rw [hre]; exact hr)) (show (r.extract 2 r.size).size ≤ 160 by simp; omega))
              have ha0 : (bts r)[0]? = some a := by rw [hr]; rfl
              have ha1 : (bts r)[1]? = some b := by rw [hr]; rfl
              have la := a.toNat_lt
              have lb := b.toNat_lt
              have e1 : IntKind.i64.wrap ((a.toNat : Nat) : Int) = ((a.toNat : Nat) : Int) := by rw [IntKind.wrap_i64]; omega
              have e2 : IntKind.i64.wrap ((b.toNat : Nat) : Int) = ((b.toNat : Nat) : Int) := by rw [IntKind.wrap_i64]; omega
              have e3 : IntKind.i64.wrap (256 * ((b.toNat : Nat) : Int)) = ((256 * b.toNat : Nat) : Int) := by rw [IntKind.wrap_i64]; omega
              have e4 : IntKind.i64.wrap (((a.toNat : Nat) : Int) + ((256 * b.toNat : Nat) : Int)) = ((a.toNat + 256 * b.toNat : Nat) : Int) := by rw [IntKind.wrap_i64]; omega
              have HL := Lib.hid hlen
              obtain ⟨K, hK⟩ : ∃ K : Int, ((a.toNat + 256 * b.toNat : Nat) : Int) = K := ⟨_, rfl⟩
              rw [hK] at e4 HST
              clear ph hp hlen hr hre hzr hK la lb
              obtain ⟨q0, q1, q2, q3⟩ := L.cs
              go_wp2_with fail
              clear q0 q1 q2 q3
              have hS := True.intro
              refine wp_region_held_drew (S := fun _ => True) mixed hS (fun _ => ?_)
              have L := L.drew
              have o : OwnR elI (w.heap.size + 2) wr.drew (.slice va vm vc) acc := o
              generalize wr.drew = w4 at *
              obtain ⟨v9, w9, hr9, o9, L9⟩ := L.appI o K (by rw [HL.out]; omega) 24
              obtain ⟨ya, ym, yc, rfl, -⟩ := o9.form'
              have Ln : DI w false (.slice none 0 0) (.slice none 0 0) (.slice va vm vc) (w4.alloc (boxI K)) := L.below ((Below.refl _ _).alloc L.sz _)
              show wpAnyH _ _ _ _ _ 14 (Array.replicate 14 false) _ _
              refine wpAnyH_take_d 0 (some 81) (.pointer (some ⟨w.heap.size + 1, 3, none⟩)) rfl (by kernel_rfl) (by kernel_rfl) (by kernel_rfl) (by kernel_rfl) rfl (fun _ _ _ h => h) (fun _ _ => by kernel_rfl) (by exact hS) ?_
              simp only [Act.put, List.setIfInBounds_toArray, List.set_cons_succ, List.set_cons_zero]
              refine wpAnyH_take_d 2 (some 83) (.string r) rfl (by kernel_rfl) (by kernel_rfl) (by kernel_rfl) (by kernel_rfl) rfl (fun _ _ _ h => h) (fun _ _ => by kernel_rfl) (by exact hS) ?_
              simp only [Act.put, List.setIfInBounds_toArray, List.set_cons_succ, List.set_cons_zero]
              refine wpAnyH_take_d 3 (some 84) (.int .u8 (a.toNat : Nat)) rfl (by kernel_rfl) (by kernel_rfl) (by kernel_rfl) (by kernel_rfl) rfl (fun _ _ _ h => h) (fun _ _ => ex_sidx rfl rfl rfl ha0) (by exact hS) ?_
              simp only [Act.put, List.setIfInBounds_toArray, List.set_cons_succ, List.set_cons_zero]
              refine wpAnyH_take_d 4 (some 85) (.int .i64 (a.toNat : Nat)) rfl (by kernel_rfl) (by kernel_rfl) (by kernel_rfl) (by kernel_rfl) rfl (fun _ _ _ h => h) (fun w' _ => ex_conv rfl rfl (run_c53 e1 w')) (by exact hS) ?_
              simp only [Act.put, List.setIfInBounds_toArray, List.set_cons_succ, List.set_cons_zero]
              refine wpAnyH_take_d 5 (some 86) (.string r) rfl (by kernel_rfl) (by kernel_rfl) (by kernel_rfl) (by kernel_rfl) rfl (fun _ _ _ h => h) (fun _ _ => by kernel_rfl) (by exact hS) ?_
              simp only [Act.put, List.setIfInBounds_toArray, List.set_cons_succ, List.set_cons_zero]
              refine wpAnyH_take_d 6 (some 87) (.int .u8 (b.toNat : Nat)) rfl (by kernel_rfl) (by kernel_rfl) (by kernel_rfl) (by kernel_rfl) rfl (fun _ _ _ h => h) (fun _ _ => ex_sidx rfl rfl rfl ha1) (by exact hS) ?_
              simp only [Act.put, List.setIfInBounds_toArray, List.set_cons_succ, List.set_cons_zero]
              refine wpAnyH_take_d 7 (some 88) (.int .i64 (b.toNat : Nat)) rfl (by kernel_rfl) (by kernel_rfl) (by kernel_rfl) (by kernel_rfl) rfl (fun _ _ _ h => h) (fun w' _ => ex_conv rfl rfl (run_c53 e2 w')) (by exact hS) ?_
              simp only [Act.put, List.setIfInBounds_toArray, List.set_cons_succ, List.set_cons_zero]
              refine wpAnyH_take_d 8 (some 89) (.int .i64 (256 * b.toNat : Nat)) rfl (by kernel_rfl) (by kernel_rfl) (by kernel_rfl) (by kernel_rfl) rfl (fun _ _ _ h => h) (fun w' _ => ex_bin rfl rfl rfl (by kernel_rfl) (run_mul e3 w')) (by exact hS) ?_
              simp only [Act.put, List.setIfInBounds_toArray, List.set_cons_succ, List.set_cons_zero]
              refine wpAnyH_take_d 9 (some 90) (.int .i64 K) rfl (by kernel_rfl) (by kernel_rfl) (by kernel_rfl) (by kernel_rfl) rfl (fun _ _ _ h => h) (fun _ _ => ex_add rfl rfl rfl e4) (by exact hS) ?_
              simp only [Act.put, List.setIfInBounds_toArray, List.set_cons_succ, List.set_cons_zero]
              -- left: [(1, ('82', 'Op.load 24 t81', None)), (10, ('91', 'Op.buildSlice 24 1 #[(0, t90)]', None)), (11, ('92', 'Op.call { builtin append, args := #[t82, t91], argTypes := #[24, 24] }', None)), (12, ('93', 'Op.fieldAddr 26 t4 3', None)), (13, ('none', 'Op.store 24 t93 t92', None))]
              refine wpAnyH_two 1 10 (some 82) (some 91) (.slice va vm vc) (.slice (some ⟨w4.heap.size, 0, none⟩) 1 1) rfl rfl (by kernel_rfl) (by kernel_rfl) (by kernel_rfl) rfl rfl (exec_load_cell rfl rfl L.cs.c3 Try.underlying24 rfl) (ex_b1 rfl rfl (build_i K w4)) trivial trivial ?_ ?_
              · have hS := True.intro
                simp only [Act.put, List.setIfInBounds_toArray, List.set_cons_succ, List.set_cons_zero]
                refine wpAnyH_one 10 (some 91) (.slice (some ⟨w4.heap.size, 0, none⟩) 1 1) rfl (by kernel_rfl) (by kernel_rfl) rfl (ex_b1 rfl rfl (build_i K w4)) (by exact hS) ?_
                simp only [Act.put, List.setIfInBounds_toArray, List.set_cons_succ, List.set_cons_zero]
                refine wpAnyH_one 11 (some 92) (.slice ya ym yc) rfl (by kernel_rfl) (by kernel_rfl) rfl (ex_app rfl rfl rfl hr9) (by exact hS) ?_
                simp only [Act.put, List.setIfInBounds_toArray, List.set_cons_succ, List.set_cons_zero]
                refine wpAnyH_one (w1 := w9) 12 (some 93) (.pointer (some ⟨w.heap.size + 1, 3, none⟩)) rfl (by kernel_rfl) (by kernel_rfl) rfl (by kernel_rfl) (by exact hS) ?_
                simp only [Act.put, List.setIfInBounds_toArray, List.set_cons_succ, List.set_cons_zero]
                refine wpAnyH_skip1 13 rfl (by kernel_rfl) (by kernel_rfl) (exec_store_cell rfl rfl rfl rfl L9.cs.c3 (L9.free 3) (by kernel_rfl)) trivial ?_
                refine wpAnyH_done (by kernel_rfl) ?_ _
                have FIN := Lib.hid (And.intro (L9.put3 (.slice ya ym yc)) (own_putB (Nat.lt_succ_self _) o9 3 (.slice ya ym yc)))
                clear hr9 L9 o9 L o Ln e1 e2 e3 e4 ha0 ha1
                go_wp2
                go_roundw
                case rel => exact ⟨k + 1, r.extract 2 r.size, _, _, _, _, by omega, by go_num, rfl, Lib.hid ⟨HST.out.1, by rw [List.length_append, HL.out]; rfl, HST.out.2⟩, FIN.out.1, FIN.out.2⟩
                case measure => simp [intOf]; omega
              · have hS := True.intro
                simp only [Act.put, List.setIfInBounds_toArray, List.set_cons_succ, List.set_cons_zero]
                refine wpAnyH_one 1 (some 82) (.slice va vm vc) rfl (by kernel_rfl) (by kernel_rfl) rfl (exec_load_cell rfl rfl Ln.cs.c3 Try.underlying24 rfl) (by exact hS) ?_
                simp only [Act.put, List.setIfInBounds_toArray, List.set_cons_succ, List.set_cons_zero]
                refine wpAnyH_one 11 (some 92) (.slice ya ym yc) rfl (by kernel_rfl) (by kernel_rfl) rfl (ex_app rfl rfl rfl hr9) (by exact hS) ?_
                simp only [Act.put, List.setIfInBounds_toArray, List.set_cons_succ, List.set_cons_zero]
                refine wpAnyH_one (w1 := w9) 12 (some 93) (.pointer (some ⟨w.heap.size + 1, 3, none⟩)) rfl (by kernel_rfl) (by kernel_rfl) rfl (by kernel_rfl) (by exact hS) ?_
                simp only [Act.put, List.setIfInBounds_toArray, List.set_cons_succ, List.set_cons_zero]
                refine wpAnyH_skip1 13 rfl (by kernel_rfl) (by kernel_rfl) (exec_store_cell rfl rfl rfl rfl L9.cs.c3 (L9.free 3) (by kernel_rfl)) trivial ?_
                refine wpAnyH_done (by kernel_rfl) ?_ _
                have FIN := Lib.hid (And.intro (L9.put3 (.slice ya ym yc)) (own_putB (Nat.lt_succ_self _) o9 3 (.slice ya ym yc)))
                clear hr9 L9 o9 L o Ln e1 e2 e3 e4 ha0 ha1
                go_wp2
                go_roundw
                case rel => exact ⟨k + 1, r.extract 2 r.size, _, _, _, _, by omega, by go_num, rfl, Lib.hid ⟨HST.out.1, by rw [List.length_append, HL.out]; rfl, HST.out.2⟩, FIN.out.1, FIN.out.2⟩
                case measure => simp [intOf]; omega
          · have hkc' : k = y.toNat := by omega
            subst hkc'
            obtain ⟨hp, hlen, hrs⟩ := ph.out
            have hp0 := phk0 hs hp
            have kp := KP.refl wr (w.heap.size + 1) (w.heap.size + 1)
            have hns := L.sz
            have HOI := Lib.hid o
            have HLI : Hid (acc.length ≤ 255) := Lib.hid (by omega)
            have hww : IntKind.i64.wrap (((y.toNat : Nat) : Int) - 1) = ((y.toNat : Nat) : Int) - 1 := by rw [IntKind.wrap_i64]; omega
            clear ph hp hlen o hkc hk
            generalize acc = KI at *
            generalize wr = ws at *
            go_wp2
            go_loopw [6, 15] (fun sv iv wr => ∃ (k : Nat) (r : ByteArray) (acc : List ByteArray) (ka : Option Addr) (km kc : Nat), k ≤ y.toNat - 1 ∧ iv = .int .i64 (k : Nat) ∧ sv = .string r ∧ Hid (PhK s k KI acc r ∧ acc.length = k ∧ r.size ≤ 160) ∧ DI w false (.slice none 0 0) (.slice ka km kc) (.slice va vm vc) wr ∧ OwnR elS ws.heap.size wr (.slice ka km kc) acc ∧ KP ws (w.heap.size + 1) (w.heap.size + 1) wr) (fun _ iv _ => y.toNat - (intOf iv).toNat)
            case atStart => exact ⟨0, r, [], none, 0, 0, Nat.zero_le _, rfl, rfl, Lib.hid ⟨hp0, rfl, hrs⟩, L, OwnR.nil _ _ _, kp⟩
            case round =>
              clear L hp0 kp hrs
              obtain ⟨k, r, acc, ka, km, kc, hkc, rfl, rfl, ph, L, o, kp⟩ := hrel
              by_cases hk : k + 1 < y.toNat
              · have hd : (k : Int) < ((y.toNat : Nat) : Int) - 1 := by omega
                obtain ⟨hp, hlen, hrs⟩ := ph.out
                have hstep := phk_step hs hp hk
                have hfail := Lib.hid (fun h => phk_bad hs hp hk h)
                have hrs2 := Nat.le_trans (tkR_size r) hrs
                have ta := takeRef_any wr r (by omega)
                have HST := Lib.hid (And.intro hstep hrs2)
                have HL := Lib.hid hlen
                clear hstep hp hrs2 hrs ph hlen
                generalize tkT r = t1 at *
                generalize tkO r = o1 at *
                generalize tkR r = r1 at *
                go_wp2_with fail
                refine ta.mono ?_
                rintro e w3 ⟨rfl, b3⟩
                have L := L.below (b3.mono L.sz)
                have o := o.below b3
                have kp := kp.below (b3.mono kp.sz)
                clear ta b3
                obtain ⟨q0, q1, q2, q3⟩ := L.cs
                cases o1
                · have hbad := hfail.out rfl
                  have zr := L.zr
                  have fr := L.fr
                  clear hfail L o HST HL kp q0 q1 q2 q3
                  have bz := build_rzz w3
                  go_wp2_with (with_reducible refine wpList_store_rn (a0 := w) (B := w.heap.size) rfl (.tmp 2) (.tmp 110) rfl w.heap.size false (.slice none 0 0) (.slice none 0 0) (.slice none 0 0) rfl rfl #[.bool false, .slice none 0 0, .slice none 0 0, .slice none 0 0] zr rfl (.mk _ _ _) (.mk _ _ _) (.mk _ _ _) fr (Nat.le_refl _) ?_)
                  rintro w8 ⟨r0, r1, r2, r3⟩ - B2 -
                  go_wp2
                  exact bodyPost_ret (v := .tuple #[zNd, .int .i64 2]) (by simp [results, Try.results16, go_sem, r0, r1, r2, r3]) rfl (by rw [hbad]; exact zNd_ret rfl B2)
                · obtain ⟨v9, w9, hr9, o9, L9, kp9⟩ := L.appK kp hns o t1 (by rw [HL.out]; omega) 23
                  obtain ⟨ya, ym, yc, rfl, -⟩ := o9.form'
                  have hbs := build_s t1 w3
                  have c9 := L9.cs.c2
                  have f9 := L9.free 2
                  have FIN := Lib.hid (And.intro (L9.put2 (.slice ya ym yc)) (And.intro (own_putB (show w.heap.size + 1 < ws.heap.size from hns) o9 2 (.slice ya ym yc)) (kp9.put 2 (.slice ya ym yc))))
                  have HR := Lib.hid (show (Builtin.append_ #[23, 23] 23 #[.slice ka km kc, .slice (some ⟨w3.heap.size, 0, none⟩) 1 1]).run Try.prog (w3.alloc (.cells #[.string t1] 9)) = .ok (.slice ya ym yc) w9 from hr9)
                  clear hfail L o kp hr9 o9 L9 kp9
                  go_wp2_with (with_reducible refine wpList_append_own rfl (.tmp 112) (.tmp 114) 23 23 rfl (.slice ka km kc) (.slice (some ⟨w3.heap.size, 0, none⟩) 1 1) (.slice ya ym yc) rfl rfl HR.out ?_)
                  go_roundw
                  case rel => exact ⟨k + 1, r1, _, _, _, _, by omega, by go_num, rfl, Lib.hid ⟨HST.out.1, by rw [List.length_append, HL.out]; rfl, HST.out.2⟩, FIN.out.1, FIN.out.2.1, FIN.out.2.2⟩
                  case measure => simp [intOf]; omega
              · have hd : ¬ (k : Int) < ((y.toNat : Nat) : Int) - 1 := by omega
                have hkc' : k = y.toNat - 1 := by omega
                obtain ⟨hp, hlen, -⟩ := ph.out
                have DE := Lib.hid (dec_end hs160 (phk_end hs (hkc' ▸ hp)))
                have hsm : (⟨false, [], acc, KI⟩ : Nd).small := ⟨by show 0 * 32 ≤ _; omega, by show acc.length * 16 ≤ _; omega, by have := HLI.out; show KI.length * 8 ≤ _; omega⟩
                have O : Hid (NdOwn (w.heap.size + 2) wr (.agg #[.bool false, .slice none 0 0, .slice ka km kc, .slice va vm vc]) ⟨false, [], acc, KI⟩) := Lib.hid ⟨_, _, _, rfl, OwnR.nil _ _ _, o.base hns, kp.ownB (by omega) HOI.out⟩
                generalize (⟨false, [], acc, KI⟩ : Nd) = n at *
                clear hp hlen ph o hkc hkc' kp HOI HLI
                have NA := O.out.at hsm
                have rt := right_any NA
                obtain ⟨q0, q1, q2, q3⟩ := L.cs
                cases hk : okN n
                · rw [hk] at rt DE
                  go_wp2_with fail
                  refine rt.mono ?_
                  rintro e w3 ⟨rfl, b3⟩
                  have L := L.below (b3.mono L.sz)
                  have zr := L.zr
                  have fr := L.fr
                  have hbad : decN s = (.none, 2) := DE.out
                  clear rt b3 L NA q0 q1 q2 q3
                  have bz := build_rzz w3
                  go_wp2_with (with_reducible refine wpList_store_rn (a0 := w) (B := w.heap.size) rfl (.tmp 2) (.tmp 127) rfl w.heap.size false (.slice none 0 0) (.slice none 0 0) (.slice none 0 0) rfl rfl #[.bool false, .slice none 0 0, .slice none 0 0, .slice none 0 0] zr rfl (.mk _ _ _) (.mk _ _ _) (.mk _ _ _) fr (Nat.le_refl _) ?_)
                  rintro w8 ⟨r0, r1, r2, r3⟩ - B2 -
                  go_wp2
                  exact bodyPost_ret (v := .tuple #[zNd, .int .i64 2]) (by simp [results, Try.results16, go_sem, r0, r1, r2, r3]) rfl (by rw [hbad]; exact zNd_ret rfl B2)
                · have EN := Lib.hid (fun (w1 : World) (b : Below wr.heap.size wr w1) => refEncode_any ((NA.below b).more b.size) hk)
                  rw [hk] at rt DE
                  go_wp2_with fail
                  refine rt.mono ?_
                  rintro e w3 ⟨rfl, b3⟩
                  have en := EN.out _ b3
                  have L := L.below (b3.mono L.sz)
                  have O := Lib.hid (O.out.below b3)
                  obtain ⟨q0, q1, q2, q3⟩ := L.cs
                  clear rt b3 NA EN
                  by_cases hT : strOf (encN n) = s
                  · rw [hT] at en
                    have hgood : decN s = (n, 0) := by rw [DE.out, decide_eq_true hT]; rfl
                    clear hT DE
                    have HG := Lib.hid hgood
                    clear hgood
                    go_wp2_with fail
                    refine en.mono ?_
                    rintro e w4 ⟨rfl, b4⟩
                    have L := L.below (b4.mono L.sz)
                    have O := Lib.hid (O.out.below b4)
                    obtain ⟨q0, q1, q2, q3⟩ := L.cs
                    have zr := L.zr
                    have fr := L.fr
                    clear en b4 L
                    go_wp2_with (with_reducible refine wpList_store_rn (a0 := w) (B := w.heap.size) rfl (.tmp 2) (.tmp 128) rfl w.heap.size false (.slice none 0 0) (.slice ka km kc) (.slice va vm vc) rfl rfl #[.bool false, .slice none 0 0, .slice none 0 0, .slice none 0 0] zr rfl (.mk _ _ _) (.mk _ _ _) (.mk _ _ _) fr (Nat.le_refl _) ?_)
                    rintro w8 ⟨r0, r1, r2, r3⟩ - B2 k2
                    clear q0 q1 q2 q3
                    go_wp2
                    refine bodyPost_ret (v := .tuple #[.agg #[.bool false, .slice none 0 0, .slice ka km kc, .slice va vm vc], .int .i64 0]) (by simp [results, Try.results16, go_sem, r0, r1, r2, r3]) rfl ?_
                    rw [HG.out]
                    exact ⟨_, rfl, (O.out.keepg (by omega) k2).base (by omega), B2⟩
                  · have hbad : decN s = (.none, 2) := by rw [DE.out, decide_eq_false hT]; rfl
                    have hne : ((strOf (encN n)).toList == s.toList) = false := by
                      cases hq : ((strOf (encN n)).toList == s.toList) with
                      | false => rfl
                      | true => exact absurd (toList_inj (beq_iff_eq.1 hq)) hT
                    generalize strOf (encN n) = T at *
                    clear hT DE
                    go_wp2_with fail
                    refine en.mono ?_
                    rintro e w4 ⟨rfl, b4⟩
                    have L := L.below (b4.mono L.sz)
                    have zr := L.zr
                    have fr := L.fr
                    clear en b4 L q0 q1 q2 q3 O
                    have bz := build_rzz w4
                    go_wp2_with (with_reducible refine wpList_store_rn (a0 := w) (B := w.heap.size) rfl (.tmp 2) (.tmp 127) rfl w.heap.size false (.slice none 0 0) (.slice none 0 0) (.slice none 0 0) rfl rfl #[.bool false, .slice none 0 0, .slice none 0 0, .slice none 0 0] zr rfl (.mk _ _ _) (.mk _ _ _) (.mk _ _ _) fr (Nat.le_refl _) ?_)
                    rintro w8 ⟨r0, r1, r2, r3⟩ - B2 -
                    go_wp2
                    exact bodyPost_ret (v := .tuple #[zNd, .int .i64 2]) (by simp [results, Try.results16, go_sem, r0, r1, r2, r3]) rfl (by rw [hbad]; exact zNd_ret rfl B2)
      · have hx1 : x = 1 := by
          have : ((x.toNat : Nat) : Int) = 1 := by simpa using hbx
          exact UInt8.toNat_inj.1 (by show x.toNat = 1; omega)
        subst hx1
        have hp0 := php0 hs
        clear hbx
        go_wp2
        clear q0 q1 q2 q3
        go_loopw [6, 7] (fun sv iv wr => ∃ (k : Nat) (r : ByteArray) (acc : List Pr) (va : Option Addr) (vm vc : Nat), k ≤ y.toNat ∧ iv = .int .i64 (k : Nat) ∧ sv = .string r ∧ Hid (PhP s k acc r ∧ acc.length = k ∧ r.size ≤ 160) ∧ DI w true (.slice va vm vc) (.slice none 0 0) (.slice none 0 0) wr ∧ OwnR elP (w.heap.size + 2) wr (.slice va vm vc) acc) (fun _ iv _ => y.toNat - (intOf iv).toNat)
        case atStart => exact ⟨0, r0, [], none, 0, 0, Nat.zero_le _, rfl, rfl, Lib.hid ⟨hp0, rfl, hrs⟩, L, OwnR.nil _ _ _⟩
        case round =>
          clear L hp0
          obtain ⟨k, r, acc, va, vm, vc, hkc, rfl, rfl, ph, L, o⟩ := hrel
          by_cases hk : k < y.toNat
          · have hph := ph.out
            obtain ⟨hp, hlen, hrs⟩ := hph
            have hstep := php_step hs hp hk
            have hfail := Lib.hid (fun h => php_bad hs hp hk h)
            have hrs2 := Nat.le_trans (tkR_size r) hrs
            have hrs3 := Nat.le_trans (tkR_size (tkR r)) hrs2
            have ta := takeRef_any wr r (by omega)
            have TB := Lib.hid (fun w' => takeRef_any w' (tkR r) (by omega))
            have HST := Lib.hid (And.intro hstep hrs3)
            clear hstep hp hrs3 ph hrs hrs2
            generalize tkT r = t1 at *
            generalize tkO r = o1 at *
            generalize tkR r = r1 at *
            generalize tkT r1 = t2 at *
            generalize tkO r1 = o2 at *
            generalize tkR r1 = r2 at *
            have HL := Lib.hid hlen
            clear hlen
            go_wp2_with fail
            refine ta.mono ?_
            rintro e w3 ⟨rfl, b3⟩
            have tb := TB.out w3
            have L := L.below (b3.mono L.sz)
            have o := o.below b3
            clear ta b3 TB
            go_wp2_with fail
            refine tb.mono ?_
            rintro e w4 ⟨rfl, b4⟩
            have L := L.below (b4.mono L.sz)
            have o := o.below b4
            clear tb b4
            obtain ⟨q0, q1, q2, q3⟩ := L.cs
            cases o1
            · have hbad := hfail.out rfl
              have zr := L.zr
              have fr := L.fr
              clear hfail L o HST HL q0 q1 q2 q3
              have bz := build_rzz w4
              go_wp2_with (with_reducible refine wpList_store_rn (a0 := w) (B := w.heap.size) rfl (.tmp 2) (.tmp 62) rfl w.heap.size false (.slice none 0 0) (.slice none 0 0) (.slice none 0 0) rfl rfl #[.bool false, .slice none 0 0, .slice none 0 0, .slice none 0 0] zr rfl (.mk _ _ _) (.mk _ _ _) (.mk _ _ _) fr (Nat.le_refl _) ?_)
              rintro w8 ⟨r0, r1, r2, r3⟩ - B2 -
              go_wp2
              exact bodyPost_ret (v := .tuple #[zNd, .int .i64 2]) (by simp [results, Try.results16, go_sem, r0, r1, r2, r3]) rfl (by rw [hbad]; exact zNd_ret rfl B2)
            · cases o2
              · have hbad := hfail.out rfl
                have zr := L.zr
                have fr := L.fr
                clear hfail L o HST HL q0 q1 q2 q3
                have bz := build_rzz w4
                go_wp2_with (with_reducible refine wpList_store_rn (a0 := w) (B := w.heap.size) rfl (.tmp 2) (.tmp 62) rfl w.heap.size false (.slice none 0 0) (.slice none 0 0) (.slice none 0 0) rfl rfl #[.bool false, .slice none 0 0, .slice none 0 0, .slice none 0 0] zr rfl (.mk _ _ _) (.mk _ _ _) (.mk _ _ _) fr (Nat.le_refl _) ?_)
                rintro w8 ⟨r0, r1, r2, r3⟩ - B2 -
                go_wp2
                exact bodyPost_ret (v := .tuple #[zNd, .int .i64 2]) (by simp [results, Try.results16, go_sem, r0, r1, r2, r3]) rfl (by rw [hbad]; exact zNd_ret rfl B2)
              · obtain ⟨v9, w9, hr9, o9, L9⟩ := L.appP o ⟨t1, t2⟩ (by rw [HL.out]; omega) 22
                obtain ⟨ya, ym, yc, rfl, -⟩ := o9.form'
                have hbp := build_pr t1 t2 w4
                have hbs := build_prs ⟨t1, t2⟩ w4
                have c9 := L9.cs.c1
                have f9 := L9.free 1
                have FIN := Lib.hid (And.intro (L9.put1 (.slice ya ym yc)) (own_putB (Nat.lt_succ_self _) o9 1 (.slice ya ym yc)))
                have HR := Lib.hid hr9
                clear hfail L o hr9 o9 L9
                go_wp2_with (with_reducible refine wpList_append_own rfl (.tmp 64) (.tmp 68) 22 22 rfl (.slice va vm vc) (.slice (some ⟨w4.heap.size, 0, none⟩) 1 1) (.slice ya ym yc) rfl rfl HR.out ?_)
                go_roundw
                case rel => exact ⟨k + 1, r2, _, _, _, _, by omega, by go_num, rfl, Lib.hid ⟨HST.out.1, by rw [List.length_append, HL.out]; rfl, HST.out.2⟩, FIN.out.1, FIN.out.2⟩
                case measure => simp [intOf]; omega
          · have hkc' : k = y.toNat := by omega
            subst hkc'
            obtain ⟨hp, hlen, -⟩ := ph.out
            have DE := Lib.hid (dec_end hs160 (php_end hs hp))
            have hsm : (⟨true, acc, [], []⟩ : Nd).small := leaf_small (by omega)
            have O : Hid (NdOwn (w.heap.size + 2) wr (.agg #[.bool true, .slice va vm vc, .slice none 0 0, .slice none 0 0]) ⟨true, acc, [], []⟩) := Lib.hid ⟨_, _, _, rfl, o, OwnR.nil _ _ _, OwnR.nil _ _ _⟩
            generalize (⟨true, acc, [], []⟩ : Nd) = n at *
            clear hp hlen ph o hkc
            have NA := O.out.at hsm
            have rt := right_any NA
            obtain ⟨q0, q1, q2, q3⟩ := L.cs
            cases hk : okN n
            · rw [hk] at rt DE
              go_wp2_with fail
              refine rt.mono ?_
              rintro e w3 ⟨rfl, b3⟩
              have L := L.below (b3.mono L.sz)
              have zr := L.zr
              have fr := L.fr
              have hbad : decN s = (.none, 2) := DE.out
              clear rt b3 L NA q0 q1 q2 q3
              have bz := build_rzz w3
              go_wp2_with (with_reducible refine wpList_store_rn (a0 := w) (B := w.heap.size) rfl (.tmp 2) (.tmp 127) rfl w.heap.size false (.slice none 0 0) (.slice none 0 0) (.slice none 0 0) rfl rfl #[.bool false, .slice none 0 0, .slice none 0 0, .slice none 0 0] zr rfl (.mk _ _ _) (.mk _ _ _) (.mk _ _ _) fr (Nat.le_refl _) ?_)
              rintro w8 ⟨r0, r1, r2, r3⟩ - B2 -
              go_wp2
              exact bodyPost_ret (v := .tuple #[zNd, .int .i64 2]) (by simp [results, Try.results16, go_sem, r0, r1, r2, r3]) rfl (by rw [hbad]; exact zNd_ret rfl B2)
            · have EN := Lib.hid (fun (w1 : World) (b : Below wr.heap.size wr w1) => refEncode_any ((NA.below b).more b.size) hk)
              rw [hk] at rt DE
              go_wp2_with fail
              refine rt.mono ?_
              rintro e w3 ⟨rfl, b3⟩
              have en := EN.out _ b3
              have L := L.below (b3.mono L.sz)
              have O := Lib.hid (O.out.below b3)
              obtain ⟨q0, q1, q2, q3⟩ := L.cs
              clear rt b3 NA EN
              by_cases hT : strOf (encN n) = s
              · rw [hT] at en
                have hgood : decN s = (n, 0) := by rw [DE.out, decide_eq_true hT]; rfl
                clear hT DE
                have HG := Lib.hid hgood
                clear hgood
                go_wp2_with fail
                refine en.mono ?_
                rintro e w4 ⟨rfl, b4⟩
                have L := L.below (b4.mono L.sz)
                have O := Lib.hid (O.out.below b4)
                obtain ⟨q0, q1, q2, q3⟩ := L.cs
                have zr := L.zr
                have fr := L.fr
                clear en b4 L
                go_wp2_with (with_reducible refine wpList_store_rn (a0 := w) (B := w.heap.size) rfl (.tmp 2) (.tmp 128) rfl w.heap.size true (.slice va vm vc) (.slice none 0 0) (.slice none 0 0) rfl rfl #[.bool false, .slice none 0 0, .slice none 0 0, .slice none 0 0] zr rfl (.mk _ _ _) (.mk _ _ _) (.mk _ _ _) fr (Nat.le_refl _) ?_)
                rintro w8 ⟨r0, r1, r2, r3⟩ - B2 k2
                clear q0 q1 q2 q3
                go_wp2
                refine bodyPost_ret (v := .tuple #[.agg #[.bool true, .slice va vm vc, .slice none 0 0, .slice none 0 0], .int .i64 0]) (by simp [results, Try.results16, go_sem, r0, r1, r2, r3]) rfl ?_
                rw [HG.out]
                exact ⟨_, rfl, (O.out.keepg (by omega) k2).base (by omega), B2⟩
              · have hbad : decN s = (.none, 2) := by rw [DE.out, decide_eq_false hT]; rfl
                have hne : ((strOf (encN n)).toList == s.toList) = false := by
                  cases hq : ((strOf (encN n)).toList == s.toList) with
                  | false => rfl
                  | true => exact absurd (toList_inj (beq_iff_eq.1 hq)) hT
                generalize strOf (encN n) = T at *
                clear hT DE
                go_wp2_with fail
                refine en.mono ?_
                rintro e w4 ⟨rfl, b4⟩
                have L := L.below (b4.mono L.sz)
                have zr := L.zr
                have fr := L.fr
                clear en b4 L q0 q1 q2 q3 O
                have bz := build_rzz w4
                go_wp2_with (with_reducible refine wpList_store_rn (a0 := w) (B := w.heap.size) rfl (.tmp 2) (.tmp 127) rfl w.heap.size false (.slice none 0 0) (.slice none 0 0) (.slice none 0 0) rfl rfl #[.bool false, .slice none 0 0, .slice none 0 0, .slice none 0 0] zr rfl (.mk _ _ _) (.mk _ _ _) (.mk _ _ _) fr (Nat.le_refl _) ?_)
                rintro w8 ⟨r0, r1, r2, r3⟩ - B2 -
                go_wp2
                exact bodyPost_ret (v := .tuple #[zNd, .int .i64 2]) (by simp [results, Try.results16, go_sem, r0, r1, r2, r3]) rfl (by rw [hbad]; exact zNd_ret rfl B2)
end Go.Proofs.Ytjjdpclobkdbjaa
