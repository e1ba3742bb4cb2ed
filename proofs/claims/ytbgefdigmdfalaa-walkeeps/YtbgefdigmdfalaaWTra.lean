/- The contract of wal's transaction. No statement of the seat is proved here. -/
import Derived.Test.YtbgefdigmdfalaaWTxM
namespace Go.Proofs.Ytbgefdigmdfalaa
set_option maxRecDepth 20000
open Go.RowKit

theorem exec_intgeq {P : Program} {w : World} {ρ : Operand → Value} {o : Oper} {t t' : TypeId} {x y : Operand} {k : IntKind} {a b : Int} {c : Bool} (ho : o.op = .binOp .geq t x y t') (hx : ρ x = .int k a) (hy : ρ y = .int k b) (h : decide (b ≤ a) = c) : (execOp ρ o).run P w = .ok (.value (.bool c)) w := by
  subst h
  unfold execOp
  simp only [ho, hx, hy, Sem.run_bind]
  have e1 : (eqGuard .geq t x y (.int k a) (.int k b)).run P w = .ok () w := by simp [eqGuard]
  have e2 : (binOp .geq t (.int k a) (.int k b)).run P w = .ok (.bool (decide (b ≤ a))) w := by simp [go_sem]
  rw [e1, Result.andThen_ok, e2]; rfl
def TxPost (w : World) (o : Option (List Im)) (e : Ending) (w' : World) : Prop := ∃ v, e = .returned (.tuple #[v, .bool o.isSome]) ∧ OwnM w.heap.size w' v (o.getD []) ∧ Below w.heap.size w w'
theorem txPost_no {w w' : World} {o : Option (List Im)} (h : o = none) (hb : Below w.heap.size w w') : TxPost w o (.returned (.tuple #[.slice none 0 0, .bool false])) w' := by
  subst h; exact ⟨_, rfl, OwnM.nil _ _, hb⟩
theorem txPost_yes {w w' : World} {o : Option (List Im)} {a : List Im} (h : o = some a) {v : Value} (hv : OwnM w.heap.size w' v a) (hb : Below w.heap.size w w') : TxPost w o (.returned (.tuple #[v, .bool true])) w' := by
  subst h; exact ⟨_, rfl, hv, hb⟩
theorem build_im (p : Int) (s : ByteArray) (w : World) : (Instr.build 50 #[(0, .int .i64 p), (1, .string s)]).run Try.prog w = .ok (.agg #[.int .i64 p, .string s]) w := run_build w 50 _ _ (by kernel_rfl)
theorem szLog8 : (Try.prog.info? 87).map (·.size) = some 8 := by kernel_rfl
set_option maxRecDepth 20000 in
set_option maxHeartbeats 3200000 in
theorem transaction_any {B : Nat} {w : World} {lb db : Nat} {l : Wl} {d : Dev} {N : Nat} (hd : DevAt B w db d N) (h : WlAt w lb db l) (ok : l.Ok) (hlen : d.waits.length < 1000000) (r : Lg) (n : Nat) (hc : r.count = (n : Nat)) :
    Calls Try.prog 55 #[.pointer (some ⟨lb, 0, none⟩), logVal r] w (TxPost w (txR d l r n)) := by
  obtain ⟨k, ep, s, tx, x, c, p, dd⟩ := r
  simp only at hc
  subst hc
  have hR : ∀ {o : Option (List Im)}, txR d l ⟨k, ep, s, tx, x, (n : Nat), p, dd⟩ n = o → txR d l ⟨k, ep, s, tx, x, (n : Nat), p, dd⟩ n = o := fun h => h
  have B0 := below_new w (.cells #[.int .i64 k, .int .i64 ep, .int .i64 s, .int .i64 tx, .int .i64 x, .int .i64 (n : Nat), .int .i64 p, .string dd] 87)
  have g0 := heap_alloc_new w (.cells #[.int .i64 k, .int .i64 ep, .int .i64 s, .int .i64 tx, .int .i64 x, .int .i64 (n : Nat), .int .i64 p, .string dd] 87)
  have h1 := h.below B0
  have d1 := hd.below B0
  have hnx : l.next ≤ 1125899906860000 := by have := ok.tail; have := ok.room; have := ok.fs; omega
  have hrm : l.room ≤ 4096 := by unfold Wl.room; have := ok.fs; omega
  clear h hd
  show Calls Try.prog _ #[.pointer (some ⟨lb, 0, none⟩), .agg #[.int .i64 k, .int .i64 ep, .int .i64 s, .int .i64 tx, .int .i64 x, .int .i64 (n : Nat), .int .i64 p, .string dd]] w _
  generalize hq : (⟨k, ep, s, tx, x, (n : Nat), p, dd⟩ : Lg) = r
  have HQ := Lib.hid hq
  clear hq hR
  go_enter Try.func55, Try.ntmps55
  go_wp2_with fail
  generalize hwa : w.alloc (.cells #[.int .i64 k, .int .i64 ep, .int .i64 s, .int .i64 tx, .int .i64 x, .int .i64 (n : Nat), .int .i64 p, .string dd] 87) = wa at B0 g0 h1 d1 ⊢
  have hS : Below wa.heap.size wa wa.drew := (Below.refl _ _).drew
  refine wp_region_held_drew (S := fun w' => Below wa.heap.size wa w') mixed hS (fun _ => ?_)
  show wpAnyH _ _ _ _ _ 5 (Array.replicate 5 false) _ _
  refine wpAnyH_take_d 0 (some 10) (.pointer (some ⟨w.heap.size, 5, none⟩)) rfl (by kernel_rfl) (by kernel_rfl) (by kernel_rfl) (by kernel_rfl) rfl (fun _ _ _ h => h) (fun _ _ => by kernel_rfl) (by exact hS) ?_
  simp only [Act.put, List.setIfInBounds_toArray, List.set_cons_succ, List.set_cons_zero]
  refine wpAnyH_take_d 1 (some 11) (.int .i64 (n : Nat)) rfl (by kernel_rfl) (by kernel_rfl) (by kernel_rfl) (by kernel_rfl) rfl (fun _ _ _ h => h) (fun w' h => exec_load_cell rfl rfl (cell_row ((h.block _ (lt_of_heap g0)).trans g0) 5 rfl) Try.underlying3 rfl) (by exact hS) ?_
  simp only [Act.put, List.setIfInBounds_toArray, List.set_cons_succ, List.set_cons_zero]
  refine wpAnyH_take_d 2 (some 12) (.pointer (some ⟨lb, 0, none⟩)) rfl (by kernel_rfl) (by kernel_rfl) (by kernel_rfl) (by kernel_rfl) rfl (fun _ _ _ h => h) (fun _ _ => by kernel_rfl) (by exact hS) ?_
  simp only [Act.put, List.setIfInBounds_toArray, List.set_cons_succ, List.set_cons_zero]
  generalize wa.drew = w2 at hS ⊢
  refine wpAnyH_call 3 (some 13) 15 #[.pointer (some ⟨lb, 0, none⟩)] rfl (by kernel_rfl) (by kernel_rfl) rfl (by kernel_rfl) (room_any (h1.below hS) ok) ?_
  rintro e w3 ⟨rfl, b3⟩
  have hS : Below wa.heap.size wa w3 := hS.trans (b3.mono hS.size)
  refine ⟨_, rfl, hS, ?_⟩
  simp only [Act.put, List.setIfInBounds_toArray, List.set_cons_succ, List.set_cons_zero]
  have hle : wa.heap.size = w.heap.size + 1 := by rw [← hwa]; simp
  have BW : Below w.heap.size w w3 := B0.trans (hS.mono (by omega))
  by_cases hr : l.room ≤ n
  · have HR := Lib.hid (show txR d l r n = none by unfold txR; rw [if_pos hr])
    refine wpAnyH_take_d 4 (some 14) (.bool true) rfl (by kernel_rfl) (by kernel_rfl) (by kernel_rfl) (by kernel_rfl) rfl (fun _ _ _ h => h) (fun w' h => exec_intgeq rfl rfl rfl (decide_eq_true (by omega))) (by exact hS) ?_
    simp only [Act.put, List.setIfInBounds_toArray, List.set_cons_succ, List.set_cons_zero]
    refine wpAnyH_done (by kernel_rfl) ?_ _
    clear h1 d1 g0 hS b3
    go_wp2
    go_returns
    exact txPost_no HR.out BW
  · have HR := Lib.hid (show txR d l r n = txA d l r n (n + 1) by unfold txR; rw [if_neg hr])
    refine wpAnyH_take_d 4 (some 14) (.bool false) rfl (by kernel_rfl) (by kernel_rfl) (by kernel_rfl) (by kernel_rfl) rfl (fun _ _ _ h => h) (fun w' h => exec_intgeq rfl rfl rfl (decide_eq_false (by omega))) (by exact hS) ?_
    simp only [Act.put, List.setIfInBounds_toArray, List.set_cons_succ, List.set_cons_zero]
    refine wpAnyH_done (by kernel_rfl) ?_ _
    have g3 := (hS.block _ (lt_of_heap g0)).trans g0
    have h3 := h1.below hS
    have d3 := d1.below hS
    have hw3 : w.heap.size + 1 ≤ w3.heap.size := by have := hS.size; omega
    have hn : n ≤ 4096 := by omega
    have c5 : w3.cell? ⟨w.heap.size, 5, none⟩ = some (.int .i64 (n : Nat)) := cell_row g3 5 rfl
    clear h1 d1 g0 hS b3 B0 hwa hle
    go_wp2
    go_loopw [6, 18] (fun lv iv wr => ∃ j : Nat, j ≤ n + 1 ∧ iv = .int .i64 j ∧ ∃ a, Hid (txA d l r n j = some a) ∧ OwnM w3.heap.size wr lv a ∧ Below w3.heap.size w3 wr) (fun _ iv _ => n + 1 - (intOf iv).toNat)
    case atStart => exact ⟨0, Nat.zero_le _, rfl, [], Lib.hid rfl, OwnM.nil _ _, Below.refl _ _⟩
    case round =>
      obtain ⟨j, hj, rfl, a, ha, oj, bj⟩ := hrel
      obtain ⟨lo, lm, lc, hlv, hlm⟩ := oj.form'
      subst hlv
      by_cases hlt : j < n + 1
      · have hrd := wlRead_any (d3.below bj) (h3.below bj) ok hlen (l.next + j)
        have hsum : IntKind.i64.wrap ((l.next : Int) + (j : Int)) = ((l.next + j : Nat) : Int) := by rw [IntKind.wrap_i64]; omega
        obtain ⟨rr, hrr⟩ : ∃ rr, (wlRec d l (l.next + j)).1 = rr := ⟨_, rfl⟩
        obtain ⟨bb, hbb⟩ : ∃ bb, (wlRec d l (l.next + j)).2 = bb := ⟨_, rfl⟩
        rw [hrr, hbb] at hrd
        have HRR := Lib.hid hrr
        have HBB := Lib.hid hbb
        clear hrr hbb
        have c4 : wr.cell? ⟨lb, 4, none⟩ = some (.int .i64 (l.next : Nat)) := cell_row (h3.below bj) 4 rfl
        go_wp2_with fail
        refine Calls.mono hrd ?_
        rintro e w4 ⟨rfl, b4⟩
        have Zn := below_new w4 (.cells #[.int .i64 0, .int .i64 0, .int .i64 0, .int .i64 0, .int .i64 0, .int .i64 0, .int .i64 0, .string ⟨#[]⟩] 87)
        have gW := heap_alloc_new w4 (.cells #[.int .i64 0, .int .i64 0, .int .i64 0, .int .i64 0, .int .i64 0, .int .i64 0, .int .i64 0, .string ⟨#[]⟩] 87)
        have K1 : StoreOk 87 #[.int .i64 0, .int .i64 0, .int .i64 0, .int .i64 0, .int .i64 0, .int .i64 0, .int .i64 0, .string ⟨#[]⟩] #[.int .i64 rr.kind, .int .i64 rr.epoch, .int .i64 rr.seq, .int .i64 rr.tx, .int .i64 rr.index, .int .i64 rr.count, .int .i64 rr.page, .string rr.data] := ⟨by kernel_rfl, rfl, by simp [Value.oneCell']⟩
        clear hrd
        go_wp2_with (with_reducible refine wpList_store_row2 rfl 87 (.tmp 8) (.tmp 30) rfl w4.heap.size #[.int .i64 rr.kind, .int .i64 rr.epoch, .int .i64 rr.seq, .int .i64 rr.tx, .int .i64 rr.index, .int .i64 rr.count, .int .i64 rr.page, .string rr.data] rfl rfl 87 #[.int .i64 0, .int .i64 0, .int .i64 0, .int .i64 0, .int .i64 0, .int .i64 0, .int .i64 0, .string ⟨#[]⟩] gW K1 ?_)
        have gR := setRow_heap _ w4.heap.size _ #[.int .i64 rr.kind, .int .i64 rr.epoch, .int .i64 rr.seq, .int .i64 rr.tx, .int .i64 rr.index, .int .i64 rr.count, .int .i64 rr.page, .string rr.data] _ _ gW
        have BR := below_setRow Zn (Nat.le_refl _) #[.int .i64 rr.kind, .int .i64 rr.epoch, .int .i64 rr.seq, .int .i64 rr.tx, .int .i64 rr.index, .int .i64 rr.count, .int .i64 rr.page, .string rr.data]
        generalize (w4.alloc (.cells #[.int .i64 0, .int .i64 0, .int .i64 0, .int .i64 0, .int .i64 0, .int .i64 0, .int .i64 0, .string ⟨#[]⟩] 87)).setRow w4.heap.size #[.int .i64 rr.kind, .int .i64 rr.epoch, .int .i64 rr.seq, .int .i64 rr.tx, .int .i64 rr.index, .int .i64 rr.count, .int .i64 rr.page, .string rr.data] = w7 at gR BR ⊢
        have b7r : Below wr.heap.size wr w7 := b4.trans (BR.mono b4.size)
        have b7 : Below w3.heap.size w3 w7 := bj.trans (b7r.mono bj.size)
        have o7 := oj.below b7r
        have h7 := h3.below b7
        have g7 := (b7.block _ (lt_of_heap g3)).trans g3
        clear Zn gW K1 b4 BR oj
        have hS : Below w7.heap.size w7 w7.drew := (Below.refl _ _).drew
        have hlb := lt_of_heap h7
        cases bb
        · have HN := Lib.hid (txA_no ha.out (.inl HBB.out))
          have FIN := Lib.hid (txPost_no (show txR d l r n = none by
            rw [HR.out, show n + 1 = (j + 1) + (n - j) by omega]; exact txA_stuck HN.out _) (BW.trans (b7.drew.mono BW.size)))
          clear o7 h7 g7 b7 b7r bj
          go_wp2_with fail
          refine wp_region_held_drew (S := fun w' => w' = w7.drew) mixed rfl (fun hS => ?_)
          show wpAnyH _ _ _ _ _ 13 (Array.replicate 13 false) _ _
          refine wpAnyH_take_d 0 (some 32) (.bool false) rfl (by kernel_rfl) (by kernel_rfl) (by kernel_rfl) (by kernel_rfl) rfl (fun _ _ _ h => h) (fun _ _ => by kernel_rfl) (by exact hS) ?_
          simp only [Act.put, List.setIfInBounds_toArray, List.set_cons_succ, List.set_cons_zero]
          refine wpAnyH_take_d 1 (some 33) (.bool true) rfl (by kernel_rfl) (by kernel_rfl) (by kernel_rfl) (by kernel_rfl) rfl (fun _ _ _ h => h) (fun _ _ => by kernel_rfl) (by exact hS) ?_
          simp only [Act.put, List.setIfInBounds_toArray, List.set_cons_succ, List.set_cons_zero]
          refine wpAnyH_take_d 2 (some 34) (.bool true) rfl (by kernel_rfl) (by kernel_rfl) (by kernel_rfl) (by kernel_rfl) rfl (fun _ _ _ h => h) (fun _ _ => by kernel_rfl) (by exact hS) ?_
          simp only [Act.put, List.setIfInBounds_toArray, List.set_cons_succ, List.set_cons_zero]
          refine wpAnyH_skip_d 3 (some 35) rfl (by kernel_rfl) (by kernel_rfl) (by kernel_rfl) (by kernel_rfl) rfl (fun _ _ _ h => h) (by exact hS) ?_
          simp only [Act.put, List.setIfInBounds_toArray, List.set_cons_succ, List.set_cons_zero]
          refine wpAnyH_skip_d 4 (some 36) rfl (by kernel_rfl) (by kernel_rfl) (by kernel_rfl) (by kernel_rfl) rfl (fun _ _ _ h => h) (by exact hS) ?_
          simp only [Act.put, List.setIfInBounds_toArray, List.set_cons_succ, List.set_cons_zero]
          refine wpAnyH_skip_d 5 (some 37) rfl (by kernel_rfl) (by kernel_rfl) (by kernel_rfl) (by kernel_rfl) rfl (fun _ _ _ h => h) (by exact hS) ?_
          simp only [Act.put, List.setIfInBounds_toArray, List.set_cons_succ, List.set_cons_zero]
          refine wpAnyH_skip_d 6 (some 38) rfl (by kernel_rfl) (by kernel_rfl) (by kernel_rfl) (by kernel_rfl) rfl (fun _ _ _ h => h) (by exact hS) ?_
          simp only [Act.put, List.setIfInBounds_toArray, List.set_cons_succ, List.set_cons_zero]
          refine wpAnyH_skip_d 7 (some 39) rfl (by kernel_rfl) (by kernel_rfl) (by kernel_rfl) (by kernel_rfl) rfl (fun _ _ _ h => h) (by exact hS) ?_
          simp only [Act.put, List.setIfInBounds_toArray, List.set_cons_succ, List.set_cons_zero]
          refine wpAnyH_skip_d 8 (some 40) rfl (by kernel_rfl) (by kernel_rfl) (by kernel_rfl) (by kernel_rfl) rfl (fun _ _ _ h => h) (by exact hS) ?_
          simp only [Act.put, List.setIfInBounds_toArray, List.set_cons_succ, List.set_cons_zero]
          refine wpAnyH_skip_d 9 (some 41) rfl (by kernel_rfl) (by kernel_rfl) (by kernel_rfl) (by kernel_rfl) rfl (fun _ _ _ h => h) (by exact hS) ?_
          simp only [Act.put, List.setIfInBounds_toArray, List.set_cons_succ, List.set_cons_zero]
          refine wpAnyH_skip_d 10 (some 42) rfl (by kernel_rfl) (by kernel_rfl) (by kernel_rfl) (by kernel_rfl) rfl (fun _ _ _ h => h) (by exact hS) ?_
          simp only [Act.put, List.setIfInBounds_toArray, List.set_cons_succ, List.set_cons_zero]
          refine wpAnyH_skip_d 11 (some 43) rfl (by kernel_rfl) (by kernel_rfl) (by kernel_rfl) (by kernel_rfl) rfl (fun _ _ _ h => h) (by exact hS) ?_
          simp only [Act.put, List.setIfInBounds_toArray, List.set_cons_succ, List.set_cons_zero]
          refine wpAnyH_take_d 12 (some 44) (.bool true) rfl (by kernel_rfl) (by kernel_rfl) (by kernel_rfl) (by kernel_rfl) rfl (fun _ _ _ h => h) (fun _ _ => by kernel_rfl) (by exact hS) ?_
          simp only [Act.put, List.setIfInBounds_toArray, List.set_cons_succ, List.set_cons_zero]
          refine wpAnyH_done (by kernel_rfl) ?_ _
          go_wp2
          go_returns
          exact FIN.out
        · have hfo := fun wy => follows_any wy rr r l.next j hnx (by omega)
          rw [← HQ.out] at hfo
          obtain ⟨fb, hfb⟩ : ∃ fb, folB rr r l.next j = fb := ⟨_, rfl⟩
          have hfb' := hfb
          rw [← HQ.out] at hfb'
          rw [hfb'] at hfo
          have HFB := Lib.hid hfb
          clear hfb hfb'
          go_wp2_with fail
          refine wp_region_held_drew (S := fun w' => Below w7.heap.size w7 w') mixed hS (fun _ => ?_)
          show wpAnyH _ _ _ _ _ 13 (Array.replicate 13 false) _ _
          refine wpAnyH_take_d 0 (some 32) (.bool true) rfl (by kernel_rfl) (by kernel_rfl) (by kernel_rfl) (by kernel_rfl) rfl (fun _ _ _ h => h) (fun _ _ => by kernel_rfl) (by exact hS) ?_
          simp only [Act.put, List.setIfInBounds_toArray, List.set_cons_succ, List.set_cons_zero]
          refine wpAnyH_take_d 1 (some 33) (.bool false) rfl (by kernel_rfl) (by kernel_rfl) (by kernel_rfl) (by kernel_rfl) rfl (fun _ _ _ h => h) (fun _ _ => by kernel_rfl) (by exact hS) ?_
          simp only [Act.put, List.setIfInBounds_toArray, List.set_cons_succ, List.set_cons_zero]
          refine wpAnyH_take_d 2 (some 34) (.bool false) rfl (by kernel_rfl) (by kernel_rfl) (by kernel_rfl) (by kernel_rfl) rfl (fun _ _ _ h => h) (fun _ _ => by kernel_rfl) (by exact hS) ?_
          simp only [Act.put, List.setIfInBounds_toArray, List.set_cons_succ, List.set_cons_zero]
          refine wpAnyH_take_d 3 (some 35) (.agg #[.int .i64 rr.kind, .int .i64 rr.epoch, .int .i64 rr.seq, .int .i64 rr.tx, .int .i64 rr.index, .int .i64 rr.count, .int .i64 rr.page, .string rr.data]) rfl (by kernel_rfl) (by kernel_rfl) (by kernel_rfl) (by kernel_rfl) rfl (fun _ _ _ h => h) (fun w' h => exec_load_row rfl rfl ((h.block _ (lt_of_heap gR)).trans gR) Try.underlying87 rfl szLog8) (by exact hS) ?_
          simp only [Act.put, List.setIfInBounds_toArray, List.set_cons_succ, List.set_cons_zero]
          refine wpAnyH_take_d 4 (some 36) (.agg #[.int .i64 k, .int .i64 ep, .int .i64 s, .int .i64 tx, .int .i64 x, .int .i64 (n : Nat), .int .i64 p, .string dd]) rfl (by kernel_rfl) (by kernel_rfl) (by kernel_rfl) (by kernel_rfl) rfl (fun _ _ _ h => h) (fun w' h => exec_load_row rfl rfl ((h.block _ (lt_of_heap g7)).trans g7) Try.underlying87 rfl szLog8) (by exact hS) ?_
          simp only [Act.put, List.setIfInBounds_toArray, List.set_cons_succ, List.set_cons_zero]
          refine wpAnyH_take_d 5 (some 37) (.pointer (some ⟨lb, 0, none⟩)) rfl (by kernel_rfl) (by kernel_rfl) (by kernel_rfl) (by kernel_rfl) rfl (fun _ _ _ h => h) (fun _ _ => by kernel_rfl) (by exact hS) ?_
          simp only [Act.put, List.setIfInBounds_toArray, List.set_cons_succ, List.set_cons_zero]
          refine wpAnyH_take_d 6 (some 38) (.pointer (some ⟨lb, 0, none⟩)) rfl (by kernel_rfl) (by kernel_rfl) (by kernel_rfl) (by kernel_rfl) rfl (fun _ _ _ h => h) (fun _ _ => by kernel_rfl) (by exact hS) ?_
          simp only [Act.put, List.setIfInBounds_toArray, List.set_cons_succ, List.set_cons_zero]
          refine wpAnyH_take_d 7 (some 39) (.pointer (some ⟨lb, 4, none⟩)) rfl (by kernel_rfl) (by kernel_rfl) (by kernel_rfl) (by kernel_rfl) rfl (fun _ _ _ h => h) (fun _ _ => by kernel_rfl) (by exact hS) ?_
          simp only [Act.put, List.setIfInBounds_toArray, List.set_cons_succ, List.set_cons_zero]
          refine wpAnyH_take_d 8 (some 40) (.int .i64 (l.next : Nat)) rfl (by kernel_rfl) (by kernel_rfl) (by kernel_rfl) (by kernel_rfl) rfl (fun _ _ _ h => h) (fun w' h => exec_load_cell rfl rfl (cell_row (h7.below h) 4 rfl) Try.underlying3 rfl) (by exact hS) ?_
          simp only [Act.put, List.setIfInBounds_toArray, List.set_cons_succ, List.set_cons_zero]
          refine wpAnyH_take_d 9 (some 41) (.int .i64 (j : Nat)) rfl (by kernel_rfl) (by kernel_rfl) (by kernel_rfl) (by kernel_rfl) rfl (fun _ _ _ h => h) (fun _ _ => by kernel_rfl) (by exact hS) ?_
          simp only [Act.put, List.setIfInBounds_toArray, List.set_cons_succ, List.set_cons_zero]
          generalize w7.drew = wx at hS ⊢
          refine wpAnyH_call 10 (some 42) 64 #[logVal rr, .agg #[.int .i64 k, .int .i64 ep, .int .i64 s, .int .i64 tx, .int .i64 x, .int .i64 (n : Nat), .int .i64 p, .string dd], .int .i64 (l.next : Nat), .int .i64 (j : Nat)] rfl (by kernel_rfl) (by kernel_rfl) rfl (by kernel_rfl) (hfo wx) ?_
          rintro e w8 ⟨rfl, b8⟩
          have hS : Below w7.heap.size w7 w8 := hS.trans (b8.mono hS.size)
          refine ⟨_, rfl, hS, ?_⟩
          simp only [Act.put, List.setIfInBounds_toArray, List.set_cons_succ, List.set_cons_zero]
          have b8r := b7r.trans (hS.mono b7r.size)
          have b8w := b7.trans (hS.mono b7.size)
          cases fb
          · have HN := Lib.hid (txA_no ha.out (.inr (by rw [HRR.out]; exact HFB.out)))
            have FIN := Lib.hid (txPost_no (show txR d l r n = none by
              rw [HR.out, show n + 1 = (j + 1) + (n - j) by omega]; exact txA_stuck HN.out _) (BW.trans (b8w.mono BW.size)))
            refine wpAnyH_take_d 11 (some 43) (.bool true) rfl (by kernel_rfl) (by kernel_rfl) (by kernel_rfl) (by kernel_rfl) rfl (fun _ _ _ h => h) (fun _ _ => by kernel_rfl) (by exact hS) ?_
            simp only [Act.put, List.setIfInBounds_toArray, List.set_cons_succ, List.set_cons_zero]
            refine wpAnyH_take_d 12 (some 44) (.bool true) rfl (by kernel_rfl) (by kernel_rfl) (by kernel_rfl) (by kernel_rfl) rfl (fun _ _ _ h => h) (fun _ _ => by kernel_rfl) (by exact hS) ?_
            simp only [Act.put, List.setIfInBounds_toArray, List.set_cons_succ, List.set_cons_zero]
            refine wpAnyH_done (by kernel_rfl) ?_ _
            clear o7 h7 g7 b7 b7r bj b8r b8w hS gR hfo b8
            go_wp2
            go_returns
            exact FIN.out
          · have HN := Lib.hid (txA_yes ha.out HBB.out (by rw [HRR.out]; exact HFB.out))
            refine wpAnyH_take_d 11 (some 43) (.bool false) rfl (by kernel_rfl) (by kernel_rfl) (by kernel_rfl) (by kernel_rfl) rfl (fun _ _ _ h => h) (fun _ _ => by kernel_rfl) (by exact hS) ?_
            simp only [Act.put, List.setIfInBounds_toArray, List.set_cons_succ, List.set_cons_zero]
            refine wpAnyH_take_d 12 (some 44) (.bool false) rfl (by kernel_rfl) (by kernel_rfl) (by kernel_rfl) (by kernel_rfl) rfl (fun _ _ _ h => h) (fun _ _ => by kernel_rfl) (by exact hS) ?_
            simp only [Act.put, List.setIfInBounds_toArray, List.set_cons_succ, List.set_cons_zero]
            refine wpAnyH_done (by kernel_rfl) ?_ _
            rw [HRR.out] at HN
            have g8 := (hS.block _ (lt_of_heap g7)).trans g7
            have r8 := (hS.block _ (lt_of_heap gR)).trans gR
            have o8 := o7.below hS
            have c5' : w8.cell? ⟨w.heap.size, 5, none⟩ = some (.int .i64 (n : Nat)) := cell_row g8 5 rfl
            have q6 : w8.cell? ⟨w4.heap.size, 6, none⟩ = some (.int .i64 rr.page) := cell_row r8 6 rfl
            have q7 : w8.cell? ⟨w4.heap.size, 7, none⟩ = some (.string rr.data) := cell_row r8 7 rfl
            clear o7 h7 g7 b7 b7r bj hS gR hfo b8 g8 r8 hlb
            by_cases hjn : j < n
            · rw [if_pos hjn] at HN
              have hio : Im.ok ⟨rr.page, rr.data⟩ := by
                have hz := wlRec_ok HBB.out
                rw [HRR.out] at hz
                exact ⟨hz.2.2.2.2.2.2.2.1, by have := logOk_size hz.1; simp only; omega⟩
              have haj : a.length ≤ 4096 := by have := txA_length ha.out; omega
              have hb2 := build_im rr.page rr.data
              have hbs : (Instr.buildSlice 44 1 #[(0, .agg #[.int .i64 rr.page, .string rr.data])]).run Try.prog w8 = .ok (.slice (some ⟨w8.heap.size, 0, none⟩) 1 1) (w8.alloc (.cells #[.int .i64 rr.page, .string rr.data] 50)) := build_imgs_one w8 ⟨rr.page, rr.data⟩
              have hit := imgs_one w8 ⟨rr.page, rr.data⟩ hio
              obtain ⟨v9, w9, hr9, o9, b9, s9⟩ := own_append_imgs (o8.alloc (.cells #[.int .i64 rr.page, .string rr.data] 50)) hit (by simp; omega) (by have := b8w.size; simp; omega) 44
              have b9w := (b8w.alloc b8w.size (.cells #[.int .i64 rr.page, .string rr.data] 50)).trans b9
              obtain ⟨lo9, lm9, lc9, hv9, hm9⟩ := o9.form'
              subst hv9
              have HR9 := Lib.hid hr9
              clear hr9 hit b9 s9 o8 b8w b8r hio
              go_wp2_with (with_reducible refine wpList_append_eq rfl (.tmp 49) (.tmp 55) 44 44 rfl (.slice lo lm lc) (.slice (some ⟨w8.heap.size, 0, none⟩) 1 1) (.slice lo9 lm9 lc9) rfl rfl HR9.out ?_)
              go_roundw
              case rel => exact ⟨j + 1, by omega, by go_num, _, HN, o9, b9w⟩
              case measure => simp [intOf]; omega
            · rw [if_neg hjn] at HN
              go_wp2
              go_roundw
              case rel => exact ⟨j + 1, by omega, by go_num, a, HN, o8, b8w⟩
              case measure => simp [intOf]; omega
      · obtain rfl : j = n + 1 := by omega
        have FIN := Lib.hid (txPost_yes (show txR d l r n = some a by rw [HR.out, ha.out]) (oj.base (by have := hw3; omega)) (BW.trans (bj.mono BW.size)))
        clear oj bj
        go_wp2
        go_returns
        exact FIN.out
end Go.Proofs.Ytbgefdigmdfalaa
