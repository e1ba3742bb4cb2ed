/- A step of the statements' script: Read. No statement of the seat is proved here. -/
import Derived.Test.YtfdabkcbefhdaaaRStep1
namespace Go.Proofs.Ytfdabkcbefhdaaa
set_option maxRecDepth 20000
open Go.RowKit

theorem ex_slenm {P : Program} {w : World} {ρ : Operand → Value} {o : Oper} {t : TypeId} {x : Operand} {s : ByteArray} {m : Nat} (hm : s.size = m) (ho : o.op = .call { callee := .builtin .len, args := #[x], argTypes := #[t] }) (hx : ρ x = .string s) (hu : P.underlying t = some .string) : (execOp ρ o).run P w = .ok (.value (.int .i64 m)) w := by
  rw [← hm]; exact ex_slen ho hx hu
theorem over_set (u : Value) (l : List Value) (k : Nat) (h : k < l.length) : (List.replicate k u ++ l.drop k).set k u = List.replicate (k + 1) u ++ l.drop (k + 1) := by
  rw [List.set_append, List.replicate_succ']
  simp
  rw [List.drop_eq_getElem_cons h]
  rfl
theorem over_len (u : Value) (l : List Value) (k : Nat) (h : k ≤ l.length) : (List.replicate k u ++ l.drop k).length = l.length := by simp; omega
theorem over_at (u : Value) (l : List Value) (k : Nat) : (List.replicate k u ++ l.drop k)[k]? = l[k]? := by
  rw [List.getElem?_append_right (by simp), List.getElem?_drop]; simp
set_option maxRecDepth 20000 in
set_option maxHeartbeats 1600000 in
theorem step1 {B : Nat} {w : World} {db rb : Nat} {d : Dev} {N : Nat} (h : Two B w db rb d N) (hB : B ≤ w.heap.size) (hlen : d.waits.length < 1000) (x1 x2 x3 : Int) (pv : Value) :
    Calls Try.prog 20 #[.pointer (some ⟨db, 0, none⟩), .pointer (some ⟨rb, 0, none⟩), .agg #[.int .i64 1, .int .i64 x1, .int .i64 x2, .int .i64 x3, pv]] w fun e w' => StepTo B w db rb d N e w' := by
  have hb0 := box_below w (.cells #[.int .i64 1, .int .i64 x1, .int .i64 x2, .int .i64 x3, pv] 42 (0, 0))
  have h0 := h.below hb0
  have hnew := heap_alloc_new w (.cells #[.int .i64 1, .int .i64 x1, .int .i64 x2, .int .i64 x3, pv] 42 (0, 0))
  obtain ⟨wa, hwa⟩ : ∃ wa, w.alloc (.cells #[.int .i64 1, .int .i64 x1, .int .i64 x2, .int .i64 x3, pv] 42 (0, 0)) = wa := ⟨_, rfl⟩
  have hsa : w.heap.size < wa.heap.size := by rw [← hwa]; simp
  rw [hwa] at hb0 h0 hnew
  have hba := hb0.mono hB
  have hsB := Nat.le_trans hB hb0.size
  have HWA := Lib.hid hwa
  clear hwa h
  go_enter Try.func20, Try.ntmps20
  go_wp2_with fail
  rw [HWA.out]
  refine (read_any h0.a x1 (by omega)).mono ?_
  rintro e w1 ⟨v, rfl, o1, b1⟩
  have c1 := cell_row ((b1.block _ hsa).trans hnew) 1 rfl
  have hrd := rread_any (h0.below b1).b x1 (by omega)
  obtain ⟨bs, hbs⟩ : ∃ bs, (d.read x1).1 = bs := ⟨_, rfl⟩
  obtain ⟨er, her⟩ : ∃ er, (d.read x1).2 = er := ⟨_, rfl⟩
  rw [hbs, her] at hrd
  rw [hbs] at o1
  rw [her]
  obtain ⟨s, hs⟩ : ∃ s : ByteArray, s = ⟨bs.toArray⟩ := ⟨_, rfl⟩
  rw [← hs] at hrd
  have hsz : s.size = bs.length := by rw [hs]; exact by show bs.toArray.size = _; simp
  obtain ⟨ao, cap, rfl⟩ := ownsRow_slice o1
  obtain ⟨m, hm⟩ : ∃ m, bs.length = m := ⟨_, rfl⟩
  have HM := Lib.hid hm
  have HS := Lib.hid hs
  unfold OwnB at o1
  rw [hm] at o1 hsz
  rw [hm]
  have hrow : w1.ownsRow wa.heap.size 5 1 (.slice ao m cap) m (List.replicate 0 (.int .u8 170) ++ (cellsB bs).drop 0) := by simpa using o1
  have hmx : m ≤ 9223372036854775807 := by
    obtain ⟨_, _, _, _, hx⟩ := ownsRow_form hrow
    unfold maxLen at hx; omega
  clear hbs her hs hm o1 hnew
  go_wp2_with fail
  refine hrd.mono ?_
  rintro e w1' ⟨rfl, rfl⟩
  clear hrd c1
  go_wp2
  go_loopw [11] (fun iv wr => ∃ k : Nat, k ≤ m ∧ iv = .int .i64 k ∧ wr.ownsRow wa.heap.size 5 1 (.slice ao m cap) m (List.replicate k (.int .u8 170) ++ (cellsB bs).drop k) ∧ Below wa.heap.size wa wr) (fun iv _ => m - (intOf iv).toNat)
  case atStart => exact ⟨0, Nat.zero_le _, rfl, hrow, b1⟩
  case round =>
    obtain ⟨k, hk, rfl, hok, hbk⟩ := hrel
    by_cases hlt : k < m
    · have hlk : k < bs.length := by have := HM.out; omega
      obtain ⟨g, cap', hv, hg, hgl⟩ := World.ownsRow.form hok (by omega)
      simp only [Value.slice.injEq] at hv
      obtain ⟨rfl, -, -⟩ := hv
      have hat : (List.replicate k (Value.int .u8 170) ++ (cellsB bs).drop k)[k]? = some (.int .u8 ((bs[k]'hlk).toNat : Nat)) := by
        rw [over_at, cellsB, List.getElem?_map, List.getElem?_eq_getElem hlk]; rfl
      obtain ⟨u, hu⟩ : ∃ u, bs[k]'hlk = u := ⟨_, rfl⟩
      have hbk? : bs[k]? = some u := by rw [List.getElem?_eq_getElem hlk, hu]
      rw [hu] at hat
      have hck := hok.cellAt k (by omega)
      rw [hat] at hck
      have hfk := hok.frozenAt k
      have hst := (hok.stored k (.int .u8 170)).1
      rw [over_set _ _ _ (by rw [cellsB_length]; omega)] at hst
      have HST := Lib.hid hst
      have FC : ∀ w', w' = wr.drew → w'.cell? ⟨g, k, none⟩ = some (.int .u8 ((u.toNat : Nat) : Int)) := fun w' hw => by rw [hw]; exact hck
      have HFC := Lib.hid FC
      have HSM : Hid (decide ((k : Int) < (m : Int)) = true) := Lib.hid (by simpa using hlt)
      have HBK := Lib.hid hbk
      have HU := Lib.hid hbk?
      clear hst hok FC hrow hu hat hbk hbk?
      go_wp2_with fail
      have hS : wr.drew = wr.drew := rfl
      refine wp_region_held_drew (S := fun w' => w' = wr.drew) mixed hS (fun _ => ?_)
      show wpAnyH _ _ _ _ _ 14 (Array.replicate 14 false) _ _
      refine wpAnyH_take_d 0 (some 41) (.int .i64 k) rfl (by kernel_rfl) (by kernel_rfl) (by kernel_rfl) (by kernel_rfl) rfl (fun _ _ _ h => h) (fun _ _ => by kernel_rfl) (by exact hS) ?_
      simp only [Act.put, List.setIfInBounds_toArray, List.set_cons_succ, List.set_cons_zero]
      refine wpAnyH_take_d 1 (some 42) (.string s) rfl (by kernel_rfl) (by kernel_rfl) (by kernel_rfl) (by kernel_rfl) rfl (fun _ _ _ h => h) (fun _ _ => by kernel_rfl) (by exact hS) ?_
      simp only [Act.put, List.setIfInBounds_toArray, List.set_cons_succ, List.set_cons_zero]
      refine wpAnyH_take_d 2 (some 43) (.int .i64 m) rfl (by kernel_rfl) (by kernel_rfl) (by kernel_rfl) (by kernel_rfl) rfl (fun _ _ _ h => h) (fun _ _ => ex_slenm hsz rfl rfl Try.underlying9) (by exact hS) ?_
      simp only [Act.put, List.setIfInBounds_toArray, List.set_cons_succ, List.set_cons_zero]
      refine wpAnyH_take_d 3 (some 44) (.bool true) rfl (by kernel_rfl) (by kernel_rfl) (by kernel_rfl) (by kernel_rfl) rfl (fun _ _ _ h => h) (fun _ _ => ex_lt rfl rfl rfl HSM.out) (by exact hS) ?_
      simp only [Act.put, List.setIfInBounds_toArray, List.set_cons_succ, List.set_cons_zero]
      refine wpAnyH_take_d 4 (some 45) (.bool true) rfl (by kernel_rfl) (by kernel_rfl) (by kernel_rfl) (by kernel_rfl) rfl (fun _ _ _ h => h) (fun _ _ => by kernel_rfl) (by exact hS) ?_
      simp only [Act.put, List.setIfInBounds_toArray, List.set_cons_succ, List.set_cons_zero]
      refine wpAnyH_take_d 5 (some 46) (.slice (some ⟨g, 0, none⟩) m cap) rfl (by kernel_rfl) (by kernel_rfl) (by kernel_rfl) (by kernel_rfl) rfl (fun _ _ _ h => h) (fun _ _ => by kernel_rfl) (by exact hS) ?_
      simp only [Act.put, List.setIfInBounds_toArray, List.set_cons_succ, List.set_cons_zero]
      refine wpAnyH_take_d 6 (some 47) (.int .i64 k) rfl (by kernel_rfl) (by kernel_rfl) (by kernel_rfl) (by kernel_rfl) rfl (fun _ _ _ h => h) (fun _ _ => by kernel_rfl) (by exact hS) ?_
      simp only [Act.put, List.setIfInBounds_toArray, List.set_cons_succ, List.set_cons_zero]
      refine wpAnyH_take_d 7 (some 48) (.pointer (some ⟨g, 0 + k, none⟩)) rfl (by kernel_rfl) (by kernel_rfl) (by kernel_rfl) (by kernel_rfl) rfl (fun _ _ _ h => h) (fun _ _ => ex_index1 rfl rfl rfl hlt Try.underlying31 (by kernel_rfl)) (by exact hS) ?_
      simp only [Act.put, List.setIfInBounds_toArray, List.set_cons_succ, List.set_cons_zero]
      refine wpAnyH_take_d 8 (some 49) (.int .u8 ((u.toNat : Nat) : Int)) rfl (by kernel_rfl) (by kernel_rfl) (by kernel_rfl) (by kernel_rfl) rfl (fun _ _ _ h => h) (fun w' h => exec_load_cell rfl rfl (by rw [Nat.zero_add]; exact HFC.out _ h) Try.underlying5 rfl) (by exact hS) ?_
      simp only [Act.put, List.setIfInBounds_toArray, List.set_cons_succ, List.set_cons_zero]
      refine wpAnyH_take_d 9 (some 50) (.string s) rfl (by kernel_rfl) (by kernel_rfl) (by kernel_rfl) (by kernel_rfl) rfl (fun _ _ _ h => h) (fun _ _ => by kernel_rfl) (by exact hS) ?_
      simp only [Act.put, List.setIfInBounds_toArray, List.set_cons_succ, List.set_cons_zero]
      refine wpAnyH_take_d 10 (some 51) (.int .i64 k) rfl (by kernel_rfl) (by kernel_rfl) (by kernel_rfl) (by kernel_rfl) rfl (fun _ _ _ h => h) (fun _ _ => by kernel_rfl) (by exact hS) ?_
      simp only [Act.put, List.setIfInBounds_toArray, List.set_cons_succ, List.set_cons_zero]
      refine wpAnyH_take_d 11 (some 52) (.int .u8 ((u.toNat : Nat) : Int)) rfl (by kernel_rfl) (by kernel_rfl) (by kernel_rfl) (by kernel_rfl) rfl (fun _ _ _ h => h) (fun _ _ => ex_sidx HS.out rfl rfl rfl HU.out) (by exact hS) ?_
      simp only [Act.put, List.setIfInBounds_toArray, List.set_cons_succ, List.set_cons_zero]
      refine wpAnyH_take_d 12 (some 53) (.bool false) rfl (by kernel_rfl) (by kernel_rfl) (by kernel_rfl) (by kernel_rfl) rfl (fun _ _ _ h => h) (fun _ _ => ex_ne rfl rfl rfl (by simp)) (by exact hS) ?_
      simp only [Act.put, List.setIfInBounds_toArray, List.set_cons_succ, List.set_cons_zero]
      refine wpAnyH_take_d 13 (some 54) (.bool false) rfl (by kernel_rfl) (by kernel_rfl) (by kernel_rfl) (by kernel_rfl) rfl (fun _ _ _ h => h) (fun _ _ => by kernel_rfl) (by exact hS) ?_
      simp only [Act.put, List.setIfInBounds_toArray, List.set_cons_succ, List.set_cons_zero]
      refine wpAnyH_done (by kernel_rfl) ?_ _
      have ck : wr.drew.cell? ⟨g, k, none⟩ = some (.int .u8 ((u.toNat : Nat) : Int)) := hck
      have fk : wr.drew.frozen? ⟨g, k, none⟩ = false := hfk
      clear HFC HSM HU hck hfk hS
      go_wp2
      go_roundw
      case rel => exact ⟨k + 1, by omega, by go_num, HST.out, HBK.out.drew.setCell hg _⟩
      case measure => simp [intOf]; omega
    · obtain rfl : k = m := by omega
      have FIN : Hid (StepTo B w db rb d N (.returned (.bool true)) wr) := Lib.hid ⟨rfl, _, _, h0.below hbk, hba.trans (hbk.mono hsB), rfl, Nat.le_succ _, Nat.le_add_right _ _⟩
      have hszI : ((k : Nat) : Int) = ((s.size : Nat) : Int) := by rw [hsz]
      clear hok hbk hrow
      go_wp2
      go_ret
      exact FIN.out
end Go.Proofs.Ytfdabkcbefhdaaa
