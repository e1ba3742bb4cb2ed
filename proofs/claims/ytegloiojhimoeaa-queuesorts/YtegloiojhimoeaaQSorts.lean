/- What is popped comes by priority, of alike ones in the order of pushing; each comes once; the list is what is popped: the law cisternlaw05.QueueSorts returns true at every input. No condition. -/
import Derived.Test.YtegloiojhimoeaaQHas
import Derived.BigQuiet
namespace Go.Proofs.Ytegloiojhimoeaa.queueSorts
open Go.RowKit Go.ChangeShapes Go.WideShapes Go.ChangeAt

theorem own : ownKnob Try.prog.godebug = none := by kernel_rfl
set_option maxHeartbeats 400000 in
theorem nobody_any (w : World) : Calls Try.prog 12 #[] w fun e w' => e = .returned (.pointer none) ∧ w = w' := by
  go_enter Try.func12, Try.ntmps12
  go_wp2
  go_ret
  exact ⟨rfl, rfl⟩
theorem min_head {M S : List Wt} {m : Wt} (hp : M.Perm S) (hs : M.Pairwise (fun a b => a.ky < b.ky)) (h : IsMin m S) : at' M 0 = m := by
  obtain ⟨i, hi, rfl⟩ := mem_at (hp.mem_iff.2 h.1)
  by_cases e : i = 0
  · rw [e]
  · have h1 := sorted_at hs (show 0 < i by omega) hi
    have h2 := h.2 _ (hp.mem_iff.1 (at_mem (L := M) (i := 0) (by omega)))
    omega
/-- M from place j on is what waits -/
theorem del_drop {M S : List Wt} {j : Nat} (hj : j < M.length) (hp : (M.drop j).Perm S) (ids : S.Pairwise (fun a b => a.id ≠ b.id)) : (M.drop (j + 1)).Perm (del S (at' M j).id) := by
  have e : M.drop j = at' M j :: M.drop (j + 1) := by rw [List.drop_eq_getElem_cons hj, at_eq hj]
  rw [e] at hp
  have h2 : ((at' M j :: M.drop (j + 1)).filter (fun y => decide (y.id ≠ (at' M j).id))).Perm (del S (at' M j).id) := hp.filter _
  have h3 : (at' M j :: M.drop (j + 1)).Pairwise (fun a b => a.id ≠ b.id) := (hp.pairwise_iff (fun {a b} h => Ne.symm h)).2 ids
  rw [List.pairwise_cons] at h3
  have h4 : (at' M j :: M.drop (j + 1)).filter (fun y => decide (y.id ≠ (at' M j).id)) = M.drop (j + 1) := by
    rw [List.filter_cons, if_neg (by simp)]
    exact List.filter_eq_self.2 (fun a ha => by simpa using Ne.symm (h3.1 a ha))
  rw [h4] at h2
  exact h2
theorem at_drop0 (M : List Wt) (j : Nat) : at' (M.drop j) 0 = at' M j := by simp [at', List.getD_eq_getElem?_getD]

theorem own_obj {w : World} {base : Nat} {e : TypeId} {size g m n cap : Nat} {xs : List Value} (h : w.ownsRow base e size (.slice (some ⟨g, 0, none⟩) m cap) n xs) : ∃ cur, w.heap[g]? = some (.cells cur e (0, 0)) := by
  rcases h.2 with ⟨h', _⟩ | ⟨g', cap', cur, h', _, hg, _⟩
  · simp at h'
  · simp only [Value.slice.injEq, Option.some.injEq, Addr.mk.injEq, and_true] at h'
    obtain ⟨rfl, -, rfl⟩ := h'
    exact ⟨cur, hg⟩
/-- The row of what was seen. -/
def Seen (X : Nat → Prop) (w : World) (v : Value) (n : Nat) (f : Nat → Bool) : Prop := w.ownsRow 0 4 1 v n ((List.range n).map (fun k => .bool (f k))) ∧ ∀ k, v.ownBlock = some k → X k
theorem Seen.kp {X : Nat → Prop} {w w' : World} {v : Value} {n : Nat} {f : Nat → Bool} (h : Seen X w v n f) (kp : Kp X w w') : Seen X w' v n f :=
  ⟨ownsRow_keep h.1 (fun k hk => by
    obtain ⟨_, h2⟩ := World.ownsRow.lt h.1 k hk
    have e : w.heap[k]? = some w.heap[k] := Array.getElem?_eq_getElem h2
    rw [kp.keep k _ (h.2 k hk) e, e]), h.2⟩
theorem Seen.below {X : Nat → Prop} {w w' : World} {v : Value} {n : Nat} {f : Nat → Bool} (h : Seen X w v n f) (hb : Below w.heap.size w w') : Seen X w' v n f := ⟨ownsRow_below h.1 hb, h.2⟩
theorem seen_set (n c : Nat) (f : Nat → Bool) : ((List.range n).map (fun k => Value.bool (f k))).set c (.bool true) = (List.range n).map (fun k => .bool (if k = c then true else f k)) := by
  refine List.ext_getElem (by simp) (fun i h1 h2 => ?_)
  simp only [List.getElem_set, List.getElem_map, List.getElem_range]
  by_cases e : c = i
  · simp [e]
  · rw [if_neg e, if_neg (fun h => e h.symm)]
def upTo (M : List Wt) (j c : Nat) : Bool := (List.range j).any (fun i => decide ((at' M i).id = (c : Int)))
theorem upTo_succ (M : List Wt) (j c : Nat) : upTo M (j + 1) c = (upTo M j c || decide ((at' M j).id = (c : Int))) := by
  unfold upTo; rw [List.range_succ, List.any_append]; simp
theorem upTo_no {M S : List Wt} (hp : M.Perm S) (ids : S.Pairwise (fun a b => a.id ≠ b.id)) {j : Nat} (hj : j < M.length) {c : Nat} (hc : (at' M j).id = (c : Int)) : upTo M j c = false := by
  unfold upTo
  rw [List.any_eq_false]
  intro i hi
  have hij := List.mem_range.1 hi
  have h3 : M.Pairwise (fun a b => a.id ≠ b.id) := (hp.pairwise_iff (fun {a b} h => Ne.symm h)).2 ids
  have := List.pairwise_iff_getElem.1 h3 i j (by omega) hj hij
  rw [← at_eq (by omega), ← at_eq hj, hc] at this
  simpa using this

theorem infoB : ∃ i, Try.prog.info? 4 = some i ∧ i.zero = some (.bool false) ∧ i.size = 1 ∧ i.bytes = 1 := by
  have h : (Try.prog.info? 4).map (fun i => (i.zero, i.size, i.bytes)) = some (some (.bool false), 1, 1) := by kernel_rfl
  cases hq : Try.prog.info? 4 with
  | none => rw [hq] at h; simp at h
  | some i => rw [hq] at h; simp at h; exact ⟨i, rfl, h.1, h.2.1, h.2.2⟩
theorem make_seen (w : World) (n : Nat) (hn : n ≤ 1000) (M : List Wt) : ∃ w', (Instr.makeSlice 41 (.int .i64 n) (.int .i64 n)).run Try.prog w = .ok (.slice (some ⟨w.heap.size, 0, none⟩) n n) w' ∧ w'.ownsRow w.heap.size 4 1 (.slice (some ⟨w.heap.size, 0, none⟩) n n) n ((List.range n).map (fun k => .bool (upTo M 0 k))) ∧ Below w.heap.size w w' := by
  obtain ⟨i, hi, hz, hs, hb⟩ := infoB
  obtain ⟨w', hr, ho, hg⟩ := run_make_full (P := Try.prog) w w.heap.size 41 4 i (.bool false) 1 Try.underlying41 hi hz hs .i64 .i64 n (by rw [hb]; omega) (by unfold maxLen; omega) (Nat.le_refl _)
  refine ⟨w', hr, ?_, (Below.refl _ _).grown hg (Nat.le_refl _) (fun k e => by cases e)⟩
  have e : (madeCells (Value.bool false).cells (n * 1)).toList = (List.range n).map (fun k => .bool (upTo M 0 k)) := by
    rw [show (Value.bool false).cells = #[.bool false] from rfl, toList_madeCells_one, Nat.mul_one]
    refine List.ext_getElem (by simp) (fun j h1 h2 => ?_)
    simp [upTo]
  rw [e] at ho
  exact ho

set_option maxRecDepth 20000 in
set_option maxHeartbeats 6400000 in
theorem walk (v0 : Value) (z0 : List Nat) (W : World) (w0 : FloatsArg W v0 z0) :
    Calls Try.prog 4 #[v0] W fun e w' => e = .returned (.bool true) ∧ Below W.heap.size W w' := by
  obtain ⟨ao, cap, rfl, hl0, -⟩ := w0.1.form
  go_enter Try.func4, Try.ntmps4
  go_wp2_with fail
  refine (known_any W).mono ?_
  rintro e w1 ⟨rfl, b1⟩
  go_wp2_with fail
  refine (nobody_any _).mono ?_
  rintro e _ ⟨rfl, rfl⟩
  go_wp2_with fail
  refine (len_nil _).mono ?_
  rintro e _ ⟨rfl, rfl⟩
  go_wp2_with fail
  refine (nobody_any _).mono ?_
  rintro e _ ⟨rfl, rfl⟩
  go_wp2_with fail
  refine (push_nil _ _ _).mono ?_
  rintro e _ ⟨rfl, rfl⟩
  go_wp2_with fail
  refine (new_any w1).mono ?_
  rintro e w2 ⟨rfl, q2, b2⟩
  go_wp2
  obtain ⟨n, hn⟩ : ∃ n, n = min z0.length 100 := ⟨_, rfl⟩
  have hm : min (z0.length : Int) 100 = (n : Int) := by omega
  rw [hm]
  have B2 : Hid (Below W.heap.size W w2) := b1.trans (b2.mono b1.size)
  have hsz := b1.size
  have Q2 : Hid (QAt (fun k => k < W.heap.size) w2 w1.heap.size [] 0 0) := q2.less (fun k e => Nat.lt_of_lt_of_le e hsz)
  have hz := zs_lt w0.2
  have hn100 : n ≤ 100 := by omega
  have hnz : n ≤ z0.length := by omega
  clear b1 b2 q2 hm hn
  obtain ⟨z, hze⟩ : ∃ z : Nat → Nat, z = fun i => z0.getD i 0 := ⟨_, rfl⟩
  have hz' : ∀ i, z i < 18446744073709551616 := fun i => by rw [hze]; exact hz i
  have hat : ∀ w', Below W.heap.size W w' → ∀ i, i < z0.length → ∃ b off, ao = some ⟨b, off, none⟩ ∧ w'.cell? ⟨b, off + i, none⟩ = some (.float .f64 (z i)) := fun w' hb i hi => by
    rw [hze]; exact w0.1.at hb hi
  have AT := Lib.hid hat
  clear hat hz hze w0
  generalize z0.length = m at *
  go_loopw [5] (fun kv wr => ∃ (k : Nat) (S : List Wt), k ≤ n ∧ kv = .int .i64 k ∧ QAt (fun k => k < W.heap.size) wr w1.heap.size S k k ∧ HasZ z S (List.range k) ∧ (∀ x ∈ S, x.id = (x.turn : Int)) ∧ Below W.heap.size W wr) (fun kv _ => n - (intOf kv).toNat)
  case atStart => exact ⟨0, [], Nat.zero_le _, rfl, Q2.out, rfl, by simp, B2.out⟩
  case round =>
    clear Q2 B2
    obtain ⟨k, S, hk, rfl, q, hS, hT, hB⟩ := hrel
    by_cases hlk : k < n
    · have hlk' : (k : Int) < (n : Int) := by omega
      obtain ⟨b, off, rfl, ck⟩ := AT.out wr hB k (by omega)
      have hkm : k < m := by omega
      have e3 : IntKind.i64.wrap ((k : Int) + 1) = ((k + 1 : Nat) : Int) := by rw [IntKind.wrap_i64]; omega
      have la : S.length = k := by rw [hS.len]; simp
      have PA := Lib.hid (push_ok q (id := (k : Int)) (p := z k) (by unfold fits; omega) (hz' k) (hS.none (by simp)) (by omega) (by omega) (by unfold maxLen; omega))
      have H := Lib.hid (And.intro hS hT)
      generalize hk1 : k + 1 = k1 at e3
      clear q hS hT la
      go_wp2_with fail
      refine PA.out.mono ?_
      rintro e w4 ⟨ba, rfl, q4, k4⟩
      have F := Lib.hid (And.intro q4 (hB.trans (k4.below hB.size (fun _ e => e))))
      clear q4 k4 hB PA ck
      go_wp2
      go_roundw
      case rel =>
        subst hk1
        refine ⟨k + 1, _, hlk, rfl, F.out.1, ?_, fun x hx => ?_, F.out.2⟩
        · rw [List.range_succ]; exact H.out.1.push ba k k
        · rcases List.mem_append.1 hx with hx | hx
          · exact H.out.2 x hx
          · rw [List.mem_singleton] at hx; subst hx; rfl
      case measure => simp [intOf]; omega
    · obtain rfl : n = k := by omega
      clear hlk hk
      have la : S.length = n := by rw [hS.len]; simp
      have LA := Lib.hid (list_any q (by omega))
      have H := Lib.hid (And.intro q (And.intro hS (And.intro hT la)))
      clear q hS hT la
      go_wp2_with fail
      refine LA.out.mono ?_
      rintro e w3 ⟨aoA, cA, M, rfl, p1, s1, o1, b3⟩
      obtain ⟨q, hS, hT, la⟩ := H.out
      have hl1 : M.length = n := by rw [p1.length_eq]; exact la
      rw [hl1] at o1
      rw [hl1]
      have HL := Lib.hid (And.intro hl1 (And.intro p1 (And.intro s1 o1)))
      have Q3 := Lib.hid (q.wider b3)
      have B3 := hB.trans (b3.mono hB.size)
      clear hl1 p1 s1 o1 q hS hT la LA b3
      obtain ⟨w4, hmk, o4, b4⟩ := make_seen w3 n (by omega) M
      obtain ⟨X4, hX4⟩ : ∃ X4 : Nat → Prop, X4 = fun k => (k < W.heap.size ∨ wr.heap.size ≤ k ∧ k < w3.heap.size) ∨ (w3.heap.size ≤ k ∧ k < w4.heap.size) := ⟨_, rfl⟩
      have Q4 : Hid (QAt X4 w4 w1.heap.size S n n) := by rw [hX4]; exact Q3.out.wider b4
      have O4 : Hid (OwnX X4 w4 (.slice aoA n cA) M) := by
        refine (HL.out.2.2.2.x (X := X4) (fun j h1 h2 => by rw [hX4]; exact Or.inl (Or.inr ⟨h1, h2⟩))).below b4
      have S4 : Hid (Seen X4 w4 (.slice (some ⟨w3.heap.size, 0, none⟩) n n) n (upTo M 0)) :=
        ⟨ownsRow_base o4 (fun _ _ => Nat.zero_le _), fun k hk => by rw [hX4]; obtain ⟨h1, h2⟩ := World.ownsRow.lt o4 k hk; exact Or.inr ⟨h1, h2⟩⟩
      have hXW : ∀ k, k < W.heap.size → X4 k := fun k hk => by rw [hX4]; exact Or.inl (Or.inl hk)
      have B4 := B3.trans (b4.mono B3.size)
      have hW3 := B3.size
      clear hX4 Q3 B3 o4 b4 hB
      go_wp2
      clear hmk
      go_loopw [8] (fun iv wx => ∃ (j : Nat) (S' : List Wt), j ≤ n ∧ iv = .int .i64 j ∧ QAt X4 wx w1.heap.size S' n n ∧ (M.drop j).Perm S' ∧ OwnX X4 wx (.slice aoA n cA) M ∧ Seen X4 wx (.slice (some ⟨w3.heap.size, 0, none⟩) n n) n (upTo M j) ∧ Below W.heap.size W wx) (fun iv _ => n - (intOf iv).toNat)
      case atStart => exact ⟨0, S, Nat.zero_le _, rfl, Q4.out, HL.out.2.1, O4.out, S4.out, B4⟩
      case round =>
        clear Q4 O4 S4 B4
        obtain ⟨j, S', hj, rfl, q, hpm, oM, sn, hB⟩ := hrel
        obtain ⟨hl1, p1, s1, -⟩ := HL.out
        by_cases hlj : j < n
        · have hlj' : (j : Int) < (n : Int) := by omega
          have hjM : j < M.length := by omega
          have hS0 : 0 < S'.length := by rw [← hpm.length_eq]; simp; omega
          have hmin : ∀ mm, IsMin mm S' → mm = at' M j := fun mm h => by
            rw [← at_drop0 M j]; exact (min_head hpm (List.Pairwise.drop s1) h).symm
          obtain ⟨c, hc0, hc1, hc2⟩ := H.out.2.1.mem (p1.mem_iff.1 (at_mem hjM))
          have hcn : c < n := by simpa using List.mem_range.1 hc0
          have hno := upTo_no p1 H.out.1.ids hjM hc1
          have hdel := del_drop hjM hpm q.ids
          have PO := Lib.hid (pop_ok q hS0 (by omega))
          have HJ := Lib.hid (And.intro hmin (And.intro hc1 (And.intro hc2 (And.intro hno hdel))))
          have HM := Lib.hid (And.intro oM (And.intro sn hB))
          clear hmin hc0 hc1 hc2 hno hdel q hpm oM sn hB hS0 p1 s1
          go_wp2_with fail
          refine PO.out.mono ?_
          rintro e w5 ⟨mm, rfl, hmm, q5, k5⟩
          obtain ⟨hmin, hc1, hc2, hno, hdel⟩ := HJ.out
          have hme := hmin mm hmm
          subst hme
          have o5 := HM.out.1.kp k5
          have s5 := HM.out.2.1.kp k5
          have B5 := HM.out.2.2.trans (k5.below HM.out.2.2.size hXW)
          have hid : (at' M j).id = (c : Int) := hc1
          generalize hxe : at' M j = xx at *
          obtain ⟨xb, xi, xp, xt⟩ := xx
          simp only at hid hc2
          subst hid hc2
          have h35 : w3.heap.size < w5.heap.size := q5.lt _ (s5.2 _ rfl)
          have F5 := Lib.hid (And.intro q5 (And.intro o5 (And.intro s5 (And.intro hno (And.intro hdel hxe)))))
          clear q5 o5 s5 hno hdel hmm k5 hmin HJ HM PO hc1 hxe
          go_wp2_with (with_reducible refine wpList_alloc_row rfl 43 rfl #[.int .i64 0, .float .f64 0] (by kernel_rfl) ?_)
          intro w6 hg6 hb6 hs6
          obtain ⟨d0, g0, hst, hg7, -, hbl7⟩ := ent_store hg6 c (z c)
          have b7 := hbl7 _ _ hb6 (Nat.le_refl _)
          have x0 := cell_row hg7 0 rfl
          have x1 := cell_row hg7 1 rfl
          have B7 := B5.trans (b7.mono B5.size)
          have F7 := Lib.hid (And.intro (F5.out.1.below b7) (And.intro (F5.out.2.1.below b7) (And.intro (F5.out.2.2.1.below b7) F5.out.2.2.2)))
          clear hg7 hbl7 b7 hg6 hb6 hs6 F5 B5
          generalize hw7 : (w6.setCell ⟨w5.heap.size, 0, none⟩ (.int .i64 c)).setCell ⟨w5.heap.size, 1, none⟩ (.float .f64 (z c)) = w7 at *
          clear hw7
          obtain ⟨q7, o7, s7, hno, hdel, hxe⟩ := F7.out
          have cseen : w7.cell? ⟨w3.heap.size, c, none⟩ = some (.bool false) := by
            rw [World.ownsRow.cellAt s7.1 c (by omega), List.getElem?_map, List.getElem?_range hcn]
            simp [hno]
          obtain ⟨lb, rfl, -, l0, -⟩ := o7.1.get2 (k := j) (by omega)
          rw [hxe] at l0
          simp only at l0
          obtain ⟨b, off, rfl, ca⟩ := AT.out w7 B7 c (by omega)
          have hcm : c < m := by omega
          have SM := fun w => same_any (z c) (z c) w
          rw [same_refl] at SM
          have hc0 : decide ((c : Int) < 0) = false := by simp
          have hcg : decide ((n : Int) ≤ (c : Int)) = false := by simp; omega
          clear q7 o7 s7 hno hdel hxe
          go_wp2_with fail
          have hS : (w7.drew.cell? ⟨w5.heap.size, 0, none⟩ = some (.int .i64 c) ∧ w7.drew.cell? ⟨w5.heap.size, 1, none⟩ = some (.float .f64 (z c))) ∧ w7.drew.cell? ⟨w3.heap.size, c, none⟩ = some (.bool false) ∧ w7.drew.cell? ⟨lb, j * 2, none⟩ = some (.int .i64 c) ∧ w7.drew.cell? ⟨b, off + c, none⟩ = some (.float .f64 (z c)) := ⟨⟨x0, x1⟩, cseen, l0, ca⟩
          refine wp_region_held_drew (S := fun w' => (w'.cell? ⟨w5.heap.size, 0, none⟩ = some (.int .i64 c) ∧ w'.cell? ⟨w5.heap.size, 1, none⟩ = some (.float .f64 (z c))) ∧ w'.cell? ⟨w3.heap.size, c, none⟩ = some (.bool false) ∧ w'.cell? ⟨lb, j * 2, none⟩ = some (.int .i64 c) ∧ w'.cell? ⟨b, off + c, none⟩ = some (.float .f64 (z c))) mixed hS (fun _ => ?_)
          show wpAnyH _ _ _ _ _ 41 (Array.replicate 41 false) _ _
          refine wpAnyH_take_d 0 (some 61) (.int .i64 0) rfl (by kernel_rfl) (by kernel_rfl) (by kernel_rfl) (by kernel_rfl) rfl (fun _ _ _ h => h) (fun _ _ => by kernel_rfl) (by exact hS) ?_
          simp only [Act.put, List.setIfInBounds_toArray, List.set_cons_succ, List.set_cons_zero]
          refine wpAnyH_take_d 1 (some 62) (.bool false) rfl (by kernel_rfl) (by kernel_rfl) (by kernel_rfl) (by kernel_rfl) rfl (fun _ _ _ h => h) (fun _ _ => by kernel_rfl) (by exact hS) ?_
          simp only [Act.put, List.setIfInBounds_toArray, List.set_cons_succ, List.set_cons_zero]
          refine wpAnyH_take_d 2 (some 63) (.bool false) rfl (by kernel_rfl) (by kernel_rfl) (by kernel_rfl) (by kernel_rfl) rfl (fun _ _ _ h => h) (fun _ _ => by kernel_rfl) (by exact hS) ?_
          simp only [Act.put, List.setIfInBounds_toArray, List.set_cons_succ, List.set_cons_zero]
          refine wpAnyH_take_d 3 (some 64) (.pointer (some ⟨w5.heap.size, 0, none⟩)) rfl (by kernel_rfl) (by kernel_rfl) (by kernel_rfl) (by kernel_rfl) rfl (fun _ _ _ h => h) (fun _ _ => by kernel_rfl) (by exact hS) ?_
          simp only [Act.put, List.setIfInBounds_toArray, List.set_cons_succ, List.set_cons_zero]
          refine wpAnyH_take_d 4 (some 65) (.int .i64 c) rfl (by kernel_rfl) (by kernel_rfl) (by kernel_rfl) (by kernel_rfl) rfl (fun _ _ _ h => h) (fun w' h => exec_load_cell rfl rfl h.1.1 Try.underlying3 rfl) (by exact hS) ?_
          simp only [Act.put, List.setIfInBounds_toArray, List.set_cons_succ, List.set_cons_zero]
          refine wpAnyH_take_d 5 (some 66) (.bool (decide ((c : Int) < 0))) rfl (by kernel_rfl) (by kernel_rfl) (by kernel_rfl) (by kernel_rfl) rfl (fun _ _ _ h => h) (fun _ _ => by kernel_rfl) (by exact hS) ?_
          simp only [Act.put, List.setIfInBounds_toArray, List.set_cons_succ, List.set_cons_zero]
          rw [hc0]
          refine wpAnyH_take_d 6 (some 67) (.bool false) rfl (by kernel_rfl) (by kernel_rfl) (by kernel_rfl) (by kernel_rfl) rfl (fun _ _ _ h => h) (fun _ _ => by kernel_rfl) (by exact hS) ?_
          simp only [Act.put, List.setIfInBounds_toArray, List.set_cons_succ, List.set_cons_zero]
          refine wpAnyH_take_d 7 (some 68) (.bool false) rfl (by kernel_rfl) (by kernel_rfl) (by kernel_rfl) (by kernel_rfl) rfl (fun _ _ _ h => h) (fun _ _ => by kernel_rfl) (by exact hS) ?_
          simp only [Act.put, List.setIfInBounds_toArray, List.set_cons_succ, List.set_cons_zero]
          refine wpAnyH_take_d 8 (some 69) (.pointer (some ⟨w5.heap.size, 0, none⟩)) rfl (by kernel_rfl) (by kernel_rfl) (by kernel_rfl) (by kernel_rfl) rfl (fun _ _ _ h => h) (fun _ _ => by kernel_rfl) (by exact hS) ?_
          simp only [Act.put, List.setIfInBounds_toArray, List.set_cons_succ, List.set_cons_zero]
          refine wpAnyH_take_d 9 (some 70) (.int .i64 c) rfl (by kernel_rfl) (by kernel_rfl) (by kernel_rfl) (by kernel_rfl) rfl (fun _ _ _ h => h) (fun w' h => exec_load_cell rfl rfl h.1.1 Try.underlying3 rfl) (by exact hS) ?_
          simp only [Act.put, List.setIfInBounds_toArray, List.set_cons_succ, List.set_cons_zero]
          refine wpAnyH_take_d 10 (some 71) (.int .i64 n) rfl (by kernel_rfl) (by kernel_rfl) (by kernel_rfl) (by kernel_rfl) rfl (fun _ _ _ h => h) (fun _ _ => by kernel_rfl) (by exact hS) ?_
          simp only [Act.put, List.setIfInBounds_toArray, List.set_cons_succ, List.set_cons_zero]
          refine wpAnyH_take_d 11 (some 72) (.bool (decide ((n : Int) ≤ (c : Int)))) rfl (by kernel_rfl) (by kernel_rfl) (by kernel_rfl) (by kernel_rfl) rfl (fun _ _ _ h => h) (fun _ _ => by kernel_rfl) (by exact hS) ?_
          simp only [Act.put, List.setIfInBounds_toArray, List.set_cons_succ, List.set_cons_zero]
          rw [hcg]
          refine wpAnyH_take_d 12 (some 73) (.bool false) rfl (by kernel_rfl) (by kernel_rfl) (by kernel_rfl) (by kernel_rfl) rfl (fun _ _ _ h => h) (fun _ _ => by kernel_rfl) (by exact hS) ?_
          simp only [Act.put, List.setIfInBounds_toArray, List.set_cons_succ, List.set_cons_zero]
          refine wpAnyH_take_d 13 (some 74) (.bool false) rfl (by kernel_rfl) (by kernel_rfl) (by kernel_rfl) (by kernel_rfl) rfl (fun _ _ _ h => h) (fun _ _ => by kernel_rfl) (by exact hS) ?_
          simp only [Act.put, List.setIfInBounds_toArray, List.set_cons_succ, List.set_cons_zero]
          refine wpAnyH_take_d 14 (some 75) (.slice (some ⟨w3.heap.size, 0, none⟩) n n) rfl (by kernel_rfl) (by kernel_rfl) (by kernel_rfl) (by kernel_rfl) rfl (fun _ _ _ h => h) (fun _ _ => by kernel_rfl) (by exact hS) ?_
          simp only [Act.put, List.setIfInBounds_toArray, List.set_cons_succ, List.set_cons_zero]
          refine wpAnyH_take_d 15 (some 76) (.pointer (some ⟨w5.heap.size, 0, none⟩)) rfl (by kernel_rfl) (by kernel_rfl) (by kernel_rfl) (by kernel_rfl) rfl (fun _ _ _ h => h) (fun _ _ => by kernel_rfl) (by exact hS) ?_
          simp only [Act.put, List.setIfInBounds_toArray, List.set_cons_succ, List.set_cons_zero]
          refine wpAnyH_take_d 16 (some 77) (.int .i64 c) rfl (by kernel_rfl) (by kernel_rfl) (by kernel_rfl) (by kernel_rfl) rfl (fun _ _ _ h => h) (fun w' h => exec_load_cell rfl rfl h.1.1 Try.underlying3 rfl) (by exact hS) ?_
          simp only [Act.put, List.setIfInBounds_toArray, List.set_cons_succ, List.set_cons_zero]
          refine wpAnyH_take_d 17 (some 78) (.pointer (some ⟨w3.heap.size, 0 + c, none⟩)) rfl (by kernel_rfl) (by kernel_rfl) (by kernel_rfl) (by kernel_rfl) rfl (fun _ _ _ h => h) (fun w' h => exec_indexAddr rfl rfl rfl hcn Try.underlying41 (by kernel_rfl)) (by exact hS) ?_
          simp only [Act.put, List.setIfInBounds_toArray, List.set_cons_succ, List.set_cons_zero]
          rw [Nat.zero_add]
          refine wpAnyH_take_d 18 (some 79) (.bool false) rfl (by kernel_rfl) (by kernel_rfl) (by kernel_rfl) (by kernel_rfl) rfl (fun _ _ _ h => h) (fun w' h => exec_load_cell rfl rfl h.2.1 Try.underlying4 rfl) (by exact hS) ?_
          simp only [Act.put, List.setIfInBounds_toArray, List.set_cons_succ, List.set_cons_zero]
          refine wpAnyH_take_d 19 (some 80) (.bool false) rfl (by kernel_rfl) (by kernel_rfl) (by kernel_rfl) (by kernel_rfl) rfl (fun _ _ _ h => h) (fun _ _ => by kernel_rfl) (by exact hS) ?_
          simp only [Act.put, List.setIfInBounds_toArray, List.set_cons_succ, List.set_cons_zero]
          refine wpAnyH_take_d 20 (some 81) (.bool false) rfl (by kernel_rfl) (by kernel_rfl) (by kernel_rfl) (by kernel_rfl) rfl (fun _ _ _ h => h) (fun _ _ => by kernel_rfl) (by exact hS) ?_
          simp only [Act.put, List.setIfInBounds_toArray, List.set_cons_succ, List.set_cons_zero]
          refine wpAnyH_take_d 21 (some 82) (.pointer (some ⟨w5.heap.size, 0, none⟩)) rfl (by kernel_rfl) (by kernel_rfl) (by kernel_rfl) (by kernel_rfl) rfl (fun _ _ _ h => h) (fun _ _ => by kernel_rfl) (by exact hS) ?_
          simp only [Act.put, List.setIfInBounds_toArray, List.set_cons_succ, List.set_cons_zero]
          refine wpAnyH_take_d 22 (some 83) (.int .i64 c) rfl (by kernel_rfl) (by kernel_rfl) (by kernel_rfl) (by kernel_rfl) rfl (fun _ _ _ h => h) (fun w' h => exec_load_cell rfl rfl h.1.1 Try.underlying3 rfl) (by exact hS) ?_
          simp only [Act.put, List.setIfInBounds_toArray, List.set_cons_succ, List.set_cons_zero]
          refine wpAnyH_take_d 23 (some 84) (.slice (some ⟨lb, 0, none⟩) n cA) rfl (by kernel_rfl) (by kernel_rfl) (by kernel_rfl) (by kernel_rfl) rfl (fun _ _ _ h => h) (fun _ _ => by kernel_rfl) (by exact hS) ?_
          simp only [Act.put, List.setIfInBounds_toArray, List.set_cons_succ, List.set_cons_zero]
          refine wpAnyH_take_d 24 (some 85) (.int .i64 j) rfl (by kernel_rfl) (by kernel_rfl) (by kernel_rfl) (by kernel_rfl) rfl (fun _ _ _ h => h) (fun _ _ => by kernel_rfl) (by exact hS) ?_
          simp only [Act.put, List.setIfInBounds_toArray, List.set_cons_succ, List.set_cons_zero]
          refine wpAnyH_take_d 25 (some 86) (.pointer (some ⟨lb, 0 + j * 2, none⟩)) rfl (by kernel_rfl) (by kernel_rfl) (by kernel_rfl) (by kernel_rfl) rfl (fun _ _ _ h => h) (fun w' h => exec_indexAddrS rfl rfl rfl hlj Try.underlying39 (by kernel_rfl)) (by exact hS) ?_
          simp only [Act.put, List.setIfInBounds_toArray, List.set_cons_succ, List.set_cons_zero]
          rw [Nat.zero_add]
          refine wpAnyH_take_d 26 (some 87) (.pointer (some ⟨lb, j * 2, none⟩)) rfl (by kernel_rfl) (by kernel_rfl) (by kernel_rfl) (by kernel_rfl) rfl (fun _ _ _ h => h) (fun _ _ => by kernel_rfl) (by exact hS) ?_
          simp only [Act.put, List.setIfInBounds_toArray, List.set_cons_succ, List.set_cons_zero]
          refine wpAnyH_take_d 27 (some 88) (.int .i64 c) rfl (by kernel_rfl) (by kernel_rfl) (by kernel_rfl) (by kernel_rfl) rfl (fun _ _ _ h => h) (fun w' h => exec_load_cell rfl rfl h.2.2.1 Try.underlying3 rfl) (by exact hS) ?_
          simp only [Act.put, List.setIfInBounds_toArray, List.set_cons_succ, List.set_cons_zero]
          refine wpAnyH_take_d 28 (some 89) (.bool false) rfl (by kernel_rfl) (by kernel_rfl) (by kernel_rfl) (by kernel_rfl) rfl (fun _ _ _ h => h) (fun w' h => exec_intneq rfl rfl rfl rfl) (by exact hS) ?_
          simp only [Act.put, List.setIfInBounds_toArray, List.set_cons_succ, List.set_cons_zero]
          refine wpAnyH_take_d 29 (some 90) (.bool false) rfl (by kernel_rfl) (by kernel_rfl) (by kernel_rfl) (by kernel_rfl) rfl (fun _ _ _ h => h) (fun _ _ => by kernel_rfl) (by exact hS) ?_
          simp only [Act.put, List.setIfInBounds_toArray, List.set_cons_succ, List.set_cons_zero]
          refine wpAnyH_take_d 30 (some 91) (.bool false) rfl (by kernel_rfl) (by kernel_rfl) (by kernel_rfl) (by kernel_rfl) rfl (fun _ _ _ h => h) (fun _ _ => by kernel_rfl) (by exact hS) ?_
          simp only [Act.put, List.setIfInBounds_toArray, List.set_cons_succ, List.set_cons_zero]
          refine wpAnyH_take_d 31 (some 92) (.pointer (some ⟨w5.heap.size, 1, none⟩)) rfl (by kernel_rfl) (by kernel_rfl) (by kernel_rfl) (by kernel_rfl) rfl (fun _ _ _ h => h) (fun _ _ => by kernel_rfl) (by exact hS) ?_
          simp only [Act.put, List.setIfInBounds_toArray, List.set_cons_succ, List.set_cons_zero]
          refine wpAnyH_take_d 32 (some 93) (.float .f64 (z c)) rfl (by kernel_rfl) (by kernel_rfl) (by kernel_rfl) (by kernel_rfl) rfl (fun _ _ _ h => h) (fun w' h => exec_load_cell rfl rfl h.1.2 Try.underlying31 rfl) (by exact hS) ?_
          simp only [Act.put, List.setIfInBounds_toArray, List.set_cons_succ, List.set_cons_zero]
          refine wpAnyH_take_d 33 (some 94) (.slice (some ⟨b, off, none⟩) m cap) rfl (by kernel_rfl) (by kernel_rfl) (by kernel_rfl) (by kernel_rfl) rfl (fun _ _ _ h => h) (fun _ _ => by kernel_rfl) (by exact hS) ?_
          simp only [Act.put, List.setIfInBounds_toArray, List.set_cons_succ, List.set_cons_zero]
          refine wpAnyH_take_d 34 (some 95) (.pointer (some ⟨w5.heap.size, 0, none⟩)) rfl (by kernel_rfl) (by kernel_rfl) (by kernel_rfl) (by kernel_rfl) rfl (fun _ _ _ h => h) (fun _ _ => by kernel_rfl) (by exact hS) ?_
          simp only [Act.put, List.setIfInBounds_toArray, List.set_cons_succ, List.set_cons_zero]
          refine wpAnyH_take_d 35 (some 96) (.int .i64 c) rfl (by kernel_rfl) (by kernel_rfl) (by kernel_rfl) (by kernel_rfl) rfl (fun _ _ _ h => h) (fun w' h => exec_load_cell rfl rfl h.1.1 Try.underlying3 rfl) (by exact hS) ?_
          simp only [Act.put, List.setIfInBounds_toArray, List.set_cons_succ, List.set_cons_zero]
          refine wpAnyH_take_d 36 (some 97) (.pointer (some ⟨b, off + c, none⟩)) rfl (by kernel_rfl) (by kernel_rfl) (by kernel_rfl) (by kernel_rfl) rfl (fun _ _ _ h => h) (fun w' h => exec_indexAddr rfl rfl rfl hcm Try.underlying36 (by kernel_rfl)) (by exact hS) ?_
          simp only [Act.put, List.setIfInBounds_toArray, List.set_cons_succ, List.set_cons_zero]
          refine wpAnyH_take_d 37 (some 98) (.float .f64 (z c)) rfl (by kernel_rfl) (by kernel_rfl) (by kernel_rfl) (by kernel_rfl) rfl (fun _ _ _ h => h) (fun w' h => exec_load_cell rfl rfl h.2.2.2 Try.underlying31 rfl) (by exact hS) ?_
          simp only [Act.put, List.setIfInBounds_toArray, List.set_cons_succ, List.set_cons_zero]
          refine wpAnyH_call 38 (some 99) 16 #[.float .f64 (z c), .float .f64 (z c)] rfl (by kernel_rfl) (by kernel_rfl) rfl (by kernel_rfl) (SM _) ?_
          rintro e _ ⟨rfl, rfl⟩
          refine ⟨_, rfl, hS, ?_⟩
          simp only [Act.put, List.setIfInBounds_toArray, List.set_cons_succ, List.set_cons_zero]
          refine wpAnyH_one 39 (some 100) (.bool false) rfl (by kernel_rfl) (by kernel_rfl) rfl (by kernel_rfl) (by exact hS) ?_
          simp only [Act.put, List.setIfInBounds_toArray, List.set_cons_succ, List.set_cons_zero]
          refine wpAnyH_one 40 (some 101) (.bool false) rfl (by kernel_rfl) (by kernel_rfl) rfl (by kernel_rfl) (by exact hS) ?_
          simp only [Act.put, List.setIfInBounds_toArray, List.set_cons_succ, List.set_cons_zero]
          refine wpAnyH_done (by kernel_rfl) ?_ _
          clear hS
          obtain ⟨q7, o7, s7, hno, hdel, hxe⟩ := F7.out
          have fs := World.ownsRow.frozenAt s7.1 c
          have hX3 : X4 w3.heap.size := s7.2 _ rfl
          have hs8 := (World.ownsRow.stored s7.1 c (.bool true)).1
          rw [seen_set, show (fun k => Value.bool (if k = c then true else upTo M j k)) = (fun k => Value.bool (upTo M (j + 1) k)) by
            funext k
            rw [upTo_succ, hxe]
            by_cases e : k = c
            · subst e; simp
            · have : ¬ ((c : Int) = (k : Int)) := by omega
              simp [e, this]] at hs8
          have q8 : QAt X4 (w7.setCell ⟨w3.heap.size, c, none⟩ (.bool true)) w1.heap.size (del S' (c : Int)) n n :=
            q7.keep (fun k o hk ho => by rw [Below.heap_setCell _ _ _ _ (by rintro rfl; exact hk hX3)]; exact ho) (fun _ _ e => e) (fun k e => by have := q7.lt k e; simpa [World.setCell] using this) (by simp [World.setCell])
          have o8 : OwnX X4 (w7.setCell ⟨w3.heap.size, c, none⟩ (.bool true)) (.slice (some ⟨lb, 0, none⟩) n cA) M :=
            ⟨ownsRow_setCell_other o7.1 (fun e => by
              simp only [Value.ownBlock, Option.some.injEq] at e
              obtain ⟨cur1, h1⟩ := own_obj s7.1
              obtain ⟨cur2, h2⟩ := own_obj o7.1
              exact ne_of_obj h2 h1 (by decide) e) _, o7.2⟩
          have B8 := B7.trans (Below.setCell (Below.refl W.heap.size w7) (p := ⟨w3.heap.size, c, none⟩) hW3 (.bool true))
          have e1 : IntKind.i64.wrap ((j : Int) + 1) = ((j + 1 : Nat) : Int) := by rw [IntKind.wrap_i64]; omega
          have F8 := Lib.hid (And.intro q8 (And.intro hdel (And.intro o8 (And.intro (show Seen X4 _ _ n (upTo M (j + 1)) from ⟨hs8, s7.2⟩) B8))))
          have y0 : (w7.setCell ⟨w3.heap.size, c, none⟩ (.bool true)).cell? ⟨w5.heap.size, 0, none⟩ = some (.int .i64 c) := (World.cell?_setCell_other _ _ _ _ (fun e => by simp only [Addr.mk.injEq] at e; omega)).trans x0
          have y1 : (w7.setCell ⟨w3.heap.size, c, none⟩ (.bool true)).cell? ⟨w5.heap.size, 1, none⟩ = some (.float .f64 (z c)) := (World.cell?_setCell_other _ _ _ _ (fun e => by simp only [Addr.mk.injEq] at e; omega)).trans x1
          clear q7 o7 s7 hno hdel q8 o8 hs8 B8 F7 B7 l0 ca hst d0 g0 SM x1 hc0 hcg
          generalize hj1 : j + 1 = j1 at e1
          have HJ1 := Lib.hid hj1.symm
          clear hj1
          generalize hw8 : w7.setCell ⟨w3.heap.size, c, none⟩ (.bool true) = w8 at F8 y0 y1
          have HW8 := Lib.hid hw8
          have FD := Lib.hid (fun wd (hb : Below w8.heap.size w8 wd) => And.intro (F8.out.1.below hb) (And.intro (F8.out.2.2.1.below hb) (And.intro (F8.out.2.2.2.1.below hb) (F8.out.2.2.2.2.trans (hb.mono F8.out.2.2.2.2.size)))))
          by_cases hj0 : j = 0
          · have hj0' : ¬ ((0 : Int) < (j : Int)) := by omega
            clear hj0
            go_wp2
            go_roundw
            case rel => exact ⟨j1, _, by have := HJ1.out; omega, rfl, (FD.out _ (Below.refl _ _).drew).1, by rw [HJ1.out]; exact F8.out.2.1, (FD.out _ (Below.refl _ _).drew).2.1, by rw [HJ1.out]; exact (FD.out _ (Below.refl _ _).drew).2.2.1, (FD.out _ (Below.refl _ _).drew).2.2.2⟩
            case measure => have := HJ1.out; simp [intOf]; omega
          · have hj0' : (0 : Int) < (j : Int) := by omega
            obtain ⟨jm, hjm⟩ : ∃ jm, j = jm + 1 := ⟨j - 1, by omega⟩
            have e6 : IntKind.i64.wrap ((j : Int) - 1) = (jm : Int) := by rw [IntKind.wrap_i64]; omega
            have hjmn : jm < n := by omega
            obtain ⟨lb', el, -, p0', p1'⟩ := F8.out.2.2.1.1.get2 (k := jm) (by omega)
            cases el
            obtain ⟨hl1', pp1, ss1, -⟩ := HL.out
            have hlt := sorted_at ss1 (show jm < j by omega) hjM
            rw [hxe] at hlt
            have hmemp := pp1.mem_iff.1 (at_mem (L := M) (i := jm) (by omega))
            have hpt := H.out.2.2.1 _ hmemp
            have hct := H.out.2.2.1 _ (pp1.mem_iff.1 (at_mem (L := M) (i := j) hjM))
            rw [hxe] at hct
            have hpb := H.out.1.prb _ hmemp
            have htp := H.out.1.tu _ hmemp
            have htc := H.out.1.tu _ (pp1.mem_iff.1 (at_mem (L := M) (i := j) hjM))
            rw [hxe] at htc
            simp only at hct htc
            unfold Wt.ky at hlt
            simp only at hlt
            have hkk : key (at' M jm).pr < key (z c) ∨ (key (at' M jm).pr = key (z c) ∧ (at' M jm).id < (c : Int)) := by omega
            have HKK := Lib.hid hkk
            clear hlt hmemp hpt hct htp htc pp1 ss1 hkk hl1' hxe
            clear hj0
            go_wp2_with fail
            have hS : w8.drew.drew.cell? ⟨lb, jm * 2 + 1, none⟩ = some (.float .f64 (at' M jm).pr) ∧ w8.drew.drew.cell? ⟨w5.heap.size, 1, none⟩ = some (.float .f64 (z c)) := ⟨p1', y1⟩
            refine wp_region_held_drew (S := fun w' => w'.cell? ⟨lb, jm * 2 + 1, none⟩ = some (.float .f64 (at' M jm).pr) ∧ w'.cell? ⟨w5.heap.size, 1, none⟩ = some (.float .f64 (z c))) mixed hS (fun _ => ?_)
            show wpAnyH _ _ _ _ _ 10 (Array.replicate 10 false) _ _
            refine wpAnyH_take_d 0 (some 108) (.slice (some ⟨lb, 0, none⟩) n cA) rfl (by kernel_rfl) (by kernel_rfl) (by kernel_rfl) (by kernel_rfl) rfl (fun _ _ _ h => h) (fun _ _ => by kernel_rfl) (by exact hS) ?_
            simp only [Act.put, List.setIfInBounds_toArray, List.set_cons_succ, List.set_cons_zero]
            refine wpAnyH_take_d 1 (some 109) (.int .i64 j) rfl (by kernel_rfl) (by kernel_rfl) (by kernel_rfl) (by kernel_rfl) rfl (fun _ _ _ h => h) (fun _ _ => by kernel_rfl) (by exact hS) ?_
            simp only [Act.put, List.setIfInBounds_toArray, List.set_cons_succ, List.set_cons_zero]
            refine wpAnyH_take_d 2 (some 110) (.int .i64 (IntKind.i64.wrap ((j : Int) - 1))) rfl (by kernel_rfl) (by kernel_rfl) (by kernel_rfl) (by kernel_rfl) rfl (fun _ _ _ h => h) (fun _ _ => by kernel_rfl) (by exact hS) ?_
            simp only [Act.put, List.setIfInBounds_toArray, List.set_cons_succ, List.set_cons_zero]
            rw [e6]
            refine wpAnyH_take_d 3 (some 111) (.pointer (some ⟨lb, 0 + jm * 2, none⟩)) rfl (by kernel_rfl) (by kernel_rfl) (by kernel_rfl) (by kernel_rfl) rfl (fun _ _ _ h => h) (fun w' h => exec_indexAddrS rfl rfl rfl hjmn Try.underlying39 (by kernel_rfl)) (by exact hS) ?_
            simp only [Act.put, List.setIfInBounds_toArray, List.set_cons_succ, List.set_cons_zero]
            rw [Nat.zero_add]
            refine wpAnyH_take_d 4 (some 112) (.pointer (some ⟨lb, jm * 2 + 1, none⟩)) rfl (by kernel_rfl) (by kernel_rfl) (by kernel_rfl) (by kernel_rfl) rfl (fun _ _ _ h => h) (fun _ _ => by kernel_rfl) (by exact hS) ?_
            simp only [Act.put, List.setIfInBounds_toArray, List.set_cons_succ, List.set_cons_zero]
            refine wpAnyH_take_d 5 (some 113) (.float .f64 (at' M jm).pr) rfl (by kernel_rfl) (by kernel_rfl) (by kernel_rfl) (by kernel_rfl) rfl (fun _ _ _ h => h) (fun w' h => exec_load_cell rfl rfl h.1 Try.underlying31 rfl) (by exact hS) ?_
            simp only [Act.put, List.setIfInBounds_toArray, List.set_cons_succ, List.set_cons_zero]
            refine wpAnyH_take_d 6 (some 114) (.pointer (some ⟨w5.heap.size, 1, none⟩)) rfl (by kernel_rfl) (by kernel_rfl) (by kernel_rfl) (by kernel_rfl) rfl (fun _ _ _ h => h) (fun _ _ => by kernel_rfl) (by exact hS) ?_
            simp only [Act.put, List.setIfInBounds_toArray, List.set_cons_succ, List.set_cons_zero]
            refine wpAnyH_take_d 7 (some 115) (.float .f64 (z c)) rfl (by kernel_rfl) (by kernel_rfl) (by kernel_rfl) (by kernel_rfl) rfl (fun _ _ _ h => h) (fun w' h => exec_load_cell rfl rfl h.2 Try.underlying31 rfl) (by exact hS) ?_
            simp only [Act.put, List.setIfInBounds_toArray, List.set_cons_succ, List.set_cons_zero]
            refine wpAnyH_call 8 (some 116) 17 #[.float .f64 (at' M jm).pr, .float .f64 (z c)] rfl (by kernel_rfl) (by kernel_rfl) rfl (by kernel_rfl) (cmp_any (at' M jm).pr (z c) _ hpb (hz' c)) ?_
            rintro e _ ⟨rfl, rfl⟩
            refine ⟨_, rfl, hS, ?_⟩
            simp only [Act.put, List.setIfInBounds_toArray, List.set_cons_succ, List.set_cons_zero]
            generalize hcc : cmpB (at' M jm).pr (z c) = cc
            refine wpAnyH_one 9 (some 11) (.int .i64 cc) rfl (by kernel_rfl) (by kernel_rfl) rfl (by kernel_rfl) (by exact hS) ?_
            simp only [Act.put, List.setIfInBounds_toArray, List.set_cons_succ, List.set_cons_zero]
            refine wpAnyH_done (by kernel_rfl) ?_ _
            clear hS
            rcases HKK.out with hk1 | ⟨hk1, hk2⟩
            · have hcv : cc = -1 := by
                rw [← hcc]; unfold cmpB
                rcases cmpI_cases (key (at' M jm).pr) (key (z c)) with ⟨_, e⟩ | ⟨h, _⟩ | ⟨h, _⟩
                · exact e
                · omega
                · omega
              subst hcv
              clear hcc
              go_wp2_with fail
              have hS : w8.drew.drew.drew.cell? ⟨lb, jm * 2, none⟩ = some (.int .i64 (at' M jm).id) ∧ w8.drew.drew.drew.cell? ⟨w5.heap.size, 0, none⟩ = some (.int .i64 c) := ⟨p0', y0⟩
              refine wp_region_held_drew (S := fun w' => w'.cell? ⟨lb, jm * 2, none⟩ = some (.int .i64 (at' M jm).id) ∧ w'.cell? ⟨w5.heap.size, 0, none⟩ = some (.int .i64 c)) mixed hS (fun _ => ?_)
              show wpAnyH _ _ _ _ _ 17 (Array.replicate 17 false) _ _
              refine wpAnyH_take_d 0 (some 117) (.int .i64 (-1)) rfl (by kernel_rfl) (by kernel_rfl) (by kernel_rfl) (by kernel_rfl) rfl (fun _ _ _ h => h) (fun _ _ => by kernel_rfl) (by exact hS) ?_
              simp only [Act.put, List.setIfInBounds_toArray, List.set_cons_succ, List.set_cons_zero]
              refine wpAnyH_take_d 1 (some 118) (.bool false) rfl (by kernel_rfl) (by kernel_rfl) (by kernel_rfl) (by kernel_rfl) rfl (fun _ _ _ h => h) (fun _ _ => by kernel_rfl) (by exact hS) ?_
              simp only [Act.put, List.setIfInBounds_toArray, List.set_cons_succ, List.set_cons_zero]
              refine wpAnyH_take_d 2 (some 119) (.bool false) rfl (by kernel_rfl) (by kernel_rfl) (by kernel_rfl) (by kernel_rfl) rfl (fun _ _ _ h => h) (fun _ _ => by kernel_rfl) (by exact hS) ?_
              simp only [Act.put, List.setIfInBounds_toArray, List.set_cons_succ, List.set_cons_zero]
              refine wpAnyH_take_d 3 (some 120) (.int .i64 (-1)) rfl (by kernel_rfl) (by kernel_rfl) (by kernel_rfl) (by kernel_rfl) rfl (fun _ _ _ h => h) (fun _ _ => by kernel_rfl) (by exact hS) ?_
              simp only [Act.put, List.setIfInBounds_toArray, List.set_cons_succ, List.set_cons_zero]
              refine wpAnyH_take_d 4 (some 121) (.bool false) rfl (by kernel_rfl) (by kernel_rfl) (by kernel_rfl) (by kernel_rfl) rfl (fun _ _ _ h => h) (fun _ _ => by kernel_rfl) (by exact hS) ?_
              simp only [Act.put, List.setIfInBounds_toArray, List.set_cons_succ, List.set_cons_zero]
              refine wpAnyH_take_d 5 (some 122) (.bool false) rfl (by kernel_rfl) (by kernel_rfl) (by kernel_rfl) (by kernel_rfl) rfl (fun _ _ _ h => h) (fun _ _ => by kernel_rfl) (by exact hS) ?_
              simp only [Act.put, List.setIfInBounds_toArray, List.set_cons_succ, List.set_cons_zero]
              refine wpAnyH_skip_d 6 (some 123) rfl (by kernel_rfl) (by kernel_rfl) (by kernel_rfl) (by kernel_rfl) rfl (fun _ _ _ h => h) (by exact hS) ?_
              simp only [Act.put, List.setIfInBounds_toArray, List.set_cons_succ, List.set_cons_zero]
              refine wpAnyH_skip_d 7 (some 124) rfl (by kernel_rfl) (by kernel_rfl) (by kernel_rfl) (by kernel_rfl) rfl (fun _ _ _ h => h) (by exact hS) ?_
              simp only [Act.put, List.setIfInBounds_toArray, List.set_cons_succ, List.set_cons_zero]
              refine wpAnyH_skip_d 8 (some 125) rfl (by kernel_rfl) (by kernel_rfl) (by kernel_rfl) (by kernel_rfl) rfl (fun _ _ _ h => h) (by exact hS) ?_
              simp only [Act.put, List.setIfInBounds_toArray, List.set_cons_succ, List.set_cons_zero]
              refine wpAnyH_skip_d 9 (some 126) rfl (by kernel_rfl) (by kernel_rfl) (by kernel_rfl) (by kernel_rfl) rfl (fun _ _ _ h => h) (by exact hS) ?_
              simp only [Act.put, List.setIfInBounds_toArray, List.set_cons_succ, List.set_cons_zero]
              refine wpAnyH_skip_d 10 (some 127) rfl (by kernel_rfl) (by kernel_rfl) (by kernel_rfl) (by kernel_rfl) rfl (fun _ _ _ h => h) (by exact hS) ?_
              simp only [Act.put, List.setIfInBounds_toArray, List.set_cons_succ, List.set_cons_zero]
              refine wpAnyH_skip_d 11 (some 128) rfl (by kernel_rfl) (by kernel_rfl) (by kernel_rfl) (by kernel_rfl) rfl (fun _ _ _ h => h) (by exact hS) ?_
              simp only [Act.put, List.setIfInBounds_toArray, List.set_cons_succ, List.set_cons_zero]
              refine wpAnyH_skip_d 12 (some 129) rfl (by kernel_rfl) (by kernel_rfl) (by kernel_rfl) (by kernel_rfl) rfl (fun _ _ _ h => h) (by exact hS) ?_
              simp only [Act.put, List.setIfInBounds_toArray, List.set_cons_succ, List.set_cons_zero]
              refine wpAnyH_skip_d 13 (some 130) rfl (by kernel_rfl) (by kernel_rfl) (by kernel_rfl) (by kernel_rfl) rfl (fun _ _ _ h => h) (by exact hS) ?_
              simp only [Act.put, List.setIfInBounds_toArray, List.set_cons_succ, List.set_cons_zero]
              refine wpAnyH_skip_d 14 (some 131) rfl (by kernel_rfl) (by kernel_rfl) (by kernel_rfl) (by kernel_rfl) rfl (fun _ _ _ h => h) (by exact hS) ?_
              simp only [Act.put, List.setIfInBounds_toArray, List.set_cons_succ, List.set_cons_zero]
              refine wpAnyH_take_d 15 (some 132) (.bool false) rfl (by kernel_rfl) (by kernel_rfl) (by kernel_rfl) (by kernel_rfl) rfl (fun _ _ _ h => h) (fun _ _ => by kernel_rfl) (by exact hS) ?_
              simp only [Act.put, List.setIfInBounds_toArray, List.set_cons_succ, List.set_cons_zero]
              refine wpAnyH_one 16 (some 133) (.bool false) rfl (by kernel_rfl) (by kernel_rfl) rfl (by kernel_rfl) (by exact hS) ?_
              simp only [Act.put, List.setIfInBounds_toArray, List.set_cons_succ, List.set_cons_zero]
              refine wpAnyH_done (by kernel_rfl) ?_ _
              clear hS p0' p1' y0 y1
              go_wp2
              go_roundw
              case rel => exact ⟨j1, _, by have := HJ1.out; omega, by rw [HJ1.out, hjm]; simp, (FD.out _ (Below.refl _ _).drew.drew.drew).1, by rw [HJ1.out]; exact F8.out.2.1, (FD.out _ (Below.refl _ _).drew.drew.drew).2.1, by rw [HJ1.out]; exact (FD.out _ (Below.refl _ _).drew.drew.drew).2.2.1, (FD.out _ (Below.refl _ _).drew.drew.drew).2.2.2⟩
              case measure => have := HJ1.out; simp [intOf]; omega
            · have hcv : cc = 0 := by rw [← hcc]; exact cmp_zero hk1
              subst hcv
              clear hcc
              go_wp2_with fail
              have hS : w8.drew.drew.drew.cell? ⟨lb, jm * 2, none⟩ = some (.int .i64 (at' M jm).id) ∧ w8.drew.drew.drew.cell? ⟨w5.heap.size, 0, none⟩ = some (.int .i64 c) := ⟨p0', y0⟩
              refine wp_region_held_drew (S := fun w' => w'.cell? ⟨lb, jm * 2, none⟩ = some (.int .i64 (at' M jm).id) ∧ w'.cell? ⟨w5.heap.size, 0, none⟩ = some (.int .i64 c)) mixed hS (fun _ => ?_)
              show wpAnyH _ _ _ _ _ 17 (Array.replicate 17 false) _ _
              refine wpAnyH_take_d 0 (some 117) (.int .i64 0) rfl (by kernel_rfl) (by kernel_rfl) (by kernel_rfl) (by kernel_rfl) rfl (fun _ _ _ h => h) (fun _ _ => by kernel_rfl) (by exact hS) ?_
              simp only [Act.put, List.setIfInBounds_toArray, List.set_cons_succ, List.set_cons_zero]
              refine wpAnyH_take_d 1 (some 118) (.bool false) rfl (by kernel_rfl) (by kernel_rfl) (by kernel_rfl) (by kernel_rfl) rfl (fun _ _ _ h => h) (fun _ _ => by kernel_rfl) (by exact hS) ?_
              simp only [Act.put, List.setIfInBounds_toArray, List.set_cons_succ, List.set_cons_zero]
              refine wpAnyH_take_d 2 (some 119) (.bool false) rfl (by kernel_rfl) (by kernel_rfl) (by kernel_rfl) (by kernel_rfl) rfl (fun _ _ _ h => h) (fun _ _ => by kernel_rfl) (by exact hS) ?_
              simp only [Act.put, List.setIfInBounds_toArray, List.set_cons_succ, List.set_cons_zero]
              refine wpAnyH_take_d 3 (some 120) (.int .i64 0) rfl (by kernel_rfl) (by kernel_rfl) (by kernel_rfl) (by kernel_rfl) rfl (fun _ _ _ h => h) (fun _ _ => by kernel_rfl) (by exact hS) ?_
              simp only [Act.put, List.setIfInBounds_toArray, List.set_cons_succ, List.set_cons_zero]
              refine wpAnyH_take_d 4 (some 121) (.bool true) rfl (by kernel_rfl) (by kernel_rfl) (by kernel_rfl) (by kernel_rfl) rfl (fun _ _ _ h => h) (fun _ _ => by kernel_rfl) (by exact hS) ?_
              simp only [Act.put, List.setIfInBounds_toArray, List.set_cons_succ, List.set_cons_zero]
              refine wpAnyH_take_d 5 (some 122) (.bool true) rfl (by kernel_rfl) (by kernel_rfl) (by kernel_rfl) (by kernel_rfl) rfl (fun _ _ _ h => h) (fun _ _ => by kernel_rfl) (by exact hS) ?_
              simp only [Act.put, List.setIfInBounds_toArray, List.set_cons_succ, List.set_cons_zero]
              refine wpAnyH_take_d 6 (some 123) (.slice (some ⟨lb, 0, none⟩) n cA) rfl (by kernel_rfl) (by kernel_rfl) (by kernel_rfl) (by kernel_rfl) rfl (fun _ _ _ h => h) (fun _ _ => by kernel_rfl) (by exact hS) ?_
              simp only [Act.put, List.setIfInBounds_toArray, List.set_cons_succ, List.set_cons_zero]
              refine wpAnyH_take_d 7 (some 124) (.int .i64 j) rfl (by kernel_rfl) (by kernel_rfl) (by kernel_rfl) (by kernel_rfl) rfl (fun _ _ _ h => h) (fun _ _ => by kernel_rfl) (by exact hS) ?_
              simp only [Act.put, List.setIfInBounds_toArray, List.set_cons_succ, List.set_cons_zero]
              refine wpAnyH_take_d 8 (some 125) (.int .i64 (IntKind.i64.wrap ((j : Int) - 1))) rfl (by kernel_rfl) (by kernel_rfl) (by kernel_rfl) (by kernel_rfl) rfl (fun _ _ _ h => h) (fun _ _ => by kernel_rfl) (by exact hS) ?_
              simp only [Act.put, List.setIfInBounds_toArray, List.set_cons_succ, List.set_cons_zero]
              rw [e6]
              refine wpAnyH_take_d 9 (some 126) (.pointer (some ⟨lb, 0 + jm * 2, none⟩)) rfl (by kernel_rfl) (by kernel_rfl) (by kernel_rfl) (by kernel_rfl) rfl (fun _ _ _ h => h) (fun w' h => exec_indexAddrS rfl rfl rfl hjmn Try.underlying39 (by kernel_rfl)) (by exact hS) ?_
              simp only [Act.put, List.setIfInBounds_toArray, List.set_cons_succ, List.set_cons_zero]
              rw [Nat.zero_add]
              refine wpAnyH_take_d 10 (some 127) (.pointer (some ⟨lb, jm * 2, none⟩)) rfl (by kernel_rfl) (by kernel_rfl) (by kernel_rfl) (by kernel_rfl) rfl (fun _ _ _ h => h) (fun _ _ => by kernel_rfl) (by exact hS) ?_
              simp only [Act.put, List.setIfInBounds_toArray, List.set_cons_succ, List.set_cons_zero]
              refine wpAnyH_take_d 11 (some 128) (.int .i64 (at' M jm).id) rfl (by kernel_rfl) (by kernel_rfl) (by kernel_rfl) (by kernel_rfl) rfl (fun _ _ _ h => h) (fun w' h => exec_load_cell rfl rfl h.1 Try.underlying3 rfl) (by exact hS) ?_
              simp only [Act.put, List.setIfInBounds_toArray, List.set_cons_succ, List.set_cons_zero]
              refine wpAnyH_take_d 12 (some 129) (.pointer (some ⟨w5.heap.size, 0, none⟩)) rfl (by kernel_rfl) (by kernel_rfl) (by kernel_rfl) (by kernel_rfl) rfl (fun _ _ _ h => h) (fun _ _ => by kernel_rfl) (by exact hS) ?_
              simp only [Act.put, List.setIfInBounds_toArray, List.set_cons_succ, List.set_cons_zero]
              refine wpAnyH_take_d 13 (some 130) (.int .i64 c) rfl (by kernel_rfl) (by kernel_rfl) (by kernel_rfl) (by kernel_rfl) rfl (fun _ _ _ h => h) (fun w' h => exec_load_cell rfl rfl h.2 Try.underlying3 rfl) (by exact hS) ?_
              simp only [Act.put, List.setIfInBounds_toArray, List.set_cons_succ, List.set_cons_zero]
              refine wpAnyH_take_d 14 (some 131) (.bool (decide ((c : Int) < (at' M jm).id))) rfl (by kernel_rfl) (by kernel_rfl) (by kernel_rfl) (by kernel_rfl) rfl (fun _ _ _ h => h) (fun _ _ => by kernel_rfl) (by exact hS) ?_
              simp only [Act.put, List.setIfInBounds_toArray, List.set_cons_succ, List.set_cons_zero]
              rw [show decide ((c : Int) < (at' M jm).id) = false by simp; omega]
              refine wpAnyH_take_d 15 (some 132) (.bool false) rfl (by kernel_rfl) (by kernel_rfl) (by kernel_rfl) (by kernel_rfl) rfl (fun _ _ _ h => h) (fun _ _ => by kernel_rfl) (by exact hS) ?_
              simp only [Act.put, List.setIfInBounds_toArray, List.set_cons_succ, List.set_cons_zero]
              refine wpAnyH_one 16 (some 133) (.bool false) rfl (by kernel_rfl) (by kernel_rfl) rfl (by kernel_rfl) (by exact hS) ?_
              simp only [Act.put, List.setIfInBounds_toArray, List.set_cons_succ, List.set_cons_zero]
              refine wpAnyH_done (by kernel_rfl) ?_ _
              clear hS p0' p1' y0 y1
              go_wp2
              go_roundw
              case rel => exact ⟨j1, _, by have := HJ1.out; omega, by rw [HJ1.out, hjm]; simp, (FD.out _ (Below.refl _ _).drew.drew.drew).1, by rw [HJ1.out]; exact F8.out.2.1, (FD.out _ (Below.refl _ _).drew.drew.drew).2.1, by rw [HJ1.out]; exact (FD.out _ (Below.refl _ _).drew.drew.drew).2.2.1, (FD.out _ (Below.refl _ _).drew.drew.drew).2.2.2⟩
              case measure => have := HJ1.out; simp [intOf]; omega
        · obtain rfl : n = j := by omega
          have hS0 : S' = [] := by
            have := hpm.length_eq
            rw [List.length_drop] at this
            exact List.eq_nil_of_length_eq_zero (by omega)
          subst hS0
          have PN := Lib.hid (pop_none q)
          clear q hpm oM sn p1 s1 hlj hj
          go_wp2_with fail
          refine PN.out.mono ?_
          rintro e w5 ⟨rfl, b5⟩
          have B5 := hB.trans (b5.mono hB.size)
          clear b5 hB PN
          go_wp2_with (with_reducible refine wpList_alloc_row rfl 43 rfl #[.int .i64 0, .float .f64 0] (by kernel_rfl) ?_)
          intro w6 hg6 hb6 hs6
          obtain ⟨d0, g0, hst, -, -, hbl7⟩ := ent_store hg6 0 0
          have B7 := Lib.hid (hbl7 _ _ (B5.trans (hb6.mono B5.size)) B5.size)
          clear hbl7 hg6 hb6 hs6 B5
          go_wp2
          go_ret
          exact ⟨rfl, B7.out⟩

/-! ### the row -/
theorem laidOut : laidOutB Try.prog = true := by kernel_rfl
theorem bytesInt : Try.prog.bytesOf 3 = 8 := by kernel_rfl
set_option maxRecDepth 100000 in
theorem lifted (os : Os) (started : os.Started) (H : Type) (enc : TypeId × Value → H) :
    ReturnsInHanded {} Try.checked os 4 .any (Rows.queueSortsSpec.pre6 enc Try.prog Try.f4 Rows.queueSortsRow.domain false) (Rows.queueSortsSpec.post enc Try.prog Try.f4 false true false false) := by
  refine returnsInHanded_of_change_sized (C := Try.checked) own started (by kernel_rfl) Try.func4
    (ChangeSpec.witness6 (enc := enc) (C := Try.checked) false ⟨#[], #[.slice none 0 0], []⟩ 8 (by kernel_rfl) (by kernel_rfl) (by kernel_rfl) (by kernel_rfl)) ?_
  intro W base args ds gs before hval0 hW hcnd hsz0 _
  have hval : ∀ (j : Nat) t v, Try.f4.params[j]? = some t → args[j]? = some v → Value.okWide Try.prog W .any base t v := hval0
  have hW' := hW
  obtain ⟨p, q, hA0, hV, rfl, hfz, hnd⟩ := hW
  have hA : DataW.TrodAll enc Try.prog W 0 (fun _ => true) true Try.f4.params.toList args.toList ds p := hA0
  have hsz : (DataW.weightsEach Try.prog (Try.f4.params.toList ++ Rows.queueSortsSpec.plain.varTypes Try.prog) (ds ++ gs)).all (· ≤ reachBytes) = true := hsz0
  rw [Try.params4] at hA hval hsz
  obtain ⟨v0, vs0, d0, ds0, p0, q0, hargs, rfl, rfl, h0, r0⟩ := trodAll_cons hA
  obtain ⟨rfl, rfl, rfl⟩ := trodAll_nil r0
  obtain rfl : args = #[v0] := by cases args; simp_all
  obtain ⟨rfl, rfl⟩ := trodVars_none hV
  have k0 := h0
  have lt0 := args_lt k0
  obtain ⟨z0, w0⟩ := floats_arg (hval 0 36 v0 rfl rfl) h0
  clear hA0 hval0 hsz0
  refine (walk v0 z0 W w0).mono fun e W' ⟨he, bel⟩ => ?_
  subst he
  exact ⟨_, rfl, _, _, _, [], _, [], hW', trodAll_mk1 (shut_bool Try.underlying4 _), (trodAll_cons_mk (Below.trod laidOut (by kernel_rfl) (of_decide_eq_true (by kernel_rfl)) k0 bel lt0) trodAll_mk0), rfl, bel.frame _, fun h => by cases h⟩

theorem over : Rows.queueSortsRow.holds Try.pinned (OpenSpec.ofChange Rows.queueSortsSpec) :=
  OpenClaim.holds_of_wide 4 Try.f4 rfl rfl rfl rfl rfl rfl rfl ⟨rfl, rfl, rfl, rfl, rfl⟩ rfl rfl rfl rfl rfl (by kernel_rfl) Try.func4 (by kernel_rfl)
    (of_decide_eq_true (by kernel_rfl)) (by unfold Func.isWrapper; first | (rw [if_pos (by decide +kernel)]; kernel_rfl) | (rw [if_neg (by decide +kernel)]; exact ⟨rfl, rfl⟩))
    (fun os started H enc _ => lifted os started H enc)
end Go.Proofs.Ytegloiojhimoeaa.queueSorts

namespace Go.Proofs.Ytegloiojhimoeaa
/-- The law returns true at every input. -/
theorem queueSorts_holds : Rows.QueueSortsSaid := queueSorts.over
end Go.Proofs.Ytegloiojhimoeaa

