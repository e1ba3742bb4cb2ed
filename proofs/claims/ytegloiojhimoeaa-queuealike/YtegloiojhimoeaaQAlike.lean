/- In whatever order entries of unlike priorities are pushed, the list is the same: the law cisternlaw05.QueueAlike returns true at every input. No condition. -/
import Derived.Test.YtegloiojhimoeaaQTwo
import Derived.BigQuiet
namespace Go.Proofs.Ytegloiojhimoeaa.queueAlike
open Go.RowKit Go.ChangeShapes Go.WideShapes Go.ChangeAt

theorem own : ownKnob Try.prog.godebug = none := by kernel_rfl
/-- entry i of the numbers z -/
def isI (z : Nat → Nat) (x : Wt) (i : Nat) : Prop := x.id = (i : Int) ∧ x.pr = z i
/-- S holds the entries i of a list of places, in that order -/
def Has (z : Nat → Nat) (S : List Wt) (is : List Nat) : Prop := S.map (fun x => (x.id, x.pr)) = is.map (fun i : Nat => ((i : Int), z i))
theorem Has.push {z : Nat → Nat} {S : List Wt} {is : List Nat} (h : Has z S is) (b i t : Nat) : Has z (S ++ [⟨b, i, z i, t⟩]) (is ++ [i]) := by
  unfold Has at *; simp [h]
theorem Has.none {z : Nat → Nat} {S : List Wt} {is : List Nat} (h : Has z S is) {i : Nat} (hi : i ∉ is) : fnd S (i : Int) = none := by
  rw [fnd_none_iff]
  intro x hx e
  have : (x.id, x.pr) ∈ S.map (fun x => (x.id, x.pr)) := List.mem_map.2 ⟨x, hx, rfl⟩
  rw [h] at this
  obtain ⟨j, hj, e2⟩ := List.mem_map.1 this
  simp only [Prod.mk.injEq] at e2
  have : j = i := by omega
  exact hi (this ▸ hj)
theorem Has.len {z : Nat → Nat} {S : List Wt} {is : List Nat} (h : Has z S is) : S.length = is.length := by
  have := congrArg List.length h; simpa using this

def ip (x : Wt) : Int × Nat := (x.id, x.pr)
theorem keys_apart {z : Nat → Nat} {S M : List Wt} {is : List Nat} (h : Has z S is) (hd : is.Pairwise (fun a b => key (z a) ≠ key (z b))) (hp : M.Perm S) : M.Pairwise (fun a b => key a.pr ≠ key b.pr) := by
  refine (hp.pairwise_iff (fun {a b} h => Ne.symm h)).2 ?_
  have h1 : (S.map (fun x => (x.id, x.pr))).Pairwise (fun a b => key a.2 ≠ key b.2) := by
    rw [h, List.pairwise_map]; exact hd
  rw [List.pairwise_map] at h1
  exact h1
theorem sorted_ip {M : List Wt} (hk : M.Pairwise (fun a b => key a.pr ≠ key b.pr)) (hs : M.Pairwise (fun a b => a.ky < b.ky)) (ht : ∀ x ∈ M, x.turn < 4611686018427387904) : (M.map ip).Pairwise (fun a b => key a.2 < key b.2) := by
  rw [List.pairwise_map]
  rw [List.pairwise_iff_getElem] at *
  intro i j hi hj hij
  have a1 := hk i j hi hj hij
  have a2 := hs i j hi hj hij
  have t1 := ht _ (List.getElem_mem hi)
  have t2 := ht _ (List.getElem_mem hj)
  unfold Wt.ky at a2
  show key (M[i]).pr < key (M[j]).pr
  omega
theorem range_apart {z : Nat → Nat} {n : Nat} (hd : ∀ a b, b < a → a < n → key (z a) ≠ key (z b)) : (List.range n).Pairwise (fun a b => key (z a) ≠ key (z b)) := by
  rw [List.pairwise_iff_getElem]
  intro i j hi hj hij
  simp only [List.getElem_range]
  exact Ne.symm (hd j i hij (by simpa using hj))
theorem rev_perm (n : Nat) : ((List.range n).map (fun i => n - 1 - i)).Perm (List.range n) := by
  have : (List.range n).map (fun i => n - 1 - i) = (List.range n).reverse := by
    refine List.ext_getElem (by simp) (fun i h1 h2 => ?_)
    simp
  rw [this]; exact List.reverse_perm _
theorem alike_eq {z : Nat → Nat} {n : Nat} {Sa Sb Ma Mb : List Wt} (ha : Has z Sa (List.range n)) (hb : Has z Sb ((List.range n).map (fun i => n - 1 - i))) (hd : ∀ a b, b < a → a < n → key (z a) ≠ key (z b)) (pa : Ma.Perm Sa) (pb : Mb.Perm Sb)
    (sa : Ma.Pairwise (fun a b => a.ky < b.ky)) (sb : Mb.Pairwise (fun a b => a.ky < b.ky)) (ta : ∀ x ∈ Ma, x.turn < 4611686018427387904) (tb : ∀ x ∈ Mb, x.turn < 4611686018427387904) : ∀ i, i < Ma.length → (at' Ma i).id = (at' Mb i).id ∧ (at' Ma i).pr = (at' Mb i).pr := by
  have r1 := range_apart hd
  have r2 : ((List.range n).map (fun i => n - 1 - i)).Pairwise (fun a b => key (z a) ≠ key (z b)) := ((rev_perm n).pairwise_iff (fun {a b} h => Ne.symm h)).2 r1
  have hp : (Ma.map ip).Perm (Mb.map ip) := by
    refine (pa.map ip).trans (List.Perm.trans ?_ (pb.map ip).symm)
    have e1 : Sa.map ip = (List.range n).map (fun i : Nat => ((i : Int), z i)) := ha
    have e2 : Sb.map ip = ((List.range n).map (fun i => n - 1 - i)).map (fun i : Nat => ((i : Int), z i)) := hb
    rw [e1, e2]
    exact ((rev_perm n).map _).symm
  have e := uniq_sorted (fun x : Int × Nat => key x.2) hp (sorted_ip (keys_apart ha r1 pa) sa ta) (sorted_ip (keys_apart hb r2 pb) sb tb)
  intro i hi
  have hl : Ma.length = Mb.length := by have := congrArg List.length e; simpa using this
  have e2 : (Ma.map ip)[i]? = (Mb.map ip)[i]? := by rw [e]
  rw [List.getElem?_map, List.getElem?_map, at_some hi, at_some (by omega)] at e2
  simp only [Option.map_some, Option.some.injEq, ip, Prod.mk.injEq] at e2
  exact e2

set_option maxRecDepth 20000 in
set_option maxHeartbeats 6400000 in
theorem walk (v0 : Value) (z0 : List Nat) (W : World) (w0 : FloatsArg W v0 z0) :
    Calls Try.prog 6 #[v0] W fun e w' => e = .returned (.bool true) ∧ Below W.heap.size W w' := by
  obtain ⟨ao, cap, rfl, hl0, -⟩ := w0.1.form
  go_enter Try.func6, Try.ntmps6
  go_wp2_with fail
  refine (known_any W).mono ?_
  rintro e w1 ⟨rfl, b1⟩
  go_wp2_with fail
  refine (new_any w1).mono ?_
  rintro e w2 ⟨rfl, q2, b2⟩
  go_wp2_with fail
  refine (new_any w2).mono ?_
  rintro e w3 ⟨rfl, q3, b3⟩
  go_wp2
  obtain ⟨n, hn⟩ : ∃ n, n = min z0.length 40 := ⟨_, rfl⟩
  have hm : min (z0.length : Int) 40 = (n : Int) := by omega
  rw [hm]
  have B3 : Hid (Below W.heap.size W w3) := (b1.trans (b2.mono b1.size)).trans (b3.mono (Nat.le_trans b1.size b2.size))
  have Q2 := Lib.hid (q2.wider b3)
  have Q3 := Lib.hid q3
  have hs := And.intro b1.size (And.intro b2.size b3.size)
  have hz := zs_lt w0.2
  have HN := Lib.hid hn
  have hn40 : n ≤ 40 := by omega
  have hnz : n ≤ z0.length := by omega
  clear b1 b2 b3 q2 q3 hm hn
  obtain ⟨z, hze⟩ : ∃ z : Nat → Nat, z = fun i => z0.getD i 0 := ⟨_, rfl⟩
  have hz' : ∀ i, z i < 18446744073709551616 := fun i => by rw [hze]; exact hz i
  have hat : ∀ w', Below W.heap.size W w' → ∀ i, i < z0.length → ∃ b off, ao = some ⟨b, off, none⟩ ∧ w'.cell? ⟨b, off + i, none⟩ = some (.float .f64 (z i)) := fun w' hb i hi => by
    rw [hze]; exact w0.1.at hb hi
  have AT := Lib.hid hat
  clear hat hz hze w0
  generalize z0.length = m at *
  go_loopw [6] (fun iv wr => ∃ i : Nat, i ≤ n ∧ iv = .int .i64 i ∧ (∀ a b, b < a → a < i → key (z a) ≠ key (z b)) ∧ Below w3.heap.size w3 wr) (fun iv _ => n - (intOf iv).toNat)
  case atStart => exact ⟨0, Nat.zero_le _, rfl, fun a b _ h => by omega, Below.refl _ _⟩
  case round =>
    obtain ⟨i, hi, rfl, hd, hb⟩ := hrel
    by_cases hlt : i < n
    · have hlt' : (i : Int) < (n : Int) := by omega
      have HD := Lib.hid hd
      clear hd
      go_wp2
      go_loopw [7] (fun kv wr => ∃ k : Nat, k ≤ i ∧ kv = .int .i64 k ∧ (∀ b, b < k → key (z i) ≠ key (z b)) ∧ Below w3.heap.size w3 wr) (fun kv _ => i - (intOf kv).toNat)
      case atStart => exact ⟨0, Nat.zero_le _, rfl, fun b h => by omega, hb⟩
      case round =>
        obtain ⟨k, hk, rfl, hdk, hbk⟩ := hrel
        by_cases hlk : k < i
        · have hlk' : (k : Int) < (i : Int) := by omega
          obtain ⟨b, off, rfl, ci⟩ := AT.out wr (B3.out.trans (hbk.mono B3.out.size)) i (by omega)
          obtain ⟨b', off', e', ck⟩ := AT.out wr (B3.out.trans (hbk.mono B3.out.size)) k (by omega)
          cases e'
          have him : i < m := by omega
          have hkm : k < m := by omega
          have C := fun w => cmp_any (z i) (z k) w (hz' i) (hz' k)
          have HDK := Lib.hid hdk
          clear hdk
          go_wp2_with fail
          have hS : wr.drew.cell? ⟨b, off + i, none⟩ = some (.float .f64 (z i)) ∧ wr.drew.cell? ⟨b, off + k, none⟩ = some (.float .f64 (z k)) := ⟨ci, ck⟩
          refine wp_region_held_drew (S := fun w' => w'.cell? ⟨b, off + i, none⟩ = some (.float .f64 (z i)) ∧ w'.cell? ⟨b, off + k, none⟩ = some (.float .f64 (z k))) mixed hS (fun _ => ?_)
          show wpAnyH _ _ _ _ _ 10 (Array.replicate 10 false) _ _
          refine wpAnyH_take_d 0 (some 29) (.slice (some ⟨b, off, none⟩) m cap) rfl (by kernel_rfl) (by kernel_rfl) (by kernel_rfl) (by kernel_rfl) rfl (fun _ _ _ h => h) (fun _ _ => by kernel_rfl) (by exact hS) ?_
          simp only [Act.put, List.setIfInBounds_toArray, List.set_cons_succ, List.set_cons_zero]
          refine wpAnyH_take_d 1 (some 30) (.int .i64 i) rfl (by kernel_rfl) (by kernel_rfl) (by kernel_rfl) (by kernel_rfl) rfl (fun _ _ _ h => h) (fun _ _ => by kernel_rfl) (by exact hS) ?_
          simp only [Act.put, List.setIfInBounds_toArray, List.set_cons_succ, List.set_cons_zero]
          refine wpAnyH_take_d 2 (some 31) (.pointer (some ⟨b, off + i, none⟩)) rfl (by kernel_rfl) (by kernel_rfl) (by kernel_rfl) (by kernel_rfl) rfl (fun _ _ _ h => h) (fun w' h => exec_indexAddr rfl rfl rfl him Try.underlying36 (by kernel_rfl)) (by exact hS) ?_
          simp only [Act.put, List.setIfInBounds_toArray, List.set_cons_succ, List.set_cons_zero]
          refine wpAnyH_take_d 3 (some 32) (.float .f64 (z i)) rfl (by kernel_rfl) (by kernel_rfl) (by kernel_rfl) (by kernel_rfl) rfl (fun _ _ _ h => h) (fun w' h => exec_load_cell rfl rfl h.1 Try.underlying31 rfl) (by exact hS) ?_
          simp only [Act.put, List.setIfInBounds_toArray, List.set_cons_succ, List.set_cons_zero]
          refine wpAnyH_take_d 4 (some 33) (.slice (some ⟨b, off, none⟩) m cap) rfl (by kernel_rfl) (by kernel_rfl) (by kernel_rfl) (by kernel_rfl) rfl (fun _ _ _ h => h) (fun _ _ => by kernel_rfl) (by exact hS) ?_
          simp only [Act.put, List.setIfInBounds_toArray, List.set_cons_succ, List.set_cons_zero]
          refine wpAnyH_take_d 5 (some 34) (.int .i64 k) rfl (by kernel_rfl) (by kernel_rfl) (by kernel_rfl) (by kernel_rfl) rfl (fun _ _ _ h => h) (fun _ _ => by kernel_rfl) (by exact hS) ?_
          simp only [Act.put, List.setIfInBounds_toArray, List.set_cons_succ, List.set_cons_zero]
          refine wpAnyH_take_d 6 (some 35) (.pointer (some ⟨b, off + k, none⟩)) rfl (by kernel_rfl) (by kernel_rfl) (by kernel_rfl) (by kernel_rfl) rfl (fun _ _ _ h => h) (fun w' h => exec_indexAddr rfl rfl rfl hkm Try.underlying36 (by kernel_rfl)) (by exact hS) ?_
          simp only [Act.put, List.setIfInBounds_toArray, List.set_cons_succ, List.set_cons_zero]
          refine wpAnyH_take_d 7 (some 36) (.float .f64 (z k)) rfl (by kernel_rfl) (by kernel_rfl) (by kernel_rfl) (by kernel_rfl) rfl (fun _ _ _ h => h) (fun w' h => exec_load_cell rfl rfl h.2 Try.underlying31 rfl) (by exact hS) ?_
          simp only [Act.put, List.setIfInBounds_toArray, List.set_cons_succ, List.set_cons_zero]
          refine wpAnyH_call 8 (some 37) 17 #[.float .f64 (z i), .float .f64 (z k)] rfl (by kernel_rfl) (by kernel_rfl) rfl (by kernel_rfl) (C _) ?_
          rintro e _ ⟨rfl, rfl⟩
          refine ⟨_, rfl, hS, ?_⟩
          simp only [Act.put, List.setIfInBounds_toArray, List.set_cons_succ, List.set_cons_zero]
          by_cases hq : key (z i) = key (z k)
          · have hc0 : cmpB (z i) (z k) = 0 := by unfold cmpB cmpI; rw [hq]; simp
            rw [hc0]
            refine wpAnyH_one 9 (some 38) (.bool true) rfl (by kernel_rfl) (by kernel_rfl) rfl (by kernel_rfl) (by exact hS) ?_
            simp only [Act.put, List.setIfInBounds_toArray, List.set_cons_succ, List.set_cons_zero]
            refine wpAnyH_done (by kernel_rfl) ?_ _
            clear hS ci ck C hc0
            go_wp2
            go_ret
            exact ⟨rfl, B3.out.trans ((hbk.mono B3.out.size).drew)⟩
          · have hc0 : (cmpB (z i) (z k) == 0) = false := by
              have : cmpB (z i) (z k) ≠ 0 := by
                unfold cmpB
                rcases cmpI_cases (key (z i)) (key (z k)) with ⟨_, e⟩ | ⟨_, e⟩ | ⟨h, e⟩
                · rw [e]; decide
                · rw [e]; decide
                · exact absurd h hq
              simpa using this
            generalize cmpB (z i) (z k) = cc at hc0
            have HQ := Lib.hid hq
            clear hq
            refine wpAnyH_one 9 (some 38) (.bool (cc == 0)) rfl (by kernel_rfl) (by kernel_rfl) rfl (by kernel_rfl) (by exact hS) ?_
            simp only [Act.put, List.setIfInBounds_toArray, List.set_cons_succ, List.set_cons_zero]
            rw [hc0]
            refine wpAnyH_done (by kernel_rfl) ?_ _
            clear hS ci ck C
            have e1 : IntKind.i64.wrap ((k : Int) + 1) = ((k + 1 : Nat) : Int) := by rw [IntKind.wrap_i64]; omega
            generalize hk1 : k + 1 = k1 at e1
            go_wp2
            go_roundw
            case rel =>
              refine ⟨k1, by omega, rfl, fun b hb => ?_, hbk.drew⟩
              by_cases e : b = k
              · subst e; exact HQ.out
              · exact HDK.out b (by omega)
            case measure => simp [intOf]; omega
        · obtain rfl : k = i := by omega
          have e1 : IntKind.i64.wrap ((k : Int) + 1) = ((k + 1 : Nat) : Int) := by rw [IntKind.wrap_i64]; omega
          generalize hk1 : k + 1 = k1 at e1
          have HDK := Lib.hid hdk
          clear hdk
          go_wp2
          go_roundw
          case rel =>
            refine ⟨k1, by omega, rfl, fun a b hba ha => ?_, hbk⟩
            by_cases e : a = k
            · subst e; exact HDK.out b hba
            · exact HD.out a b hba (by omega)
          case measure => simp [intOf]; omega
    · obtain rfl : n = i := by omega
      have HD := Lib.hid hd
      clear hd hlt
      have hcov : ∀ k, k < wr.heap.size → ((k < w1.heap.size ∨ w2.heap.size ≤ k ∧ k < w3.heap.size) ∨ (w3.heap.size ≤ k ∧ k < wr.heap.size)) ∨ k < w2.heap.size := fun k hk => by omega
      have Q2' := Lib.hid (Q2.out.wider hb)
      have Q3' := Lib.hid (Q3.out.below hb)
      have BW := Lib.hid (B3.out.trans (hb.mono B3.out.size))
      have HC := Lib.hid hcov
      clear hcov hb Q2 Q3 B3
      go_wp2
      go_loopw [8] (fun kv wr => ∃ (k : Nat) (Xa Xb : Nat → Prop) (Sa Sb : List Wt), k ≤ n ∧ kv = .int .i64 k ∧ (∀ j, j < W.heap.size → Xa j ∧ Xb j) ∧ (∀ j, j < wr.heap.size → Xa j ∨ Xb j) ∧ QAt Xa wr w1.heap.size Sa k k ∧ QAt Xb wr w2.heap.size Sb k k ∧
          Has z Sa (List.range k) ∧ Has z Sb ((List.range k).map (fun i => n - 1 - i)) ∧ Below W.heap.size W wr) (fun kv _ => n - (intOf kv).toNat)
      case atStart => exact ⟨0, _, _, [], [], Nat.zero_le _, rfl, fun j hj => ⟨Or.inl (Or.inl (by omega)), by omega⟩, HC.out, Q2'.out, Q3'.out, rfl, rfl, BW.out⟩
      case round =>
        clear Q2' Q3' BW HC
        obtain ⟨k, Xa, Xb, Sa, Sb, hk, rfl, hbase, hcov, qa, qb, ha, hb, hbel⟩ := hrel
        by_cases hlk : k < n
        · have hlk' : (k : Int) < (n : Int) := by omega
          obtain ⟨b, off, rfl, ck⟩ := AT.out wr hbel k (by omega)
          have hkm : k < m := by omega
          have hjm : n - 1 - k < m := by omega
          have e1 : IntKind.i64.wrap ((n : Int) - 1) = ((n - 1 : Nat) : Int) := by rw [IntKind.wrap_i64]; omega
          have e2 : IntKind.i64.wrap (((n - 1 : Nat) : Int) - (k : Int)) = ((n - 1 - k : Nat) : Int) := by rw [IntKind.wrap_i64]; omega
          have e3 : IntKind.i64.wrap ((k : Int) + 1) = ((k + 1 : Nat) : Int) := by rw [IntKind.wrap_i64]; omega
          have la : Sa.length = k := by rw [ha.len]; simp
          have lb : Sb.length = k := by rw [hb.len]; simp
          have PA := Lib.hid (push_ok qa (id := (k : Int)) (p := z k) (by unfold fits; omega) (hz' k) (ha.none (by simp)) (by omega) (by omega) (by unfold maxLen; omega))
          have hnb : fnd Sb ((n - 1 - k : Nat) : Int) = none := hb.none (by
            intro hmem
            obtain ⟨j, hj, e⟩ := List.mem_map.1 hmem
            have := List.mem_range.1 hj
            omega)
          have PB := Lib.hid (fun (X : Nat → Prop) (w' : World) (q : QAt X w' w2.heap.size Sb k k) => push_ok q (id := ((n - 1 - k : Nat) : Int)) (p := z (n - 1 - k)) (by unfold fits; omega) (hz' _) hnb (by omega) (by omega) (by unfold maxLen; omega))
          have H := Lib.hid (And.intro hbase (And.intro hcov (And.intro qb (And.intro ha hb))))
          clear hbase hcov qa qb ha hb la lb hnb
          generalize hnk : n - 1 - k = nk at e2 PB hjm
          generalize hn1 : n - 1 = n1 at e1 e2
          generalize hk1 : k + 1 = k1 at e3
          have HE := Lib.hid (And.intro hnk (And.intro hn1 (And.intro hk1 hlk)))
          clear hnk hn1 hk1 hlk
          go_wp2_with fail
          refine PA.out.mono ?_
          rintro e w4 ⟨ba, rfl, qa4, ka4⟩
          obtain ⟨hbase, hcov, qb, ha, hb⟩ := H.out
          have b4 := hbel.trans (ka4.below hbel.size (fun j hj => (hbase j hj).1))
          have qb4 := qb.other ka4 hcov
          have cv4 := cover_other (w' := w4) hcov
          obtain ⟨b', off', e', cn⟩ := AT.out w4 b4 nk hjm
          cases e'
          have H4 := Lib.hid (And.intro qa4 (And.intro qb4 (And.intro cv4 (And.intro b4 (And.intro hbase (And.intro ha hb))))))
          clear qa4 ka4 qb4 cv4 b4 hbase hcov qb ha hb H PA ck hbel
          go_wp2_with fail
          refine (PB.out _ _ H4.out.2.1).mono ?_
          rintro e w5 ⟨bb, rfl, qb5, kb5⟩
          obtain ⟨qa4, qb4, cv4, b4, hbase, ha, hb⟩ := H4.out
          have qa5 := qa4.other kb5 (fun j hj => (cv4 j hj).symm)
          have cv5 := cover_other (w' := w5) (fun j hj => (cv4 j hj).symm)
          have b5 := b4.trans (kb5.below b4.size (fun j hj => Or.inl (hbase j hj).2))
          have H5 := Lib.hid (And.intro qa5 (And.intro qb5 (And.intro cv5 (And.intro b5 (And.intro hbase (And.intro ha hb))))))
          clear qa4 qb4 cv4 b4 hbase ha hb qa5 qb5 cv5 b5 kb5 H4 PB cn
          go_wp2
          go_roundw
          case rel =>
            obtain ⟨qa5, qb5, cv5, b5, hbase, ha, hb⟩ := H5.out
            obtain ⟨x1, x2, x3, x4⟩ := HE.out
            subst x3
            refine ⟨k + 1, _, _, _, _, x4, rfl, fun j hj => ⟨Or.inl (hbase j hj).1, Or.inl (hbase j hj).2⟩, fun j hj => (cv5 j hj).symm, qa5, qb5, ?_, ?_, b5⟩
            · rw [List.range_succ]; exact ha.push ba k k
            · rw [List.range_succ, List.map_append, List.map_singleton]
              subst x2
              rw [x1]
              exact hb.push bb nk k
          case measure => have := HE.out; simp [intOf]; omega
        · obtain rfl : n = k := by omega
          clear hlk hk
          have la : Sa.length = n := by rw [ha.len]; simp
          have lb : Sb.length = n := by rw [hb.len]; simp
          have LA := Lib.hid (list_any qa (by omega))
          have H := Lib.hid (And.intro qa (And.intro qb (And.intro ha (And.intro hb (And.intro la lb)))))
          clear qa qb ha hb la lb hbase hcov
          go_wp2_with fail
          refine LA.out.mono ?_
          rintro e w4 ⟨aoa, ca, Ma, rfl, pa, sa, oa, ba⟩
          have LB := Lib.hid (list_any (H.out.2.1.below ba) (by omega))
          have hla : Ma.length = n := by rw [pa.length_eq]; exact H.out.2.2.2.2.1
          have HA := Lib.hid (And.intro pa (And.intro sa oa))
          have b4 := hbel.trans (ba.mono hbel.size)
          rw [hla]
          have HLA := Lib.hid hla
          clear pa sa oa LA hbel hla
          go_wp2_with fail
          refine LB.out.mono ?_
          rintro e w5 ⟨aob, cb, Mb, rfl, pb, sb, ob, bb⟩
          have hlb : Mb.length = n := by rw [pb.length_eq]; exact H.out.2.2.2.2.2
          have oa5 := HA.out.2.2.below bb
          have heq := alike_eq H.out.2.2.1 H.out.2.2.2.1 HD.out HA.out.1 pb HA.out.2.1 sb (fun x hx => by have := H.out.1.tu x (HA.out.1.mem_iff.1 hx); omega) (fun x hx => by have := H.out.2.1.tu x (pb.mem_iff.1 hx); omega)
          have b5 := b4.trans (bb.mono b4.size)
          have HF := Lib.hid (And.intro oa5 (And.intro ob (And.intro heq (And.intro b5 (And.intro HLA.out hlb)))))
          rw [hlb]
          clear pb sb ob bb oa5 heq b5 b4 ba HLA hlb HA H LB HD AT hz'
          go_wp2
          go_loopw [11] (fun kv wr => ∃ k : Nat, k ≤ n ∧ kv = .int .i64 k ∧ Below w5.heap.size w5 wr) (fun kv _ => n - (intOf kv).toNat)
          case atStart => exact ⟨0, Nat.zero_le _, rfl, Below.refl _ _⟩
          case round =>
            obtain ⟨k, hk, rfl, hbk⟩ := hrel
            obtain ⟨oa, ob, heq, b5, hla, hlb⟩ := HF.out
            by_cases hlk : k < n
            · have hlk' : (k : Int) < (n : Int) := by omega
              have oa' := oa.below hbk
              have ob' := ob.below hbk
              rw [hla] at oa'
              rw [hlb] at ob'
              obtain ⟨ga, rfl, -, a0, a1⟩ := oa'.get2 (k := k) (by omega)
              obtain ⟨gb, rfl, -, c0, c1⟩ := ob'.get2 (k := k) (by omega)
              obtain ⟨ei, ep⟩ := heq k (by omega)
              rw [← ei] at c0
              rw [← ep] at c1
              have e3 : IntKind.i64.wrap ((k : Int) + 1) = ((k + 1 : Nat) : Int) := by rw [IntKind.wrap_i64]; omega
              generalize (at' Ma k).id = xi at a0 c0
              generalize (at' Ma k).pr = xp at a1 c1
              clear oa' ob' ei ep oa ob heq b5 hla hlb
              have SM := fun w => same_any xp xp w
              rw [same_refl] at SM
              generalize hk1 : k + 1 = k1 at e3
              go_wp2_with fail
              have hS : (wr.drew.cell? ⟨ga, k * 2, none⟩ = some (.int .i64 xi) ∧ wr.drew.cell? ⟨ga, k * 2 + 1, none⟩ = some (.float .f64 xp)) ∧ wr.drew.cell? ⟨gb, k * 2, none⟩ = some (.int .i64 xi) ∧ wr.drew.cell? ⟨gb, k * 2 + 1, none⟩ = some (.float .f64 xp) := ⟨⟨a0, a1⟩, c0, c1⟩
              refine wp_region_held_drew (S := fun w' => (w'.cell? ⟨ga, k * 2, none⟩ = some (.int .i64 xi) ∧ w'.cell? ⟨ga, k * 2 + 1, none⟩ = some (.float .f64 xp)) ∧ w'.cell? ⟨gb, k * 2, none⟩ = some (.int .i64 xi) ∧ w'.cell? ⟨gb, k * 2 + 1, none⟩ = some (.float .f64 xp)) mixed hS (fun _ => ?_)
              show wpAnyH _ _ _ _ _ 25 (Array.replicate 25 false) _ _
              refine wpAnyH_take_d 0 (some 87) (.slice (some ⟨ga, 0, none⟩) n ca) rfl (by kernel_rfl) (by kernel_rfl) (by kernel_rfl) (by kernel_rfl) rfl (fun _ _ _ h => h) (fun _ _ => by kernel_rfl) (by exact hS) ?_
              simp only [Act.put, List.setIfInBounds_toArray, List.set_cons_succ, List.set_cons_zero]
              refine wpAnyH_take_d 1 (some 88) (.int .i64 k) rfl (by kernel_rfl) (by kernel_rfl) (by kernel_rfl) (by kernel_rfl) rfl (fun _ _ _ h => h) (fun _ _ => by kernel_rfl) (by exact hS) ?_
              simp only [Act.put, List.setIfInBounds_toArray, List.set_cons_succ, List.set_cons_zero]
              refine wpAnyH_take_d 2 (some 89) (.pointer (some ⟨ga, 0 + k * 2, none⟩)) rfl (by kernel_rfl) (by kernel_rfl) (by kernel_rfl) (by kernel_rfl) rfl (fun _ _ _ h => h) (fun w' h => exec_indexAddrS rfl rfl rfl hlk Try.underlying39 (by kernel_rfl)) (by exact hS) ?_
              simp only [Act.put, List.setIfInBounds_toArray, List.set_cons_succ, List.set_cons_zero]
              rw [Nat.zero_add]
              refine wpAnyH_take_d 3 (some 90) (.pointer (some ⟨ga, k * 2, none⟩)) rfl (by kernel_rfl) (by kernel_rfl) (by kernel_rfl) (by kernel_rfl) rfl (fun _ _ _ h => h) (fun _ _ => by kernel_rfl) (by exact hS) ?_
              simp only [Act.put, List.setIfInBounds_toArray, List.set_cons_succ, List.set_cons_zero]
              refine wpAnyH_take_d 4 (some 91) (.int .i64 xi) rfl (by kernel_rfl) (by kernel_rfl) (by kernel_rfl) (by kernel_rfl) rfl (fun _ _ _ h => h) (fun w' h => exec_load_cell rfl rfl h.1.1 Try.underlying3 rfl) (by exact hS) ?_
              simp only [Act.put, List.setIfInBounds_toArray, List.set_cons_succ, List.set_cons_zero]
              refine wpAnyH_take_d 5 (some 92) (.slice (some ⟨gb, 0, none⟩) n cb) rfl (by kernel_rfl) (by kernel_rfl) (by kernel_rfl) (by kernel_rfl) rfl (fun _ _ _ h => h) (fun _ _ => by kernel_rfl) (by exact hS) ?_
              simp only [Act.put, List.setIfInBounds_toArray, List.set_cons_succ, List.set_cons_zero]
              refine wpAnyH_take_d 6 (some 93) (.int .i64 k) rfl (by kernel_rfl) (by kernel_rfl) (by kernel_rfl) (by kernel_rfl) rfl (fun _ _ _ h => h) (fun _ _ => by kernel_rfl) (by exact hS) ?_
              simp only [Act.put, List.setIfInBounds_toArray, List.set_cons_succ, List.set_cons_zero]
              refine wpAnyH_take_d 7 (some 94) (.pointer (some ⟨gb, 0 + k * 2, none⟩)) rfl (by kernel_rfl) (by kernel_rfl) (by kernel_rfl) (by kernel_rfl) rfl (fun _ _ _ h => h) (fun w' h => exec_indexAddrS rfl rfl rfl hlk Try.underlying39 (by kernel_rfl)) (by exact hS) ?_
              simp only [Act.put, List.setIfInBounds_toArray, List.set_cons_succ, List.set_cons_zero]
              rw [Nat.zero_add]
              refine wpAnyH_take_d 8 (some 95) (.pointer (some ⟨gb, k * 2, none⟩)) rfl (by kernel_rfl) (by kernel_rfl) (by kernel_rfl) (by kernel_rfl) rfl (fun _ _ _ h => h) (fun _ _ => by kernel_rfl) (by exact hS) ?_
              simp only [Act.put, List.setIfInBounds_toArray, List.set_cons_succ, List.set_cons_zero]
              refine wpAnyH_take_d 9 (some 96) (.int .i64 xi) rfl (by kernel_rfl) (by kernel_rfl) (by kernel_rfl) (by kernel_rfl) rfl (fun _ _ _ h => h) (fun w' h => exec_load_cell rfl rfl h.2.1 Try.underlying3 rfl) (by exact hS) ?_
              simp only [Act.put, List.setIfInBounds_toArray, List.set_cons_succ, List.set_cons_zero]
              refine wpAnyH_take_d 10 (some 97) (.bool false) rfl (by kernel_rfl) (by kernel_rfl) (by kernel_rfl) (by kernel_rfl) rfl (fun _ _ _ h => h) (fun w' h => exec_intneq rfl rfl rfl rfl) (by exact hS) ?_
              simp only [Act.put, List.setIfInBounds_toArray, List.set_cons_succ, List.set_cons_zero]
              refine wpAnyH_take_d 11 (some 98) (.bool false) rfl (by kernel_rfl) (by kernel_rfl) (by kernel_rfl) (by kernel_rfl) rfl (fun _ _ _ h => h) (fun _ _ => by kernel_rfl) (by exact hS) ?_
              simp only [Act.put, List.setIfInBounds_toArray, List.set_cons_succ, List.set_cons_zero]
              refine wpAnyH_take_d 12 (some 99) (.slice (some ⟨ga, 0, none⟩) n ca) rfl (by kernel_rfl) (by kernel_rfl) (by kernel_rfl) (by kernel_rfl) rfl (fun _ _ _ h => h) (fun _ _ => by kernel_rfl) (by exact hS) ?_
              simp only [Act.put, List.setIfInBounds_toArray, List.set_cons_succ, List.set_cons_zero]
              refine wpAnyH_take_d 13 (some 100) (.int .i64 k) rfl (by kernel_rfl) (by kernel_rfl) (by kernel_rfl) (by kernel_rfl) rfl (fun _ _ _ h => h) (fun _ _ => by kernel_rfl) (by exact hS) ?_
              simp only [Act.put, List.setIfInBounds_toArray, List.set_cons_succ, List.set_cons_zero]
              refine wpAnyH_take_d 14 (some 101) (.pointer (some ⟨ga, 0 + k * 2, none⟩)) rfl (by kernel_rfl) (by kernel_rfl) (by kernel_rfl) (by kernel_rfl) rfl (fun _ _ _ h => h) (fun w' h => exec_indexAddrS rfl rfl rfl hlk Try.underlying39 (by kernel_rfl)) (by exact hS) ?_
              simp only [Act.put, List.setIfInBounds_toArray, List.set_cons_succ, List.set_cons_zero]
              rw [Nat.zero_add]
              refine wpAnyH_take_d 15 (some 102) (.pointer (some ⟨ga, k * 2 + 1, none⟩)) rfl (by kernel_rfl) (by kernel_rfl) (by kernel_rfl) (by kernel_rfl) rfl (fun _ _ _ h => h) (fun _ _ => by kernel_rfl) (by exact hS) ?_
              simp only [Act.put, List.setIfInBounds_toArray, List.set_cons_succ, List.set_cons_zero]
              refine wpAnyH_take_d 16 (some 103) (.float .f64 xp) rfl (by kernel_rfl) (by kernel_rfl) (by kernel_rfl) (by kernel_rfl) rfl (fun _ _ _ h => h) (fun w' h => exec_load_cell rfl rfl h.1.2 Try.underlying31 rfl) (by exact hS) ?_
              simp only [Act.put, List.setIfInBounds_toArray, List.set_cons_succ, List.set_cons_zero]
              refine wpAnyH_take_d 17 (some 104) (.slice (some ⟨gb, 0, none⟩) n cb) rfl (by kernel_rfl) (by kernel_rfl) (by kernel_rfl) (by kernel_rfl) rfl (fun _ _ _ h => h) (fun _ _ => by kernel_rfl) (by exact hS) ?_
              simp only [Act.put, List.setIfInBounds_toArray, List.set_cons_succ, List.set_cons_zero]
              refine wpAnyH_take_d 18 (some 105) (.int .i64 k) rfl (by kernel_rfl) (by kernel_rfl) (by kernel_rfl) (by kernel_rfl) rfl (fun _ _ _ h => h) (fun _ _ => by kernel_rfl) (by exact hS) ?_
              simp only [Act.put, List.setIfInBounds_toArray, List.set_cons_succ, List.set_cons_zero]
              refine wpAnyH_take_d 19 (some 106) (.pointer (some ⟨gb, 0 + k * 2, none⟩)) rfl (by kernel_rfl) (by kernel_rfl) (by kernel_rfl) (by kernel_rfl) rfl (fun _ _ _ h => h) (fun w' h => exec_indexAddrS rfl rfl rfl hlk Try.underlying39 (by kernel_rfl)) (by exact hS) ?_
              simp only [Act.put, List.setIfInBounds_toArray, List.set_cons_succ, List.set_cons_zero]
              rw [Nat.zero_add]
              refine wpAnyH_take_d 20 (some 107) (.pointer (some ⟨gb, k * 2 + 1, none⟩)) rfl (by kernel_rfl) (by kernel_rfl) (by kernel_rfl) (by kernel_rfl) rfl (fun _ _ _ h => h) (fun _ _ => by kernel_rfl) (by exact hS) ?_
              simp only [Act.put, List.setIfInBounds_toArray, List.set_cons_succ, List.set_cons_zero]
              refine wpAnyH_take_d 21 (some 108) (.float .f64 xp) rfl (by kernel_rfl) (by kernel_rfl) (by kernel_rfl) (by kernel_rfl) rfl (fun _ _ _ h => h) (fun w' h => exec_load_cell rfl rfl h.2.2 Try.underlying31 rfl) (by exact hS) ?_
              simp only [Act.put, List.setIfInBounds_toArray, List.set_cons_succ, List.set_cons_zero]
              refine wpAnyH_call 22 (some 109) 16 #[.float .f64 xp, .float .f64 xp] rfl (by kernel_rfl) (by kernel_rfl) rfl (by kernel_rfl) (SM _) ?_
              rintro e _ ⟨rfl, rfl⟩
              refine ⟨_, rfl, hS, ?_⟩
              simp only [Act.put, List.setIfInBounds_toArray, List.set_cons_succ, List.set_cons_zero]
              refine wpAnyH_one 23 (some 110) (.bool false) rfl (by kernel_rfl) (by kernel_rfl) rfl (by kernel_rfl) (by exact hS) ?_
              simp only [Act.put, List.setIfInBounds_toArray, List.set_cons_succ, List.set_cons_zero]
              refine wpAnyH_one 24 (some 111) (.bool false) rfl (by kernel_rfl) (by kernel_rfl) rfl (by kernel_rfl) (by exact hS) ?_
              simp only [Act.put, List.setIfInBounds_toArray, List.set_cons_succ, List.set_cons_zero]
              refine wpAnyH_done (by kernel_rfl) ?_ _
              clear hS a0 a1 c0 c1 SM
              go_wp2
              go_roundw
              case rel => exact ⟨k1, by omega, rfl, hbk.drew⟩
              case measure => simp [intOf]; omega
            · obtain rfl : n = k := by omega
              have FIN := Lib.hid (b5.trans (hbk.mono b5.size))
              clear oa ob heq b5 hla hlb hbk HF
              go_wp2
              go_ret
              exact ⟨rfl, FIN.out⟩

/-! ### the row -/
theorem laidOut : laidOutB Try.prog = true := by kernel_rfl
theorem bytesInt : Try.prog.bytesOf 3 = 8 := by kernel_rfl
set_option maxRecDepth 100000 in
theorem lifted (os : Os) (started : os.Started) (H : Type) (enc : TypeId × Value → H) :
    ReturnsInHanded {} Try.checked os 6 .any (Rows.queueAlikeSpec.pre6 enc Try.prog Try.f6 Rows.queueAlikeRow.domain false) (Rows.queueAlikeSpec.post enc Try.prog Try.f6 false true false false) := by
  refine returnsInHanded_of_change_sized (C := Try.checked) own started (by kernel_rfl) Try.func6
    (ChangeSpec.witness6 (enc := enc) (C := Try.checked) false ⟨#[], #[.slice none 0 0], []⟩ 8 (by kernel_rfl) (by kernel_rfl) (by kernel_rfl) (by kernel_rfl)) ?_
  intro W base args ds gs before hval0 hW hcnd hsz0 _
  have hval : ∀ (j : Nat) t v, Try.f6.params[j]? = some t → args[j]? = some v → Value.okWide Try.prog W .any base t v := hval0
  have hW' := hW
  obtain ⟨p, q, hA0, hV, rfl, hfz, hnd⟩ := hW
  have hA : DataW.TrodAll enc Try.prog W 0 (fun _ => true) true Try.f6.params.toList args.toList ds p := hA0
  have hsz : (DataW.weightsEach Try.prog (Try.f6.params.toList ++ Rows.queueAlikeSpec.plain.varTypes Try.prog) (ds ++ gs)).all (· ≤ reachBytes) = true := hsz0
  rw [Try.params6] at hA hval hsz
  obtain ⟨v0, vs0, d0, ds0, p0, q0, hargs, rfl, rfl, h0, r0⟩ := trodAll_cons hA
  obtain ⟨rfl, rfl, rfl⟩ := trodAll_nil r0
  obtain rfl : args = #[v0] := by cases args; simp_all
  obtain ⟨rfl, rfl⟩ := trodVars_none hV
  have k0 := h0
  have lt0 := args_lt k0
  obtain ⟨z0, w0⟩ := floats_arg (hval 0 36 v0 rfl rfl) h0
  clear hA0 hval0 hsz0
  refine (walk v0 z0 W w0).mono fun e W' ⟨he, bel⟩ => ?_
  subst he
  exact ⟨_, rfl, _, _, _, [], _, [], hW', trodAll_mk1 (shut_bool Try.underlying4 _), (trodAll_cons_mk (Below.trod laidOut (by kernel_rfl) (of_decide_eq_true (by kernel_rfl)) k0 bel lt0) trodAll_mk0), rfl, bel.frame _, fun h => by cases h⟩

theorem over : Rows.queueAlikeRow.holds Try.pinned (OpenSpec.ofChange Rows.queueAlikeSpec) :=
  OpenClaim.holds_of_wide 6 Try.f6 rfl rfl rfl rfl rfl rfl rfl ⟨rfl, rfl, rfl, rfl, rfl⟩ rfl rfl rfl rfl rfl (by kernel_rfl) Try.func6 (by kernel_rfl)
    (of_decide_eq_true (by kernel_rfl)) (by unfold Func.isWrapper; first | (rw [if_pos (by decide +kernel)]; kernel_rfl) | (rw [if_neg (by decide +kernel)]; exact ⟨rfl, rfl⟩))
    (fun os started H enc _ => lifted os started H enc)
end Go.Proofs.Ytegloiojhimoeaa.queueAlike

namespace Go.Proofs.Ytegloiojhimoeaa
/-- The law returns true at every input. -/
theorem queueAlike_holds : Rows.QueueAlikeSaid := queueAlike.over
end Go.Proofs.Ytegloiojhimoeaa

