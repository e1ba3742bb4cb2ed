/- The contract of node.Decode. No statement of the seat is proved here. -/
import Derived.Test.YtjjdpclobkdbjaaNRead
import Derived.Test.YtjjdpclobkdbjaaNPut
namespace Go.Proofs.Ytjjdpclobkdbjaa
set_option maxRecDepth 20000
open Go.RowKit

def decN (s : ByteArray) : Nd × Int :=
  if 160 < s.size then (.none, 2)
  else if (nodeR ⟨s, false⟩).2.sh || !decide ((nodeR ⟨s, false⟩).2.s = ⟨#[]⟩) || !okN (nodeR ⟨s, false⟩).1 then (.none, 2)
  else ((nodeR ⟨s, false⟩).1, 0)
theorem node_small (R : Rd) : (nodeR R).1.small := by
  have h := numR_le (numR R).2
  unfold nodeR
  split
  · unfold Nd.small; simp only [psR_length, List.length_nil]; omega
  · split
    · unfold Nd.small; simp only [ksR_length, isR_length, List.length_nil]; omega
    · unfold Nd.small Nd.none; simp
theorem NdOwn.keepg {base g : Nat} {w w1 : World} {v : Value} {n : Nd} (h : NdOwn base w v n) (hg : g < base) (hk : ∀ k, k ≠ g → w1.heap[k]? = w.heap[k]?) : NdOwn base w1 v n := by
  obtain ⟨pv, kv, iv, hv, h1, h2, h3⟩ := h
  exact ⟨pv, kv, iv, hv, h1.keepg hg hk, h2.keepg hg hk, h3.keepg hg hk⟩
abbrev rdO (s : ByteArray) : Obj := .cells #[.string s, .bool false] 74
theorem build_rd (s : ByteArray) (w : World) : (Instr.build 74 #[(0, .string s)]).run Try.prog w = .ok (.agg #[.string s, .bool false]) w := run_build w 74 _ _ (by kernel_rfl)
set_option maxHeartbeats 6400000 in
set_option maxRecDepth 20000 in
theorem decode_any (w : World) (s : ByteArray) : Calls Try.prog 17 #[.string s] w (NdRet w (decN s)) := by
  have bz := build_nd
  have hgz : (w.alloc zNdO).heap[w.heap.size]? = some zNdO := heap_alloc_new _ _
  by_cases hb : 160 < s.size
  · have e : decN s = (.none, 2) := by unfold decN; rw [if_pos hb]
    rw [e]
    have hb' : (160 : Int) < (s.size : Int) := by omega
    have bz1 := bz (w.alloc zNdO)
    have hbn := below_new w zNdO
    clear e bz
    go_enter Try.func17, Try.ntmps17
    go_wp2_with (with_reducible refine wpList_store_nd (a0 := w) (B := w.heap.size) rfl (.tmp 2) (.tmp 9) rfl w.heap.size false (.slice none 0 0) (.slice none 0 0) (.slice none 0 0) rfl rfl #[.bool false, .slice none 0 0, .slice none 0 0, .slice none 0 0] hgz rfl (.mk _ _ _) (.mk _ _ _) (.mk _ _ _) hbn (Nat.le_refl _) ?_)
    rintro w8 ⟨r0, r1, r2, r3⟩ - B2 -
    go_wp2
    exact bodyPost_ret (v := .tuple #[zNd, .int .i64 2]) (by simp [results, Try.results17, go_sem, r0, r1, r2, r3]) rfl (zNd_ret rfl B2)
  · obtain ⟨N, hN⟩ : ∃ N, nodeR ⟨s, false⟩ = N := ⟨_, rfl⟩
    have hsm := node_small ⟨s, false⟩
    have hz1 : (w.alloc zNdO).heap.size = w.heap.size + 1 := by simp
    have hz2 : ((w.alloc zNdO).alloc (rdO s)).heap.size = w.heap.size + 2 := by simp
    have hrd : RdIs ((w.alloc zNdO).alloc (rdO s)) (w.heap.size + 1) ⟨s, false⟩ := by
      have := heap_alloc_new (w.alloc zNdO) (rdO s)
      rw [hz1] at this
      exact this
    have nd := node_any hrd (by show s.size ≤ _; omega)
    have hb0 : Below w.heap.size w ((w.alloc zNdO).alloc (rdO s)) := (below_new _ _).trans ((below_new _ _).mono (by simp))
    have hgz2 : ((w.alloc zNdO).alloc (rdO s)).heap[w.heap.size]? = some zNdO := by rw [Below.heap_alloc _ _ _ (by simp)]; exact hgz
    rw [hN] at nd hsm
    have hdec : decN s = if N.2.sh || !decide (N.2.s = ⟨#[]⟩) || !okN N.1 then (.none, 2) else (N.1, 0) := by unfold decN; rw [if_neg hb, hN]
    rw [hdec]
    have hb' : ¬ (160 : Int) < (s.size : Int) := by omega
    have hbr := build_rd s (w.alloc zNdO)
    have HZ2 := Lib.hid hz2
    have HGZ := Lib.hid hgz2
    have HB0 := Lib.hid hb0
    obtain ⟨n, R⟩ := N
    simp only at hsm ⊢
    obtain ⟨E, hE⟩ : ∃ E : Nd × Int, (if R.sh || !decide (R.s = ⟨#[]⟩) || !okN n then (.none, 2) else (n, 0)) = E := ⟨_, rfl⟩
    rw [hE]
    have HE := Lib.hid hE
    clear hE hdec hN hrd hgz hgz2 hb0 hz2 hb
    go_enter Try.func17, Try.ntmps17
    go_wp2_with fail
    refine nd.mono ?_
    rintro e w3 ⟨⟨v, rfl, ho⟩, rd3, on3⟩
    have HO := Lib.hid ho
    obtain ⟨pv, kv, iv, rfl, p1, p2, p3⟩ := ho
    obtain ⟨pa, pm, pc, rfl, -⟩ := p1.form'
    obtain ⟨ka, km, kc, rfl, -⟩ := p2.form'
    obtain ⟨ia, im, ic, rfl, -⟩ := p3.form'
    have hgn := heap_alloc_new w3 zNdO
    have hbn := below_new w3 zNdO
    have hs3 := on3.size
    rw [HZ2.out] at hs3
    have hz3 := (on3.keep w.heap.size (by rw [HZ2.out]; omega) (by omega)).trans HGZ.out
    have hb3 := HB0.out.trans (on3.below (B := w.heap.size) (by omega) (by rw [HZ2.out]; omega))
    clear p1 p2 p3 nd on3 hbr
    go_wp2_with (with_reducible refine wpList_store_nd (a0 := w3) (B := w3.heap.size) rfl (.tmp 5) (.tmp 14) rfl w3.heap.size n.leaf (.slice pa pm pc) (.slice ka km kc) (.slice ia im ic) rfl rfl #[.bool false, .slice none 0 0, .slice none 0 0, .slice none 0 0] hgn rfl (.mk _ _ _) (.mk _ _ _) (.mk _ _ _) hbn (Nat.le_refl _) ?_)
    rintro w4 ⟨s0, s1, s2, s3⟩ - b4 -
    have rd4 : RdIs w4 (w.heap.size + 1) R := rd3.keep (b4.block _ (by omega))
    have ZR := (b4.block w.heap.size (by omega)).trans hz3
    have BB := hb3.trans (b4.mono (by omega))
    have NO := Lib.hid ((HO.out.below b4).base (b' := w.heap.size + 1) (by rw [HZ2.out]; omega))
    have fc := formed_any (((HO.out.below b4).at hsm))
    obtain ⟨rs, sh⟩ := R
    have c0 := rd4.c0
    have c1 := rd4.c1
    simp only at c0 c1
    clear rd3 rd4 hgn hbn hs3 hz3 hb3 b4
    cases sh
    · by_cases he : rs = ⟨#[]⟩
      · subst he
        cases hk : okN n
        · rw [hk] at HE fc
          go_wp2_with fail
          refine fc.mono ?_
          rintro e w5 ⟨rfl, b5⟩
          have ZR := (b5.block w.heap.size (Array.getElem?_eq_some_iff.1 ZR).1).trans ZR
          have BB := BB.trans (b5.mono BB.size)
          clear fc b5
          have bz2 := bz w5
          clear bz
          go_wp2_with (with_reducible refine wpList_store_nd (a0 := w) (B := w.heap.size) rfl (.tmp 2) (.tmp 31) rfl w.heap.size false (.slice none 0 0) (.slice none 0 0) (.slice none 0 0) rfl rfl #[.bool false, .slice none 0 0, .slice none 0 0, .slice none 0 0] ZR rfl (.mk _ _ _) (.mk _ _ _) (.mk _ _ _) BB (Nat.le_refl _) ?_)
          rintro w8 ⟨r0, r1, r2, r3⟩ - B2 -
          clear s0 s1 s2 s3
          go_wp2
          exact bodyPost_ret (v := .tuple #[zNd, .int .i64 2]) (by simp [results, Try.results17, go_sem, r0, r1, r2, r3]) rfl (by rw [← HE.out]; exact zNd_ret rfl B2)
        · rw [hk] at HE fc
          go_wp2_with fail
          refine fc.mono ?_
          rintro e w5 ⟨rfl, b5⟩
          have ZR := (b5.block w.heap.size (Array.getElem?_eq_some_iff.1 ZR).1).trans ZR
          have BB := BB.trans (b5.mono BB.size)
          have NO := Lib.hid (NO.out.below b5)
          have hg : w3.heap.size < w4.heap.size := by
            exact World.block_lt_of_cell? _ _ s0
          have T : NdCells w5 w3.heap.size n.leaf (.slice pa pm pc) (.slice ka km kc) (.slice ia im ic) := ⟨(b5.cell hg).trans s0, (b5.cell hg).trans s1, (b5.cell hg).trans s2, (b5.cell hg).trans s3⟩
          clear s0 s1 s2 s3 fc c0 c1
          obtain ⟨s0, s1, s2, s3⟩ := T
          clear b5
          go_wp2_with (with_reducible refine wpList_store_nd (a0 := w5) (B := w.heap.size) rfl (.tmp 2) (.tmp 32) rfl w.heap.size n.leaf (.slice pa pm pc) (.slice ka km kc) (.slice ia im ic) rfl rfl #[.bool false, .slice none 0 0, .slice none 0 0, .slice none 0 0] ZR rfl (.mk _ _ _) (.mk _ _ _) (.mk _ _ _) (Below.refl _ _) (Nat.le_refl _) ?_)
          rintro w8 ⟨r0, r1, r2, r3⟩ - B2 k2
          clear s0 s1 s2 s3
          go_wp2
          refine bodyPost_ret (v := .tuple #[.agg #[.bool n.leaf, .slice pa pm pc, .slice ka km kc, .slice ia im ic], .int .i64 0]) (by simp [results, Try.results17, go_sem, r0, r1, r2, r3]) rfl ?_
          rw [← HE.out]
          exact ⟨_, rfl, (NO.out.keepg (Nat.lt_succ_self _) k2).base (Nat.le_succ _), BB.trans B2⟩
      · clear fc
        have hne : rs.toList ≠ [] := fun h => he (by rw [← strOf_bts rs]; simp [bts, ← ByteArray.toList_eq, h, strOf])
        have bz2 := bz w4
        clear bz
        have HE : Hid ((.none, (2 : Int)) = E) := Lib.hid (by rw [← HE.out, decide_eq_false he]; rfl)
        go_wp2_with (with_reducible refine wpList_store_nd (a0 := w) (B := w.heap.size) rfl (.tmp 2) (.tmp 31) rfl w.heap.size false (.slice none 0 0) (.slice none 0 0) (.slice none 0 0) rfl rfl #[.bool false, .slice none 0 0, .slice none 0 0, .slice none 0 0] ZR rfl (.mk _ _ _) (.mk _ _ _) (.mk _ _ _) BB (Nat.le_refl _) ?_)
        rintro w8 ⟨r0, r1, r2, r3⟩ - B2 -
        clear s0 s1 s2 s3
        go_wp2
        exact bodyPost_ret (v := .tuple #[zNd, .int .i64 2]) (by simp [results, Try.results17, go_sem, r0, r1, r2, r3]) rfl (by rw [← HE.out]; exact zNd_ret rfl B2)
    · clear fc
      have bz2 := bz w4
      clear bz
      go_wp2_with (with_reducible refine wpList_store_nd (a0 := w) (B := w.heap.size) rfl (.tmp 2) (.tmp 31) rfl w.heap.size false (.slice none 0 0) (.slice none 0 0) (.slice none 0 0) rfl rfl #[.bool false, .slice none 0 0, .slice none 0 0, .slice none 0 0] ZR rfl (.mk _ _ _) (.mk _ _ _) (.mk _ _ _) BB (Nat.le_refl _) ?_)
      rintro w8 ⟨r0, r1, r2, r3⟩ - B2 -
      clear s0 s1 s2 s3
      go_wp2
      exact bodyPost_ret (v := .tuple #[zNd, .int .i64 2]) (by simp [results, Try.results17, go_sem, r0, r1, r2, r3]) rfl (by rw [← HE.out]; exact zNd_ret rfl B2)
end Go.Proofs.Ytjjdpclobkdbjaa
