/- cisternlaw07.RecordKinds returns true at every input: a record's sector is taken by the call of its kind, by no other one. -/
import Derived.Test.YtmkomhdlcbimoaaRKnown
namespace Go.Proofs.Ytmkomhdlcbimoaa
set_option maxRecDepth 20000
open Go.RowKit

theorem sect_home_len (p : Int) (d : ByteArray) (h : homeOk p d = true) : (sectB (homeI p d)).length = 256 := (sect_un (by rw [homeI_len]; have := homeOk_size h; omega)).2.2
theorem logV_none {bs : List UInt8} (h : logE bs ≠ 0) : logV bs = lgNone := if_neg h
theorem frame_head (bs : List UInt8)  : ∃ r, frameB bs ((256 : Nat) : Int) = UInt8.ofNat bs.length :: r := by
  unfold frameB
  rw [show low bs.length 2 = [lowB bs.length 0, lowB bs.length 1] from rfl, show lowB bs.length 0 = UInt8.ofNat bs.length by unfold lowB; simp]
  exact ⟨_, rfl⟩
theorem blob_head (n : Int) (l : List Pr) : ∃ r, blobB n l = 1 :: r := by
  unfold blobB sealed packB pairI
  rw [List.flatMap_cons, itemB_one (x := numI 4) rfl]
  exact ⟨_, rfl⟩
theorem not_blob {bs : List UInt8} (hl : bs.length < 256) (h0 : 1 < bs.length) : pdecE (frameB bs ((256 : Nat) : Int)) ≠ 0 := fun h => by
  obtain ⟨r, hr⟩ := frame_head bs
  obtain ⟨h1, -⟩ := pairs_back h
  obtain ⟨q, hq⟩ := blob_head (pdecN (frameB bs ((256 : Nat) : Int))) (pdecL (frameB bs ((256 : Nat) : Int)))
  rw [hq] at h1
  rw [hr] at h1
  have := (List.cons.inj h1).1
  have h2 := congrArg UInt8.toNat this
  simp at h2
  omega
theorem super_no_blob (g e t : Int) : pdecE (sectB (superI g e t)) ≠ 0 := by
  unfold sectB
  have := sealed_length (packB (superI g e t))
  rw [superI_len] at this
  exact not_blob (by omega) (by omega)
end Go.Proofs.Ytmkomhdlcbimoaa
namespace Go.Proofs.Ytmkomhdlcbimoaa.recordKinds
open Go.RowKit Go.ChangeShapes Go.WideShapes Go.ChangeAt
theorem own : ownKnob Try.prog.godebug = none := by kernel_rfl
set_option maxRecDepth 20000 in
set_option maxHeartbeats 1600000 in
theorem walk (g e t : Int) (h1 : inI g) (h2 : inI e) (h3 : inI t) (p : Int) (d : ByteArray) (hp : inI p) (hd : d.size ≤ maxLen) (W : World) : Calls Try.prog 9 #[superV g e t, homeV p d] W fun x w' => x = .returned (.bool true) ∧ Below W.heap.size W w' := by
  have B1 := below_new W (.cells #[.int .i64 g, .int .i64 e, .int .i64 t] 23)
  have B2 := B1.alloc B1.size (.cells #[.int .i64 p, .string d] 27)
  have s0 := (Below.heap_alloc (W.alloc (.cells #[.int .i64 g, .int .i64 e, .int .i64 t] 23)) (.cells #[.int .i64 p, .string d] 27) W.heap.size (by simp)).trans (heap_alloc_new W (.cells #[.int .i64 g, .int .i64 e, .int .i64 t] 23))
  have q0 := heap_alloc_new (W.alloc (.cells #[.int .i64 g, .int .i64 e, .int .i64 t] 23)) (.cells #[.int .i64 p, .string d] 27)
  rw [size_alloc] at q0
  have hkn := known_any ((W.alloc (.cells #[.int .i64 g, .int .i64 e, .int .i64 t] 23)).alloc (.cells #[.int .i64 p, .string d] 27))
  have hsz : W.heap.size + 1 < ((W.alloc (.cells #[.int .i64 g, .int .i64 e, .int .i64 t] 23)).alloc (.cells #[.int .i64 p, .string d] 27)).heap.size := by simp
  go_enter Try.func9, Try.ntmps9
  go_wp2_with fail
  refine Calls.mono hkn ?_
  rintro x w1 ⟨rfl, b1⟩
  have B3 := B2.trans (b1.mono B2.size)
  have s1 := (b1.block W.heap.size (by omega)).trans s0
  have q1 := (b1.block (W.heap.size + 1) hsz).trans q0
  have hs1 : W.heap.size + 1 < w1.heap.size := Nat.lt_of_lt_of_le hsz b1.size
  have x0 : w1.cell? ⟨W.heap.size, 0, none⟩ = some (.int .i64 g) := cell_row s1 0 rfl
  have x1 : w1.cell? ⟨W.heap.size, 1, none⟩ = some (.int .i64 e) := cell_row s1 1 rfl
  have x2 : w1.cell? ⟨W.heap.size, 2, none⟩ = some (.int .i64 t) := cell_row s1 2 rfl
  have y0 : w1.cell? ⟨W.heap.size + 1, 0, none⟩ = some (.int .i64 p) := cell_row q1 0 rfl
  have y1 : w1.cell? ⟨W.heap.size + 1, 1, none⟩ = some (.string d) := cell_row q1 1 rfl
  clear hkn B1 B2 s0 q0 hsz b1 s1 q1
  have he := encodeSuper_any g e t h1 h2 h3 w1
  cases hso : superOk g e t
  · have es1 : esupE g e t = 2 := by unfold esupE; rw [hso]; rfl
    have es2 : esupR g e t = [] := by unfold esupR; rw [hso]; rfl
    rw [es1, es2] at he
    clear es1 es2 hso
    go_wp2_with fail
    refine Calls.mono he ?_
    rintro x wc ⟨vc, rfl, hc1, bc⟩
    obtain ⟨aoc, capc, hvc, _, _⟩ := hc1.form
    subst hvc
    have BC := B3.trans (bc.mono B3.size)
    have hbl : W.heap.size + 1 < wc.heap.size := Nat.lt_of_lt_of_le hs1 bc.size
    have c0 := (bc.cell (p := ⟨W.heap.size + 1, 0, none⟩) hs1).trans y0
    have c1 := (bc.cell (p := ⟨W.heap.size + 1, 1, none⟩) hs1).trans y1
    clear he hc1 bc x0 x1 x2 y0 y1 hs1 B3
    go_wp2_with fail
    cases hh : homeOk p d
    · have eh1 : ehomE p d = 2 := by unfold ehomE; rw [hh]; rfl
      have eh2 : ehomR p d = [] := by unfold ehomR; rw [hh]; rfl
      have he := encodeHome_any p d hp hd wc
      rw [eh1, eh2] at he
      clear hh eh1 eh2
      refine Calls.mono he ?_
      rintro e wd ⟨vd, rfl, hd1, bd⟩
      obtain ⟨aod, capd, hvd, _, _⟩ := hd1.form
      subst hvd
      clear he hd1
      go_wp2
      go_ret
      exact ⟨rfl, BC.trans (bd.mono BC.size)⟩
    · have eh1 : ehomE p d = 0 := by unfold ehomE; rw [hh]; rfl
      have eh2 : ehomR p d = sectB (homeI p d) := by unfold ehomR; rw [hh]; rfl
      have he := encodeHome_any p d hp hd wc
      rw [eh1, eh2] at he
      have hs := home_sect hh hp
      have hlen := sect_home_len p d hh
      clear hh eh1 eh2
      refine Calls.mono he ?_
      rintro e wd ⟨vd, rfl, hd1, bd⟩
      have BD := BC.trans (bd.mono BC.size)
      have c0d := (bd.cell (p := ⟨W.heap.size + 1, 0, none⟩) hbl).trans c0
      have c1d := (bd.cell (p := ⟨W.heap.size + 1, 1, none⟩) hbl).trans c1
      have hbd := Nat.lt_of_lt_of_le hbl bd.size
      have hdl := decodeLog_any hd1.at hd1.cap
      rw [hs.2.2.2.1, logV_none (by rw [hs.2.2.2.1]; decide)] at hdl
      obtain ⟨aod, capd, hvd, _, _⟩ := hd1.form
      rw [hlen] at hvd
      subst hvd
      clear he bd c0 c1 hbl BC
      go_wp2_with fail
      refine Calls.mono hdl ?_
      rintro e w5 ⟨rfl, b5⟩
      unfold lgNone
      have h5 := (hd1.below b5).alloc (.cells #[.int .i64 0, .int .i64 0, .int .i64 0, .int .i64 0, .int .i64 0, .int .i64 0, .int .i64 0, .string ⟨#[]⟩] 25)
      have b5' := b5.alloc b5.size (.cells #[.int .i64 0, .int .i64 0, .int .i64 0, .int .i64 0, .int .i64 0, .int .i64 0, .int .i64 0, .string ⟨#[]⟩] 25)
      have B5 := BD.trans (b5'.mono BD.size)
      have c05 := (b5'.cell (p := ⟨W.heap.size + 1, 0, none⟩) hbd).trans c0d
      have c15 := (b5'.cell (p := ⟨W.heap.size + 1, 1, none⟩) hbd).trans c1d
      have hb5 := Nat.lt_of_lt_of_le hbd b5'.size
      have hds := decodeSuper_any h5.at h5.cap
      have g0 : ∀ i, supG (sectB (homeI p d)) i = 0 := fun i => by unfold supG; rw [hs.2.2.2.2]; rfl
      rw [hs.2.2.2.2, g0, g0, g0] at hds
      clear hdl hd1 c0d c1d hbd b5 b5' BD g0
      go_wp2_with fail
      refine Calls.mono hds ?_
      rintro e w6 ⟨rfl, b6⟩
      have h6 := (h5.below b6).alloc (.cells #[.int .i64 0, .int .i64 0, .int .i64 0] 23)
      have b6' := b6.alloc b6.size (.cells #[.int .i64 0, .int .i64 0, .int .i64 0] 23)
      have B6 := B5.trans (b6'.mono B5.size)
      have c06 := (b6'.cell (p := ⟨W.heap.size + 1, 0, none⟩) hb5).trans c05
      have c16 := (b6'.cell (p := ⟨W.heap.size + 1, 1, none⟩) hb5).trans c15
      have hb6 := Nat.lt_of_lt_of_le hb5 b6'.size
      have hdh := decodeHome_any h6.at h6.cap
      rw [hs.1, hs.2.1, hs.2.2.1] at hdh
      clear hds h5 c05 c15 hb5 b6 b6' B5
      go_wp2_with fail
      refine Calls.mono hdh ?_
      rintro e w7 ⟨rfl, b7⟩
      have b7' := b7.alloc b7.size (.cells #[.int .i64 p, .string d] 27)
      have B7 := B6.trans (b7'.mono B6.size)
      have c07 := (b7'.cell (p := ⟨W.heap.size + 1, 0, none⟩) hb6).trans c06
      have c17 := (b7'.cell (p := ⟨W.heap.size + 1, 1, none⟩) hb6).trans c16
      have cn0 := cell_new w7 #[.int .i64 p, .string d] 27 0 _ rfl
      have cn1 := cell_new w7 #[.int .i64 p, .string d] 27 1 _ rfl
      clear hdh h6 c06 c16 hs b7'
      go_wp2
      go_ret
      exact ⟨rfl, B7⟩
  · have es1 : esupE g e t = 0 := by unfold esupE; rw [hso]; rfl
    have es2 : esupR g e t = sectB (superI g e t) := by unfold esupR; rw [hso]; rfl
    rw [es1, es2] at he
    have hs := super_sect hso h1 h2 h3
    have hlen := sect_super_len g e t
    have hnb := super_no_blob g e t
    clear es1 es2 hso
    go_wp2_with fail
    refine Calls.mono he ?_
    rintro x w2 ⟨v2, rfl, hv, b2⟩
    have B4 := B3.trans (b2.mono B3.size)
    have hs2 := Nat.lt_of_lt_of_le hs1 b2.size
    have z0 := (b2.cell (p := ⟨W.heap.size, 0, none⟩) (Nat.lt_of_succ_lt hs1)).trans x0
    have z1 := (b2.cell (p := ⟨W.heap.size, 1, none⟩) (Nat.lt_of_succ_lt hs1)).trans x1
    have z2 := (b2.cell (p := ⟨W.heap.size, 2, none⟩) (Nat.lt_of_succ_lt hs1)).trans x2
    have t0 := (b2.cell (p := ⟨W.heap.size + 1, 0, none⟩) hs1).trans y0
    have t1 := (b2.cell (p := ⟨W.heap.size + 1, 1, none⟩) hs1).trans y1
    have hdl := decodeLog_any hv.at hv.cap
    rw [hs.2.2.2.2.1, logV_none (by rw [hs.2.2.2.2.1]; decide)] at hdl
    obtain ⟨ao2, cap2, hv2, _, _⟩ := hv.form
    rw [hlen] at hv2
    subst hv2
    clear he B3 x0 x1 x2 y0 y1 hs1 b2
    go_wp2_with fail
    refine Calls.mono hdl ?_
    rintro x w3 ⟨rfl, b3⟩
    unfold lgNone
    have b3' := b3.alloc b3.size (.cells #[.int .i64 0, .int .i64 0, .int .i64 0, .int .i64 0, .int .i64 0, .int .i64 0, .int .i64 0, .string ⟨#[]⟩] 25)
    have hv3 := (hv.below b3).alloc (.cells #[.int .i64 0, .int .i64 0, .int .i64 0, .int .i64 0, .int .i64 0, .int .i64 0, .int .i64 0, .string ⟨#[]⟩] 25)
    have hdh := decodeHome_any hv3.at hv3.cap
    have e5 : homP (sectB (superI g e t)) = 0 := by unfold homP; rw [hs.2.2.2.2.2]; rfl
    have e6 : homD (sectB (superI g e t)) = ByteArray.empty := by unfold homD; rw [hs.2.2.2.2.2]; rfl
    rw [hs.2.2.2.2.2, e5, e6] at hdh
    clear hdl e5 e6 hv
    go_wp2_with fail
    refine Calls.mono hdh ?_
    rintro x w4 ⟨rfl, b4⟩
    have b4' := b4.alloc b4.size (.cells #[.int .i64 0, .string ⟨#[]⟩] 27)
    have hv4 := (hv3.below b4).alloc (.cells #[.int .i64 0, .string ⟨#[]⟩] 27)
    have bb4 := b3'.trans (b4'.mono b3'.size)
    have hdp := decodePairs_any hv4.at hv4.cap (by rw [hlen]; omega)
    have hq : (pdecE (sectB (superI g e t)) == 0) = false := by simpa using hnb
    generalize pdecE (sectB (superI g e t)) = E at hdp hq
    clear hdh hv3 b3 b3' b4' hnb
    go_wp2_with fail
    refine Calls.mono hdp ?_
    rintro x w5 ⟨v5, rfl, hp5, b5⟩
    have hv5 := hv4.below b5
    have bb5 := bb4.trans (b5.mono bb4.size)
    obtain ⟨ao5, cap5, hv5', _, _⟩ := hp5.form
    subst hv5'
    have hds := decodeSuper_any hv5.at hv5.cap
    rw [hs.1, hs.2.1, hs.2.2.1, hs.2.2.2.1] at hds
    clear hdp hp5 hv4 bb4 b5
    go_wp2_with fail
    refine Calls.mono hds ?_
    rintro x w6 ⟨rfl, b6⟩
    have b6' := b6.alloc b6.size (.cells #[.int .i64 g, .int .i64 e, .int .i64 t] 23)
    have bb6 := bb5.trans (b6'.mono bb5.size)
    have BC := B4.trans (bb6.mono B4.size)
    have n0 := cell_new w6 #[.int .i64 g, .int .i64 e, .int .i64 t] 23 0 _ rfl
    have n1 := cell_new w6 #[.int .i64 g, .int .i64 e, .int .i64 t] 23 1 _ rfl
    have n2 := cell_new w6 #[.int .i64 g, .int .i64 e, .int .i64 t] 23 2 _ rfl
    have m0 := (bb6.cell (p := ⟨W.heap.size, 0, none⟩) (Nat.lt_of_succ_lt hs2)).trans z0
    have m1 := (bb6.cell (p := ⟨W.heap.size, 1, none⟩) (Nat.lt_of_succ_lt hs2)).trans z1
    have m2 := (bb6.cell (p := ⟨W.heap.size, 2, none⟩) (Nat.lt_of_succ_lt hs2)).trans z2
    have c0 := (bb6.cell (p := ⟨W.heap.size + 1, 0, none⟩) hs2).trans t0
    have c1 := (bb6.cell (p := ⟨W.heap.size + 1, 1, none⟩) hs2).trans t1
    have hbl := Nat.lt_of_lt_of_le hs2 bb6.size
    clear hds z0 z1 z2 t0 t1 hs2 b6 b6' bb5 bb6 B4 hlen hs hv5
    go_wp2_with fail
    clear n0 n1 n2 m0 m1 m2
    generalize w6.alloc (.cells #[.int .i64 g, .int .i64 e, .int .i64 t] 23) = wc at BC c0 c1 hbl ⊢
    cases hh : homeOk p d
    · have eh1 : ehomE p d = 2 := by unfold ehomE; rw [hh]; rfl
      have eh2 : ehomR p d = [] := by unfold ehomR; rw [hh]; rfl
      have he := encodeHome_any p d hp hd wc
      rw [eh1, eh2] at he
      clear hh eh1 eh2
      refine Calls.mono he ?_
      rintro e wd ⟨vd, rfl, hd1, bd⟩
      obtain ⟨aod, capd, hvd, _, _⟩ := hd1.form
      subst hvd
      clear he hd1
      go_wp2
      go_ret
      exact ⟨rfl, BC.trans (bd.mono BC.size)⟩
    · have eh1 : ehomE p d = 0 := by unfold ehomE; rw [hh]; rfl
      have eh2 : ehomR p d = sectB (homeI p d) := by unfold ehomR; rw [hh]; rfl
      have he := encodeHome_any p d hp hd wc
      rw [eh1, eh2] at he
      have hs := home_sect hh hp
      have hlen := sect_home_len p d hh
      clear hh eh1 eh2
      refine Calls.mono he ?_
      rintro e wd ⟨vd, rfl, hd1, bd⟩
      have BD := BC.trans (bd.mono BC.size)
      have c0d := (bd.cell (p := ⟨W.heap.size + 1, 0, none⟩) hbl).trans c0
      have c1d := (bd.cell (p := ⟨W.heap.size + 1, 1, none⟩) hbl).trans c1
      have hbd := Nat.lt_of_lt_of_le hbl bd.size
      have hdl := decodeLog_any hd1.at hd1.cap
      rw [hs.2.2.2.1, logV_none (by rw [hs.2.2.2.1]; decide)] at hdl
      obtain ⟨aod, capd, hvd, _, _⟩ := hd1.form
      rw [hlen] at hvd
      subst hvd
      clear he bd c0 c1 hbl BC
      go_wp2_with fail
      refine Calls.mono hdl ?_
      rintro e w5 ⟨rfl, b5⟩
      unfold lgNone
      have h5 := (hd1.below b5).alloc (.cells #[.int .i64 0, .int .i64 0, .int .i64 0, .int .i64 0, .int .i64 0, .int .i64 0, .int .i64 0, .string ⟨#[]⟩] 25)
      have b5' := b5.alloc b5.size (.cells #[.int .i64 0, .int .i64 0, .int .i64 0, .int .i64 0, .int .i64 0, .int .i64 0, .int .i64 0, .string ⟨#[]⟩] 25)
      have B5 := BD.trans (b5'.mono BD.size)
      have c05 := (b5'.cell (p := ⟨W.heap.size + 1, 0, none⟩) hbd).trans c0d
      have c15 := (b5'.cell (p := ⟨W.heap.size + 1, 1, none⟩) hbd).trans c1d
      have hb5 := Nat.lt_of_lt_of_le hbd b5'.size
      have hds := decodeSuper_any h5.at h5.cap
      have g0 : ∀ i, supG (sectB (homeI p d)) i = 0 := fun i => by unfold supG; rw [hs.2.2.2.2]; rfl
      rw [hs.2.2.2.2, g0, g0, g0] at hds
      clear hdl hd1 c0d c1d hbd b5 b5' BD g0
      go_wp2_with fail
      refine Calls.mono hds ?_
      rintro e w6 ⟨rfl, b6⟩
      have h6 := (h5.below b6).alloc (.cells #[.int .i64 0, .int .i64 0, .int .i64 0] 23)
      have b6' := b6.alloc b6.size (.cells #[.int .i64 0, .int .i64 0, .int .i64 0] 23)
      have B6 := B5.trans (b6'.mono B5.size)
      have c06 := (b6'.cell (p := ⟨W.heap.size + 1, 0, none⟩) hb5).trans c05
      have c16 := (b6'.cell (p := ⟨W.heap.size + 1, 1, none⟩) hb5).trans c15
      have hb6 := Nat.lt_of_lt_of_le hb5 b6'.size
      have hdh := decodeHome_any h6.at h6.cap
      rw [hs.1, hs.2.1, hs.2.2.1] at hdh
      clear hds h5 c05 c15 hb5 b6 b6' B5
      go_wp2_with fail
      refine Calls.mono hdh ?_
      rintro e w7 ⟨rfl, b7⟩
      have b7' := b7.alloc b7.size (.cells #[.int .i64 p, .string d] 27)
      have B7 := B6.trans (b7'.mono B6.size)
      have c07 := (b7'.cell (p := ⟨W.heap.size + 1, 0, none⟩) hb6).trans c06
      have c17 := (b7'.cell (p := ⟨W.heap.size + 1, 1, none⟩) hb6).trans c16
      have cn0 := cell_new w7 #[.int .i64 p, .string d] 27 0 _ rfl
      have cn1 := cell_new w7 #[.int .i64 p, .string d] 27 1 _ rfl
      clear hdh h6 c06 c16 hs b7'
      go_wp2
      go_ret
      exact ⟨rfl, B7⟩

/-! ### the row -/
theorem laidOut : laidOutB Try.prog = true := by kernel_rfl
theorem bytesInt : Try.prog.bytesOf 3 = 8 := by kernel_rfl
set_option maxRecDepth 100000 in
theorem lifted (os : Os) (started : os.Started) (H : Type) (enc : TypeId × Value → H) :
    ReturnsInHanded {} Try.checked os 9 .any (Rows.recordKindsSpec.pre6 enc Try.prog Try.f9 Rows.recordKindsRow.domain false) (Rows.recordKindsSpec.post enc Try.prog Try.f9 false true false false) := by
  refine returnsInHanded_of_change_sized (C := Try.checked) own started (by kernel_rfl) Try.func9
    (ChangeSpec.witness6 (enc := enc) (C := Try.checked) false ⟨#[], #[.agg #[.int .i64 0, .int .i64 0, .int .i64 0], .agg #[.int .i64 0, .string ByteArray.empty]], []⟩ 8 (by kernel_rfl) (by kernel_rfl) (by kernel_rfl) (by kernel_rfl)) ?_
  intro W base args ds gs before hval0 hW hcnd hsz0 _
  have hval : ∀ (j : Nat) t v, Try.f9.params[j]? = some t → args[j]? = some v → Value.okWide Try.prog W .any base t v := hval0
  have hW' := hW
  obtain ⟨p, q, hA0, hV, rfl, hfz, hnd⟩ := hW
  have hA : DataW.TrodAll enc Try.prog W 0 (fun _ => true) true Try.f9.params.toList args.toList ds p := hA0
  have hsz : (DataW.weightsEach Try.prog (Try.f9.params.toList ++ Rows.recordKindsSpec.plain.varTypes Try.prog) (ds ++ gs)).all (· ≤ reachBytes) = true := hsz0
  rw [Try.params9] at hA hval hsz
  obtain ⟨v0, vs0, d0, ds0, p0, q0, hargs, rfl, rfl, h0, r0⟩ := trodAll_cons hA
  obtain ⟨v1, vs1, d1, ds1, p1, q1, rfl, rfl, rfl, h1, r1⟩ := trodAll_cons r0
  obtain ⟨rfl, rfl, rfl⟩ := trodAll_nil r1
  obtain rfl : args = #[v0, v1] := by cases args; simp_all
  obtain ⟨rfl, rfl⟩ := trodVars_none hV
  have k0 := h0
  have lt0 := args_lt k0
  obtain ⟨a0, b0, c0, rfl, x0, y0, z0⟩ := super_arg (hval 0 23 v0 rfl rfl) h0
  have k1 := h1
  have lt1 := args_lt k1
  obtain ⟨a1, b1, rfl, x1, y1⟩ := home_arg (hval 1 27 v1 rfl rfl) h1
  clear hA0 hval0 hsz0
  refine (walk a0 b0 c0 x0 y0 z0 a1 b1 x1 y1 W ).mono fun e W' ⟨he, bel⟩ => ?_
  subst he
  exact ⟨_, rfl, _, _, _, [], _, [], hW', trodAll_mk1 (shut_bool Try.underlying4 _), (trodAll_cons_mk (Below.trod laidOut (by kernel_rfl) (of_decide_eq_true (by kernel_rfl)) k0 bel lt0) (trodAll_cons_mk (Below.trod laidOut (by kernel_rfl) (of_decide_eq_true (by kernel_rfl)) k1 bel lt1) trodAll_mk0)), rfl, bel.frame _, fun h => by cases h⟩

theorem over : Rows.recordKindsRow.holds Try.pinned (OpenSpec.ofChange Rows.recordKindsSpec) :=
  OpenClaim.holds_of_wide 9 Try.f9 rfl rfl rfl rfl rfl rfl rfl ⟨rfl, rfl, rfl, rfl, rfl⟩ rfl rfl rfl rfl rfl (by kernel_rfl) Try.func9 (by kernel_rfl)
    (of_decide_eq_true (by kernel_rfl)) (by unfold Func.isWrapper; first | (rw [if_pos (by decide +kernel)]; kernel_rfl) | (rw [if_neg (by decide +kernel)]; exact ⟨rfl, rfl⟩))
    (fun os started H enc _ => lifted os started H enc)
end Go.Proofs.Ytmkomhdlcbimoaa.recordKinds

namespace Go.Proofs.Ytmkomhdlcbimoaa
/-- The law returns true at every input. -/
theorem recordKinds_holds : Rows.RecordKindsSaid := recordKinds.over
end Go.Proofs.Ytmkomhdlcbimoaa

