/- Bytes that came in as an argument. No statement of the seat is proved here. -/
import Derived.Test.YtmkomhdlcbimoaaPKnown
import Derived.Test.YtmkomhdlcbimoaaArgs
namespace Go.Proofs.Ytmkomhdlcbimoaa
set_option maxRecDepth 20000
open Go.RowKit Go.ChangeShapes Go.WideShapes Go.ChangeAt

theorem bytesU8 : Try.prog.bytesOf 5 = 1 := by kernel_rfl
def BytesArg (W : World) (v : Value) (bs : List UInt8) : Prop := ByC W v bs ∧ capOk v ∧ bs.length ≤ 140737488351232
section
variable {H : Type} {enc : TypeId × Value → H} {P : Program} {W : World} {base : Nat} {t e : TypeId} {v : Value} {d : DataW H} {ps : List MemPlace}
theorem bytes_arg (ht : P.underlying t = some (.slice e)) (he : P.underlying e = some (.int .u8)) (hc : P.cellsOf e = 1) (hv : Value.okWide P W .any base t v) (hsz : ∀ elems spare, d = .slice elems spare → (elems.length + spare.length) * 1 ≤ 140737488351232) (h : DataW.Trod enc P W 0 (fun _ => true) true t v d ps) : ∃ bs, BytesArg W v bs := by
  obtain ⟨a0, len, cap, rfl⟩ := okWide_slice ht hv
  obtain ⟨fuel, hf⟩ := h
  rcases open_ints ht he hc hf with ⟨hcs, _⟩ | ⟨x, l, c, zs, hcs, _, hl, hm, hz, hdat, hcell, hwz⟩
  · simp [Value.cells] at hcs
    obtain ⟨rfl, rfl, rfl⟩ := hcs
    exact ⟨[], ⟨none, 0, rfl, by simp [maxLen], fun h => by simp at h⟩, Nat.le_refl _, by simp⟩
  · simp [Value.cells] at hcs
    obtain ⟨rfl, rfl, rfl⟩ := hcs
    have hz' : zs.length = cap := by simpa using hz
    have hl' : (zs.take len).length = len := by rw [List.length_take]; omega
    have hb := hsz _ _ (Prod.mk.injEq _ _ _ _ ▸ hdat).1
    simp only [lits, List.length_map, List.length_drop, hl'] at hb
    have hbl : ((zs.take len).map fun z => UInt8.ofNat z.toNat).length = len := by rw [List.length_map, hl']
    refine ⟨(zs.take len).map fun z => UInt8.ofNat z.toNat, ?_, hl, by rw [hbl]; omega⟩
    refine ⟨_, _, by rw [hbl], by rw [hbl]; exact Nat.le_trans hl hm, fun h0 => ?_⟩
    rw [hbl] at h0
    have hs0 : (x.add 0).spot = none := World.cell?_spot (hcell 0 (by omega))
    obtain ⟨b, off, spot⟩ := x
    have hspot : spot = none := by simpa [Addr.add] using hs0
    subst hspot
    refine ⟨b, off, rfl, fun i hi => ?_⟩
    rw [hbl] at hi
    have h1 := hcell i (by omega)
    have e1 : (⟨b, off, none⟩ : Addr).add i = ⟨b, off + i, none⟩ := by unfold Addr.add; split <;> simp_all
    rw [e1] at h1
    rw [h1]
    have hzi : i < zs.length := by omega
    have hw := hwz zs[i] (List.getElem_mem hzi)
    have hr : 0 ≤ zs[i] ∧ zs[i] ≤ 255 := by
      simp [Lit.wf] at hw
      have h2 : IntKind.u8.min = 0 := by decide
      have h3 : IntKind.u8.max = 255 := by decide
      omega
    have hg : ((zs.take len).map fun z => UInt8.ofNat z.toNat).getD i 0 = UInt8.ofNat zs[i].toNat := by
      rw [List.getD_eq_getElem?_getD, List.getElem?_map, List.getElem?_take, if_pos hi, List.getElem?_eq_getElem hzi]; rfl
    rw [hg]
    unfold byteV
    rw [UInt8.toNat_ofNat']
    have : ((zs[i].toNat % 2 ^ 8 : Nat) : Int) = zs[i] := by omega
    rw [this]
    simp [List.getD_eq_getElem?_getD, List.getElem?_eq_getElem hzi]
end
theorem OwnB.cap {base : Nat} {w : World} {v : Value} {bs : List UInt8} (h : OwnB base w v bs) : capOk v := by
  obtain ⟨ao, cap, hv, h1, _⟩ := h.form
  subst hv; exact h1

/-! ### what is framed and sealed comes back -/
theorem sealed_length (bs : List UInt8) : (sealed bs).length = bs.length + 4 := by simp [sealed, low_length]
theorem open_sealed (bs : List UInt8) : openE (sealed bs) = 0 ∧ openR (sealed bs) = bs := by
  have hl := sealed_length bs
  have h1 : ¬ (sealed bs).length < 4 := by omega
  have h2 : (sealed bs).take ((sealed bs).length - 4) = bs := by rw [hl]; simp [sealed]
  have h3 : (sealed bs).drop ((sealed bs).length - 4) = low (crc bs) 4 := by rw [hl]; simp [sealed]
  have h4 : openOk (sealed bs) = true := by
    unfold openOk
    rw [h2, h3, le_low]
    have := crc_lt bs
    rw [decide_eq_true_eq, Nat.mod_eq_of_lt]
    have e : (2 : Nat) ^ (8 * 4) = 4294967296 := by decide
    omega
  unfold openE openR
  rw [if_neg h1, if_neg h1, h4, if_pos rfl, if_pos rfl, h2]
  exact ⟨rfl, rfl⟩
theorem frameB_length (bs : List UInt8) (S : Nat) (h : bs.length + 2 ≤ S) : (frameB bs (S : Int)).length = S := by
  unfold frameB; simp [low_length]; omega
theorem unframe_frame (bs : List UInt8) (S : Nat) (h : bs.length + 2 ≤ S) (hS : S ≤ 60000) : unE (frameB bs (S : Int)) = 0 ∧ unR (frameB bs (S : Int)) = bs := by
  have hl := frameB_length bs S h
  have ht : (frameB bs (S : Int)).take 2 = low bs.length 2 := by
    unfold frameB; rw [List.append_assoc, List.take_append_of_le_length (by rw [low_length]; exact Nat.le_refl _), List.take_of_length_le (by rw [low_length]; exact Nat.le_refl _)]
  have he : unEnd (frameB bs (S : Int)) = 2 + bs.length := by
    unfold unEnd; rw [ht, le_low]
    rw [Nat.mod_eq_of_lt (by have e : (2 : Nat) ^ (8 * 2) = 65536 := by decide
                             omega)]
  have hd : (frameB bs (S : Int)).drop (2 + bs.length) = List.replicate (S - (2 + bs.length)) 0 := by
    have h2 : (low bs.length 2 ++ bs).length = 2 + bs.length := by simp [low_length]
    unfold frameB; rw [← h2, List.drop_left]; simp
  have hd2 : ((frameB bs (S : Int)).drop 2).take bs.length = bs := by
    unfold frameB
    rw [List.append_assoc]
    have h2 : (low bs.length 2).length = 2 := low_length _ _
    conv => lhs; rw [← h2]
    rw [h2]
    have : (low bs.length 2 ++ (bs ++ List.replicate (((S : Int).toNat) - (2 + bs.length)) 0)).drop 2 = bs ++ List.replicate (((S : Int).toNat) - (2 + bs.length)) 0 := by
      have := List.drop_left (l₁ := low bs.length 2) (l₂ := bs ++ List.replicate (((S : Int).toNat) - (2 + bs.length)) 0)
      rwa [h2] at this
    rw [this]; exact List.take_left
  have ok : unOk (frameB bs (S : Int)) = true := by
    unfold unOk
    rw [he, hl, hd]
    simp; omega
  unfold unE unR
  rw [ok, if_pos rfl, if_pos rfl, he]
  refine ⟨rfl, ?_⟩
  rw [show 2 + bs.length - 2 = bs.length by omega]; exact hd2
end Go.Proofs.Ytmkomhdlcbimoaa
