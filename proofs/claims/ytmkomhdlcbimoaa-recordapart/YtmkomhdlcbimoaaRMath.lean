/- Records as items, and their sectors: plain mathematics. No statement of the seat is proved here. -/
import Derived.Test.YtmkomhdlcbimoaaPIArgs
import Derived.Test.YtmkomhdlcbimoaaPSums0
import Derived.Test.YtmkomhdlcbimoaaPTurnB
namespace Go.Proofs.Ytmkomhdlcbimoaa
set_option maxRecDepth 20000
open Go.RowKit

def numI (n : Int) : It := ⟨1, n, ByteArray.empty⟩
def txtI (s : ByteArray) : It := ⟨2, 0, s⟩
structure Lg where
  kind : Int
  epoch : Int
  seq : Int
  tx : Int
  index : Int
  count : Int
  page : Int
  data : ByteArray
def superI (g e t : Int) : List It := [numI 1, numI g, numI e, numI t]
def logI (l : Lg) : List It := [numI 2, numI l.kind, numI l.epoch, numI l.seq, numI l.tx, numI l.index, numI l.count, numI l.page, txtI l.data]
def homeI (p : Int) (d : ByteArray) : List It := [numI 3, numI p, txtI d]
def superOk (g e t : Int) : Bool := decide (0 ≤ g ∧ 0 ≤ e ∧ 0 ≤ t)
def logOk (l : Lg) : Bool := decide ((0 ≤ l.epoch ∧ 0 ≤ l.seq ∧ 0 ≤ l.tx ∧ 0 ≤ l.index ∧ 0 ≤ l.count ∧ 0 ≤ l.page) ∧ (l.kind = 1 ∧ l.data.size ≤ 160 ∨ l.kind = 2 ∧ l.page = 0 ∧ l.data.size = 0))
def homeOk (p : Int) (d : ByteArray) : Bool := decide (0 ≤ p ∧ d.size ≤ 160)
def inI (n : Int) : Prop := -9223372036854775808 ≤ n ∧ n ≤ 9223372036854775807
def Lg.ok (l : Lg) : Prop := inI l.kind ∧ inI l.epoch ∧ inI l.seq ∧ inI l.tx ∧ inI l.index ∧ inI l.count ∧ inI l.page ∧ l.data.size ≤ maxLen
def packB (l : List It) : List UInt8 := l.flatMap itemB
def sectB (l : List It) : List UInt8 := frameB (sealed (packB l)) ((256 : Nat) : Int)

theorem numI_ok {n : Int} (h : inI n) : (numI n).ok := ⟨⟨by show (-9223372036854775808 : Int) ≤ 1; decide, by show (1 : Int) ≤ 9223372036854775807; decide⟩, h, by show (0 : Nat) ≤ maxLen; exact Nat.zero_le _⟩
theorem txtI_ok {s : ByteArray} (h : s.size ≤ maxLen) : (txtI s).ok := ⟨⟨by show (-9223372036854775808 : Int) ≤ 2; decide, by show (2 : Int) ≤ 9223372036854775807; decide⟩, ⟨by show (-9223372036854775808 : Int) ≤ 0; decide, by show (0 : Int) ≤ 9223372036854775807; decide⟩, h⟩
theorem numI_form (n : Int) : formB (numI n) = true := by simp [formB, numI]
theorem txtI_form (s : ByteArray) : formB (txtI s) = true := by simp [formB, txtI]
theorem numI_short (n : Int) : longB (numI n) = false := by simp [longB, numI]
theorem txtI_short {s : ByteArray} (h : s.size ≤ 50000) : longB (txtI s) = false := by unfold longB; rw [Bool.and_eq_false_iff]; exact .inr (decide_eq_false (by show ¬ 50000 < s.size; omega))
theorem numI_len (n : Int) : (itemB (numI n)).length = 9 := by simp [itemB, numI, low_length]
theorem txtI_len (s : ByteArray) : (itemB (txtI s)).length = 3 + s.size := by
  have : s.data.size = s.size := rfl
  simp [itemB, txtI, low_length]; omega
theorem logI_len (l : Lg) : (packB (logI l)).length = 75 + l.data.size := by
  simp only [packB, logI, List.flatMap_cons, List.flatMap_nil, List.length_append, numI_len, txtI_len, List.length_nil]; omega
theorem superI_len (g e t : Int) : (packB (superI g e t)).length = 36 := by
  simp only [packB, superI, List.flatMap_cons, List.flatMap_nil, List.length_append, numI_len, List.length_nil]
theorem homeI_len (p : Int) (d : ByteArray) : (packB (homeI p d)).length = 21 + d.size := by
  simp only [packB, homeI, List.flatMap_cons, List.flatMap_nil, List.length_append, numI_len, txtI_len, List.length_nil]; omega
theorem encE_of {l : List It} (hn : l.length ≤ 4000) (h : ∀ x ∈ l, formB x = true ∧ longB x = false) : encE l = 0 := by
  unfold encE
  rw [if_neg, if_pos (List.all_eq_true.2 fun x hx => (h x hx).1)]
  unfold bigB
  rw [Bool.or_eq_true, List.any_eq_true]
  rintro (h1 | ⟨x, hx, h2⟩)
  · simp at h1; omega
  · rw [(h x hx).2] at h2; cases h2
theorem encE_super (g e t : Int) : encE (superI g e t) = 0 := encE_of (by simp [superI]) (by
  intro x hx; simp only [superI, List.mem_cons, List.not_mem_nil, or_false] at hx
  rcases hx with rfl | rfl | rfl | rfl <;> exact ⟨numI_form _, numI_short _⟩)
theorem encE_log {l : Lg} (h : l.data.size ≤ 160) : encE (logI l) = 0 := encE_of (by simp [logI]) (by
  intro x hx; simp only [logI, List.mem_cons, List.not_mem_nil, or_false] at hx
  rcases hx with rfl | rfl | rfl | rfl | rfl | rfl | rfl | rfl | rfl <;> first | exact ⟨numI_form _, numI_short _⟩ | exact ⟨txtI_form _, txtI_short (by omega)⟩)
theorem encE_home {p : Int} {d : ByteArray} (h : d.size ≤ 160) : encE (homeI p d) = 0 := encE_of (by simp [homeI]) (by
  intro x hx; simp only [homeI, List.mem_cons, List.not_mem_nil, or_false] at hx
  rcases hx with rfl | rfl | rfl <;> first | exact ⟨numI_form _, numI_short _⟩ | exact ⟨txtI_form _, txtI_short (by omega)⟩)
theorem superI_ok {g e t : Int} (h1 : inI g) (h2 : inI e) (h3 : inI t) : ∀ x ∈ superI g e t, x.ok := by
  intro x hx; simp only [superI, List.mem_cons, List.not_mem_nil, or_false] at hx
  rcases hx with rfl | rfl | rfl | rfl <;> first | exact numI_ok ⟨by decide, by decide⟩ | exact numI_ok ‹_›
theorem logI_ok {l : Lg} (h : l.ok) : ∀ x ∈ logI l, x.ok := by
  obtain ⟨h1, h2, h3, h4, h5, h6, h7, h8⟩ := h
  intro x hx; simp only [logI, List.mem_cons, List.not_mem_nil, or_false] at hx
  rcases hx with rfl | rfl | rfl | rfl | rfl | rfl | rfl | rfl | rfl <;> first | exact numI_ok ⟨by decide, by decide⟩ | exact numI_ok ‹_› | exact txtI_ok ‹_›
theorem homeI_ok {p : Int} {d : ByteArray} (h : inI p) (hd : d.size ≤ maxLen) : ∀ x ∈ homeI p d, x.ok := by
  intro x hx; simp only [homeI, List.mem_cons, List.not_mem_nil, or_false] at hx
  rcases hx with rfl | rfl | rfl <;> first | exact numI_ok ⟨by decide, by decide⟩ | exact numI_ok ‹_› | exact txtI_ok ‹_›
theorem encR_pack {l : List It} (h : encE l = 0) : encR l = packB l := encR_ok h

/-! ### what is sealed, and a sector's items -/
def unsE (bs : List UInt8) : Int := if openE bs = 0 then decE (openR bs) else openE bs
def unsR (bs : List UInt8) : List It := if openE bs = 0 then decR (openR bs) else []
def shapeB (l : List It) (mark : Int) (heads : Nat) : Bool := decide (heads ≤ l.length) && ((itAt l 0).n == mark) && (List.range l.length).all fun i => (decide (i < heads)) == ((itAt l i).k == 1)
def secOk (bs : List UInt8) (mark : Int) (heads texts : Nat) : Bool := decide (bs.length = 256) && decide ((unsR (unR bs)).length = heads + texts) && shapeB (unsR (unR bs)) mark heads
def secE (bs : List UInt8) (mark : Int) (heads texts : Nat) : Int := if unE bs ≠ 0 then unE bs else if unsE (unR bs) ≠ 0 then unsE (unR bs) else if secOk bs mark heads texts then 0 else 2
def secR (bs : List UInt8) (mark : Int) (heads texts : Nat) : List It := if secE bs mark heads texts = 0 then unsR (unR bs) else []
theorem openE_zero {bs : List UInt8} (h : openE bs = 0) : sealed (openR bs) = bs := by
  unfold openE at h
  split at h
  · cases h
  · split at h
    · rename_i h1 h2
      unfold openR
      rw [if_neg h1, if_pos h2]
      exact (openOk_iff (by omega)).1 h2
    · cases h
theorem openE_cases (bs : List UInt8) : openE bs = 0 ∨ openE bs = 2 ∨ openE bs = 16 := by unfold openE; split <;> (try split) <;> simp
theorem unE_cases (bs : List UInt8) : unE bs = 0 ∨ unE bs = 2 := by unfold unE; split <;> simp
theorem decE_cases (bs : List UInt8) : decE bs = 0 ∨ decE bs = 2 := by unfold decE; split <;> simp
theorem unsE_cases (bs : List UInt8) : unsE bs = 0 ∨ unsE bs = 2 ∨ unsE bs = 16 := by
  unfold unsE; split
  · rcases decE_cases (openR bs) with h | h <;> simp [h]
  · exact openE_cases bs
theorem secE_cases (bs : List UInt8) (m : Int) (h t : Nat) : secE bs m h t = 0 ∨ secE bs m h t = 2 ∨ secE bs m h t = 16 := by
  unfold secE; split
  · rcases unE_cases bs with h | h <;> simp [h]
  · split
    · exact unsE_cases _
    · split <;> simp
theorem decE_zero {bs : List UInt8} (h : decE bs = 0) : decO bs = some (decR bs) := by
  unfold decE at h
  split at h
  · rename_i h1
    unfold decR
    cases hq : decO bs with
    | none => rw [hq] at h1; cases h1
    | some l => rfl
  · cases h
/-- what is unsealed is sealed to the same bytes -/
theorem unsE_zero {bs : List UInt8} (h : unsE bs = 0) : encE (unsR bs) = 0 ∧ bs = sealed (packB (unsR bs)) ∧ (∀ x ∈ unsR bs, x.ok) := by
  have h0 : openE bs = 0 := by
    unfold unsE at h; split at h
    · assumption
    · exact h
  have h1 : decE (openR bs) = 0 := by unfold unsE at h; rwa [if_pos h0] at h
  have hr : unsR bs = decR (openR bs) := by unfold unsR; rw [if_pos h0]
  obtain ⟨h2, h3, h4⟩ := encode_decode (decE_zero h1)
  rw [hr]
  refine ⟨h2, ?_, h4⟩
  rw [← encR_pack h2, h3, openE_zero h0]
theorem uns_seal {l : List It} (h : encE l = 0) (hok : ∀ x ∈ l, x.ok) : unsE (sealed (packB l)) = 0 ∧ unsR (sealed (packB l)) = l := by
  obtain ⟨h1, h2⟩ := open_sealed (packB l)
  have hd := decode_encode h hok
  rw [encR_pack h] at hd
  unfold unsE unsR
  rw [h1, if_pos rfl, if_pos rfl, h2]
  unfold decE decR
  rw [hd]; exact ⟨rfl, rfl⟩
theorem le_two (bs : List UInt8) (h : 2 ≤ bs.length) : low (le (bs.take 2)) 2 = bs.take 2 := by
  have := low_le (bs.take 2)
  rwa [List.length_take, Nat.min_eq_left h] at this
theorem all_zero_rep {l : List UInt8} (h : l.all (· == 0) = true) : l = List.replicate l.length 0 := by
  rw [List.all_eq_true] at h
  exact List.eq_replicate_iff.2 ⟨rfl, fun b hb => by simpa using h b hb⟩
/-- what is unframed is framed to the same bytes -/
theorem frame_unframe {bs : List UInt8} (h : unE bs = 0) : frameB (unR bs) ((bs.length : Nat) : Int) = bs ∧ (unR bs).length + 2 ≤ bs.length ∧ bs.length ≤ 60000 := by
  have ok : unOk bs = true := by
    unfold unE at h; split at h
    · assumption
    · cases h
  have hr : unR bs = (bs.drop 2).take (unEnd bs - 2) := by unfold unR; rw [if_pos ok]
  unfold unOk at ok
  simp only [Bool.and_eq_true, decide_eq_true_eq] at ok
  obtain ⟨⟨⟨h1, h2⟩, h3⟩, h4⟩ := ok
  have hl : (unR bs).length = unEnd bs - 2 := by rw [hr, List.length_take, List.length_drop]; omega
  have he : unEnd bs = 2 + le (bs.take 2) := rfl
  refine ⟨?_, by rw [hl]; omega, h2⟩
  have hz := all_zero_rep h4
  rw [List.length_drop] at hz
  unfold frameB
  rw [hl, show unEnd bs - 2 = le (bs.take 2) by omega, le_two bs h1, show ((bs.length : Nat) : Int).toNat - (2 + le (bs.take 2)) = bs.length - unEnd bs by omega, ← hz, hr]
  have e1 : bs.take 2 ++ (bs.drop 2).take (unEnd bs - 2) = bs.take (unEnd bs) := by
    have := List.take_add (l := bs) (i := 2) (j := unEnd bs - 2)
    rw [← this]; congr 1; omega
  rw [e1, List.take_append_drop]
theorem sect_un {l : List It} (hs : (packB l).length ≤ 250) : unE (sectB l) = 0 ∧ unR (sectB l) = sealed (packB l) ∧ (sectB l).length = 256 := by
  have h1 := sealed_length (packB l)
  have h2 := unframe_frame (sealed (packB l)) 256 (by omega) (by omega)
  exact ⟨h2.1, h2.2, frameB_length _ 256 (by omega)⟩
theorem sec_sect {l : List It} (h : encE l = 0) (hok : ∀ x ∈ l, x.ok) (hs : (packB l).length ≤ 250) (m : Int) (hd t : Nat) :
    secE (sectB l) m hd t = (if l.length = hd + t ∧ shapeB l m hd = true then 0 else 2) ∧ secR (sectB l) m hd t = (if l.length = hd + t ∧ shapeB l m hd = true then l else []) := by
  obtain ⟨h1, h2, h3⟩ := sect_un hs
  obtain ⟨h4, h5⟩ := uns_seal h hok
  have h6 : secOk (sectB l) m hd t = decide (l.length = hd + t ∧ shapeB l m hd = true) := by
    unfold secOk
    rw [h2, h5, h3]; simp
  have h7 : secE (sectB l) m hd t = if l.length = hd + t ∧ shapeB l m hd = true then 0 else 2 := by
    unfold secE
    rw [h1, h2, h4, h6]; simp
  refine ⟨h7, ?_⟩
  unfold secR
  rw [h7, h2, h5]
  by_cases hc : l.length = hd + t ∧ shapeB l m hd = true
  · simp [hc]
  · simp only [if_neg hc]; rfl
theorem secE_zero {bs : List UInt8} {m : Int} {hd t : Nat} (h : secE bs m hd t = 0) :
    bs = sectB (secR bs m hd t) ∧ (secR bs m hd t).length = hd + t ∧ shapeB (secR bs m hd t) m hd = true ∧ encE (secR bs m hd t) = 0 ∧ (∀ x ∈ secR bs m hd t, x.ok) ∧ (packB (secR bs m hd t)).length ≤ 250 := by
  have hr : secR bs m hd t = unsR (unR bs) := by unfold secR; rw [if_pos h]
  unfold secE at h
  split at h
  · contradiction
  · split at h
    · contradiction
    · split at h
      · rename_i h1 h2 h3
        have h1 : unE bs = 0 := Decidable.of_not_not h1
        have h2 : unsE (unR bs) = 0 := Decidable.of_not_not h2
        obtain ⟨u1, u2, u3⟩ := unsE_zero h2
        obtain ⟨f1, f2, f3⟩ := frame_unframe h1
        unfold secOk at h3
        simp only [Bool.and_eq_true, decide_eq_true_eq] at h3
        obtain ⟨⟨k1, k2⟩, k3⟩ := h3
        rw [hr]
        refine ⟨?_, k2, k3, u1, u3, ?_⟩
        · unfold sectB
          rw [← u2, ← k1, f1]
        · have := sealed_length (packB (unsR (unR bs)))
          rw [← u2] at this
          omega
      · cases h

/-! ### the shapes of the three records -/
theorem shape_get {l : List It} {m : Int} {hd : Nat} (h : shapeB l m hd = true) : (itAt l 0).n = m ∧ ∀ i, i < l.length → (i < hd ↔ (itAt l i).k = 1) := by
  unfold shapeB at h
  simp only [Bool.and_eq_true, decide_eq_true_eq, List.all_eq_true, List.mem_range, beq_iff_eq] at h
  refine ⟨h.1.2, fun i hi => ?_⟩
  have := h.2 i hi
  constructor
  · intro h1
    rw [decide_eq_true h1] at this
    simpa using this.symm
  · intro h1
    rw [h1] at this
    simpa using this
theorem num_of {x : It} (hf : formB x = true) (hk : x.k = 1) : x = numI x.n := by
  unfold formB at hf
  have hf : x.s.size = 0 := by
    simp only [hk, Bool.or_eq_true, Bool.and_eq_true, beq_iff_eq] at hf
    omega
  have := empty_of_size hf
  cases x
  simp only at *
  subst hk; subst this; rfl
theorem txt_of {x : It} (hf : formB x = true) (hk : x.k ≠ 1) : x = txtI x.s := by
  unfold formB at hf
  have h2 : x.k = 2 ∧ x.n = 0 := by
    simp only [Bool.or_eq_true, Bool.and_eq_true, beq_iff_eq] at hf
    rcases hf with ⟨h, _⟩ | h
    · exact absurd h hk
    · exact h
  cases x
  simp only at *
  obtain ⟨rfl, rfl⟩ := h2; rfl
theorem list4 {l : List It} (h : l.length = 4) : l = [itAt l 0, itAt l 1, itAt l 2, itAt l 3] := by
  match l, h with
  | [a, b, c, d], _ => rfl
theorem list3 {l : List It} (h : l.length = 3) : l = [itAt l 0, itAt l 1, itAt l 2] := by
  match l, h with
  | [a, b, c], _ => rfl
theorem list9 {l : List It} (h : l.length = 9) : l = [itAt l 0, itAt l 1, itAt l 2, itAt l 3, itAt l 4, itAt l 5, itAt l 6, itAt l 7, itAt l 8] := by
  match l, h with
  | [a, b, c, d, e, f, g, x, y], _ => rfl
theorem form_at {l : List It} (h : encE l = 0) {i : Nat} (hi : i < l.length) : formB (itAt l i) = true := by
  have := (encE_ok h).2
  rw [List.all_eq_true] at this
  exact this _ (itAt_mem hi)
theorem head_at' {l : List It} (hE : encE l = 0) {m : Int} {hd : Nat} (h : shapeB l m hd = true) {i : Nat} (hi : i < l.length) (h2 : i < hd) : itAt l i = numI (itAt l i).n :=
  num_of (form_at hE hi) (((shape_get h).2 i hi).1 h2)
theorem text_at' {l : List It} (hE : encE l = 0) {m : Int} {hd : Nat} (h : shapeB l m hd = true) {i : Nat} (hi : i < l.length) (h2 : ¬ i < hd) : itAt l i = txtI (itAt l i).s :=
  txt_of (form_at hE hi) (fun e => h2 (((shape_get h).2 i hi).2 e))
theorem super_of {l : List It} (hl : l.length = 4) (hE : encE l = 0) (h : shapeB l 1 4 = true) : l = superI (itAt l 1).n (itAt l 2).n (itAt l 3).n := by
  have e0 := head_at' hE h (i := 0) (by omega) (by omega)
  rw [(shape_get h).1] at e0
  have e1 := head_at' hE h (i := 1) (by omega) (by omega)
  have e2 := head_at' hE h (i := 2) (by omega) (by omega)
  have e3 := head_at' hE h (i := 3) (by omega) (by omega)
  unfold superI
  rw [← e0, ← e1, ← e2, ← e3]; exact list4 hl
theorem home_of {l : List It} (hl : l.length = 3) (hE : encE l = 0) (h : shapeB l 3 2 = true) : l = homeI (itAt l 1).n (itAt l 2).s := by
  have e0 := head_at' hE h (i := 0) (by omega) (by omega)
  rw [(shape_get h).1] at e0
  have e1 := head_at' hE h (i := 1) (by omega) (by omega)
  have e2 := text_at' hE h (i := 2) (by omega) (by omega)
  unfold homeI
  rw [← e0, ← e1, ← e2]; exact list3 hl
def lgOf (l : List It) : Lg := ⟨(itAt l 1).n, (itAt l 2).n, (itAt l 3).n, (itAt l 4).n, (itAt l 5).n, (itAt l 6).n, (itAt l 7).n, (itAt l 8).s⟩
theorem log_of {l : List It} (hl : l.length = 9) (hE : encE l = 0) (h : shapeB l 2 8 = true) : l = logI (lgOf l) := by
  have e0 := head_at' hE h (i := 0) (by omega) (by omega)
  rw [(shape_get h).1] at e0
  have e1 := head_at' hE h (i := 1) (by omega) (by omega)
  have e2 := head_at' hE h (i := 2) (by omega) (by omega)
  have e3 := head_at' hE h (i := 3) (by omega) (by omega)
  have e4 := head_at' hE h (i := 4) (by omega) (by omega)
  have e5 := head_at' hE h (i := 5) (by omega) (by omega)
  have e6 := head_at' hE h (i := 6) (by omega) (by omega)
  have e7 := head_at' hE h (i := 7) (by omega) (by omega)
  have e8 := text_at' hE h (i := 8) (by omega) (by omega)
  unfold logI lgOf
  simp only
  rw [← e0, ← e1, ← e2, ← e3, ← e4, ← e5, ← e6, ← e7, ← e8]; exact list9 hl
theorem superI_shape (g e t : Int) (m : Int) (hd tx : Nat) : ((superI g e t).length = hd + tx ∧ shapeB (superI g e t) m hd = true) ↔ (m = 1 ∧ hd = 4 ∧ tx = 0) := by
  constructor
  · rintro ⟨h1, h2⟩
    have hl : (superI g e t).length = 4 := rfl
    have hs := shape_get h2
    have e0 : m = 1 := hs.1.symm
    have k3 := (hs.2 3 (by omega)).2 rfl
    refine ⟨e0, by omega, by omega⟩
  · rintro ⟨rfl, rfl, rfl⟩
    exact ⟨rfl, rfl⟩
theorem homeI_shape (p : Int) (d : ByteArray) (m : Int) (hd tx : Nat) : ((homeI p d).length = hd + tx ∧ shapeB (homeI p d) m hd = true) ↔ (m = 3 ∧ hd = 2 ∧ tx = 1) := by
  constructor
  · rintro ⟨h1, h2⟩
    have hl : (homeI p d).length = 3 := rfl
    have hs := shape_get h2
    have e0 : m = 3 := hs.1.symm
    have k1 := (hs.2 1 (by omega)).2 rfl
    have k2 : ¬ 2 < hd := fun h => absurd (show (2 : Int) = 1 from (hs.2 2 (by omega)).1 h) (by decide)
    refine ⟨e0, by omega, by omega⟩
  · rintro ⟨rfl, rfl, rfl⟩
    exact ⟨rfl, rfl⟩
theorem logI_shape (l : Lg) (m : Int) (hd tx : Nat) : ((logI l).length = hd + tx ∧ shapeB (logI l) m hd = true) ↔ (m = 2 ∧ hd = 8 ∧ tx = 1) := by
  constructor
  · rintro ⟨h1, h2⟩
    have hl : (logI l).length = 9 := rfl
    have hs := shape_get h2
    have e0 : m = 2 := hs.1.symm
    have k1 := (hs.2 7 (by omega)).2 rfl
    have k2 : ¬ 8 < hd := fun h => absurd (show (2 : Int) = 1 from (hs.2 8 (by omega)).1 h) (by decide)
    refine ⟨e0, by omega, by omega⟩
  · rintro ⟨rfl, rfl, rfl⟩
    exact ⟨rfl, rfl⟩

/-! ### the three decodings -/
def supE (bs : List UInt8) : Int := if secE bs 1 4 0 = 0 then (if superOk (itAt (secR bs 1 4 0) 1).n (itAt (secR bs 1 4 0) 2).n (itAt (secR bs 1 4 0) 3).n then 0 else 2) else secE bs 1 4 0
def supG (bs : List UInt8) (i : Nat) : Int := if supE bs = 0 then (itAt (secR bs 1 4 0) i).n else 0
def logE (bs : List UInt8) : Int := if secE bs 2 8 1 = 0 then (if logOk (lgOf (secR bs 2 8 1)) then 0 else 2) else secE bs 2 8 1
def lgNone : Lg := ⟨0, 0, 0, 0, 0, 0, 0, ByteArray.empty⟩
def logV (bs : List UInt8) : Lg := if logE bs = 0 then lgOf (secR bs 2 8 1) else lgNone
def homE (bs : List UInt8) : Int := if secE bs 3 2 1 = 0 then (if homeOk (itAt (secR bs 3 2 1) 1).n (itAt (secR bs 3 2 1) 2).s then 0 else 2) else secE bs 3 2 1
def homP (bs : List UInt8) : Int := if homE bs = 0 then (itAt (secR bs 3 2 1) 1).n else 0
def homD (bs : List UInt8) : ByteArray := if homE bs = 0 then (itAt (secR bs 3 2 1) 2).s else ByteArray.empty
theorem supE_cases (bs : List UInt8) : supE bs = 0 ∨ supE bs = 2 ∨ supE bs = 16 := by
  unfold supE; split
  · split <;> simp
  · exact secE_cases _ _ _ _
theorem logE_cases (bs : List UInt8) : logE bs = 0 ∨ logE bs = 2 ∨ logE bs = 16 := by
  unfold logE; split
  · split <;> simp
  · exact secE_cases _ _ _ _
theorem homE_cases (bs : List UInt8) : homE bs = 0 ∨ homE bs = 2 ∨ homE bs = 16 := by
  unfold homE; split
  · split <;> simp
  · exact secE_cases _ _ _ _
theorem super_back {bs : List UInt8} (h : supE bs = 0) : bs = sectB (superI (supG bs 1) (supG bs 2) (supG bs 3)) ∧ superOk (supG bs 1) (supG bs 2) (supG bs 3) = true ∧ inI (supG bs 1) ∧ inI (supG bs 2) ∧ inI (supG bs 3) := by
  have e1 : ∀ i, supG bs i = (itAt (secR bs 1 4 0) i).n := fun i => if_pos h
  unfold supE at h
  split at h
  · rename_i h1
    split at h
    · rename_i h2
      obtain ⟨k1, k2, k3, k4, k5, k6⟩ := secE_zero h1
      rw [e1, e1, e1, ← super_of k2 k4 k3]
      exact ⟨k1, h2, (itAt_ok k5 (by omega)).2.1, (itAt_ok k5 (by omega)).2.1, (itAt_ok k5 (by omega)).2.1⟩
    · cases h
  · exact absurd h ‹_›
theorem home_back {bs : List UInt8} (h : homE bs = 0) : bs = sectB (homeI (homP bs) (homD bs)) ∧ homeOk (homP bs) (homD bs) = true ∧ inI (homP bs) ∧ (homD bs).size ≤ maxLen := by
  have e1 : homP bs = (itAt (secR bs 3 2 1) 1).n := if_pos h
  have e2 : homD bs = (itAt (secR bs 3 2 1) 2).s := if_pos h
  unfold homE at h
  split at h
  · rename_i h1
    split at h
    · rename_i h2
      obtain ⟨k1, k2, k3, k4, k5, k6⟩ := secE_zero h1
      rw [e1, e2, ← home_of k2 k4 k3]
      exact ⟨k1, h2, (itAt_ok k5 (by omega)).2.1, (itAt_ok k5 (by omega)).2.2⟩
    · cases h
  · exact absurd h ‹_›
theorem log_back {bs : List UInt8} (h : logE bs = 0) : bs = sectB (logI (logV bs)) ∧ logOk (logV bs) = true ∧ (logV bs).ok := by
  have e1 : logV bs = lgOf (secR bs 2 8 1) := if_pos h
  unfold logE at h
  split at h
  · rename_i h1
    split at h
    · rename_i h2
      obtain ⟨k1, k2, k3, k4, k5, k6⟩ := secE_zero h1
      rw [e1, ← log_of k2 k4 k3]
      refine ⟨k1, h2, ?_⟩
      have hh : ∀ i, i < 9 → (itAt (secR bs 2 8 1) i).ok := fun i hi => itAt_ok k5 (by omega)
      exact ⟨(hh 1 (by omega)).2.1, (hh 2 (by omega)).2.1, (hh 3 (by omega)).2.1, (hh 4 (by omega)).2.1, (hh 5 (by omega)).2.1, (hh 6 (by omega)).2.1, (hh 7 (by omega)).2.1, (hh 8 (by omega)).2.2⟩
    · cases h
  · exact absurd h ‹_›
theorem logOk_size {l : Lg} (h : logOk l = true) : l.data.size ≤ 160 := by
  unfold logOk at h
  simp only [decide_eq_true_eq] at h
  omega
theorem homeOk_size {p : Int} {d : ByteArray} (h : homeOk p d = true) : d.size ≤ 160 := by
  unfold homeOk at h
  simp only [decide_eq_true_eq] at h
  omega
theorem super_sect {g e t : Int} (h : superOk g e t = true) (h1 : inI g) (h2 : inI e) (h3 : inI t) :
    supE (sectB (superI g e t)) = 0 ∧ supG (sectB (superI g e t)) 1 = g ∧ supG (sectB (superI g e t)) 2 = e ∧ supG (sectB (superI g e t)) 3 = t ∧ logE (sectB (superI g e t)) = 2 ∧ homE (sectB (superI g e t)) = 2 := by
  have hs := sec_sect (encE_super g e t) (superI_ok h1 h2 h3) (by rw [superI_len]; omega)
  have k1 := hs 1 4 0
  rw [if_pos ((superI_shape g e t 1 4 0).2 ⟨rfl, rfl, rfl⟩), if_pos ((superI_shape g e t 1 4 0).2 ⟨rfl, rfl, rfl⟩)] at k1
  have k2 := (hs 2 8 1).1
  rw [if_neg (fun c => absurd ((superI_shape g e t 2 8 1).1 c).1 (by decide))] at k2
  have k3 := (hs 3 2 1).1
  rw [if_neg (fun c => absurd ((superI_shape g e t 3 2 1).1 c).1 (by decide))] at k3
  have hE : supE (sectB (superI g e t)) = 0 := by
    unfold supE
    rw [k1.1, k1.2, if_pos rfl]
    show (if superOk g e t = true then (0 : Int) else 2) = 0
    rw [if_pos h]
  refine ⟨hE, ?_, ?_, ?_, ?_, ?_⟩
  · unfold supG; rw [if_pos hE, k1.2]; rfl
  · unfold supG; rw [if_pos hE, k1.2]; rfl
  · unfold supG; rw [if_pos hE, k1.2]; rfl
  · unfold logE; rw [k2]; rfl
  · unfold homE; rw [k3]; rfl
theorem home_sect {p : Int} {d : ByteArray} (h : homeOk p d = true) (h1 : inI p) :
    homE (sectB (homeI p d)) = 0 ∧ homP (sectB (homeI p d)) = p ∧ homD (sectB (homeI p d)) = d ∧ logE (sectB (homeI p d)) = 2 ∧ supE (sectB (homeI p d)) = 2 := by
  have hd := homeOk_size h
  have hs := sec_sect (encE_home hd) (homeI_ok h1 (by unfold maxLen; omega)) (by rw [homeI_len (p := p)]; omega)
  have k1 := hs 3 2 1
  rw [if_pos ((homeI_shape p d 3 2 1).2 ⟨rfl, rfl, rfl⟩), if_pos ((homeI_shape p d 3 2 1).2 ⟨rfl, rfl, rfl⟩)] at k1
  have k2 := (hs 2 8 1).1
  rw [if_neg (fun c => absurd ((homeI_shape p d 2 8 1).1 c).1 (by decide))] at k2
  have k3 := (hs 1 4 0).1
  rw [if_neg (fun c => absurd ((homeI_shape p d 1 4 0).1 c).1 (by decide))] at k3
  have hE : homE (sectB (homeI p d)) = 0 := by
    unfold homE
    rw [k1.1, k1.2, if_pos rfl]
    show (if homeOk p d = true then (0 : Int) else 2) = 0
    rw [if_pos h]
  refine ⟨hE, ?_, ?_, ?_, ?_⟩
  · unfold homP; rw [if_pos hE, k1.2]; rfl
  · unfold homD; rw [if_pos hE, k1.2]; rfl
  · unfold logE; rw [k2]; rfl
  · unfold supE; rw [k3]; rfl
theorem log_sect {l : Lg} (h : logOk l = true) (h1 : l.ok) :
    logE (sectB (logI l)) = 0 ∧ logV (sectB (logI l)) = l ∧ homE (sectB (logI l)) = 2 ∧ supE (sectB (logI l)) = 2 := by
  have hd := logOk_size h
  have hs := sec_sect (encE_log hd) (logI_ok h1) (by rw [logI_len]; omega)
  have k1 := hs 2 8 1
  rw [if_pos ((logI_shape l 2 8 1).2 ⟨rfl, rfl, rfl⟩), if_pos ((logI_shape l 2 8 1).2 ⟨rfl, rfl, rfl⟩)] at k1
  have k2 := (hs 3 2 1).1
  rw [if_neg (fun c => absurd ((logI_shape l 3 2 1).1 c).1 (by decide))] at k2
  have k3 := (hs 1 4 0).1
  rw [if_neg (fun c => absurd ((logI_shape l 1 4 0).1 c).1 (by decide))] at k3
  have hlg : lgOf (logI l) = l := rfl
  have hE : logE (sectB (logI l)) = 0 := by
    unfold logE
    rw [k1.1, k1.2, if_pos rfl, hlg, if_pos h]
  refine ⟨hE, ?_, ?_, ?_⟩
  · unfold logV; rw [if_pos hE, k1.2, hlg]
  · unfold homE; rw [k2]; rfl
  · unfold supE; rw [k3]; rfl
end Go.Proofs.Ytmkomhdlcbimoaa
