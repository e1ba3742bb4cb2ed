/- Texts that belong together, joined. No statement of the seat is proved here. -/
import Derived.Test.YtbgefdigmdfalaaJ1
import Derived.Test.YtbgefdigmdfalaaRows
import Derived.Laws.CopyOwn
/- Records as items, and their sectors: plain mathematics. No statement of the seat is proved here. -/
namespace Go.Proofs.Ytbgefdigmdfalaa
set_option maxRecDepth 20000
open Go.RowKit

def numI (n : Int) : It := ⟨1, n, ByteArray.empty⟩
def txtI (s : ByteArray) : It := ⟨2, 0, s⟩
structure Lg where
  kind : Int
  epoch : Int
  seq : Int
  tx : Int
  index : Int
  count : Int
  page : Int
  data : ByteArray
def superI (g e t : Int) : List It := [numI 1, numI g, numI e, numI t]
def logI (l : Lg) : List It := [numI 2, numI l.kind, numI l.epoch, numI l.seq, numI l.tx, numI l.index, numI l.count, numI l.page, txtI l.data]
def homeI (p : Int) (d : ByteArray) : List It := [numI 3, numI p, txtI d]
def superOk (g e t : Int) : Bool := decide (0 ≤ g ∧ 0 ≤ e ∧ 0 ≤ t)
def logOk (l : Lg) : Bool := decide ((0 ≤ l.epoch ∧ 0 ≤ l.seq ∧ 0 ≤ l.tx ∧ 0 ≤ l.index ∧ 0 ≤ l.count ∧ 0 ≤ l.page) ∧ (l.kind = 1 ∧ l.data.size ≤ 160 ∨ l.kind = 2 ∧ l.page = 0 ∧ l.data.size = 0))
def homeOk (p : Int) (d : ByteArray) : Bool := decide (0 ≤ p ∧ d.size ≤ 160)
def inI (n : Int) : Prop := -9223372036854775808 ≤ n ∧ n ≤ 9223372036854775807
def Lg.ok (l : Lg) : Prop := inI l.kind ∧ inI l.epoch ∧ inI l.seq ∧ inI l.tx ∧ inI l.index ∧ inI l.count ∧ inI l.page ∧ l.data.size ≤ maxLen
def packB (l : List It) : List UInt8 := l.flatMap itemB
def sectB (l : List It) : List UInt8 := frameB (sealed (packB l)) ((256 : Nat) : Int)

theorem numI_ok {n : Int} (h : inI n) : (numI n).ok := ⟨⟨by show (-9223372036854775808 : Int) ≤ 1; decide, by show (1 : Int) ≤ 9223372036854775807; decide⟩, h, by show (0 : Nat) ≤ maxLen; exact Nat.zero_le _⟩
theorem txtI_ok {s : ByteArray} (h : s.size ≤ maxLen) : (txtI s).ok := ⟨⟨by show (-9223372036854775808 : Int) ≤ 2; decide, by show (2 : Int) ≤ 9223372036854775807; decide⟩, ⟨by show (-9223372036854775808 : Int) ≤ 0; decide, by show (0 : Int) ≤ 9223372036854775807; decide⟩, h⟩
theorem numI_form (n : Int) : formB (numI n) = true := by simp [formB, numI]
theorem txtI_form (s : ByteArray) : formB (txtI s) = true := by simp [formB, txtI]
theorem numI_short (n : Int) : longB (numI n) = false := by simp [longB, numI]
theorem txtI_short {s : ByteArray} (h : s.size ≤ 50000) : longB (txtI s) = false := by unfold longB; rw [Bool.and_eq_false_iff]; exact .inr (decide_eq_false (by show ¬ 50000 < s.size; omega))
theorem numI_len (n : Int) : (itemB (numI n)).length = 9 := by simp [itemB, numI, low_length]
theorem txtI_len (s : ByteArray) : (itemB (txtI s)).length = 3 + s.size := by
  have : s.data.size = s.size := rfl
  simp [itemB, txtI, low_length]; omega
theorem logI_len (l : Lg) : (packB (logI l)).length = 75 + l.data.size := by
  simp only [packB, logI, List.flatMap_cons, List.flatMap_nil, List.length_append, numI_len, txtI_len, List.length_nil]; omega
theorem superI_len (g e t : Int) : (packB (superI g e t)).length = 36 := by
  simp only [packB, superI, List.flatMap_cons, List.flatMap_nil, List.length_append, numI_len, List.length_nil]
theorem homeI_len (p : Int) (d : ByteArray) : (packB (homeI p d)).length = 21 + d.size := by
  simp only [packB, homeI, List.flatMap_cons, List.flatMap_nil, List.length_append, numI_len, txtI_len, List.length_nil]; omega
theorem encE_of {l : List It} (hn : l.length ≤ 4000) (h : ∀ x ∈ l, formB x = true ∧ longB x = false) : encE l = 0 := by
  unfold encE
  rw [if_neg, if_pos (List.all_eq_true.2 fun x hx => (h x hx).1)]
  unfold bigB
  rw [Bool.or_eq_true, List.any_eq_true]
  rintro (h1 | ⟨x, hx, h2⟩)
  · simp at h1; omega
  · rw [(h x hx).2] at h2; cases h2
theorem encE_super (g e t : Int) : encE (superI g e t) = 0 := encE_of (by simp [superI]) (by
  intro x hx; simp only [superI, List.mem_cons, List.not_mem_nil, or_false] at hx
  rcases hx with rfl | rfl | rfl | rfl <;> exact ⟨numI_form _, numI_short _⟩)
theorem encE_log {l : Lg} (h : l.data.size ≤ 160) : encE (logI l) = 0 := encE_of (by simp [logI]) (by
  intro x hx; simp only [logI, List.mem_cons, List.not_mem_nil, or_false] at hx
  rcases hx with rfl | rfl | rfl | rfl | rfl | rfl | rfl | rfl | rfl <;> first | exact ⟨numI_form _, numI_short _⟩ | exact ⟨txtI_form _, txtI_short (by omega)⟩)
theorem encE_home {p : Int} {d : ByteArray} (h : d.size ≤ 160) : encE (homeI p d) = 0 := encE_of (by simp [homeI]) (by
  intro x hx; simp only [homeI, List.mem_cons, List.not_mem_nil, or_false] at hx
  rcases hx with rfl | rfl | rfl <;> first | exact ⟨numI_form _, numI_short _⟩ | exact ⟨txtI_form _, txtI_short (by omega)⟩)
theorem superI_ok {g e t : Int} (h1 : inI g) (h2 : inI e) (h3 : inI t) : ∀ x ∈ superI g e t, x.ok := by
  intro x hx; simp only [superI, List.mem_cons, List.not_mem_nil, or_false] at hx
  rcases hx with rfl | rfl | rfl | rfl <;> first | exact numI_ok ⟨by decide, by decide⟩ | exact numI_ok ‹_›
theorem logI_ok {l : Lg} (h : l.ok) : ∀ x ∈ logI l, x.ok := by
  obtain ⟨h1, h2, h3, h4, h5, h6, h7, h8⟩ := h
  intro x hx; simp only [logI, List.mem_cons, List.not_mem_nil, or_false] at hx
  rcases hx with rfl | rfl | rfl | rfl | rfl | rfl | rfl | rfl | rfl <;> first | exact numI_ok ⟨by decide, by decide⟩ | exact numI_ok ‹_› | exact txtI_ok ‹_›
theorem homeI_ok {p : Int} {d : ByteArray} (h : inI p) (hd : d.size ≤ maxLen) : ∀ x ∈ homeI p d, x.ok := by
  intro x hx; simp only [homeI, List.mem_cons, List.not_mem_nil, or_false] at hx
  rcases hx with rfl | rfl | rfl <;> first | exact numI_ok ⟨by decide, by decide⟩ | exact numI_ok ‹_› | exact txtI_ok ‹_›
theorem encR_pack {l : List It} (h : encE l = 0) : encR l = packB l := encR_ok h

/-! ### what is sealed, and a sector's items -/
def unsE (bs : List UInt8) : Int := if openE bs = 0 then decE (openR bs) else openE bs
def unsR (bs : List UInt8) : List It := if openE bs = 0 then decR (openR bs) else []
def shapeB (l : List It) (mark : Int) (heads : Nat) : Bool := decide (heads ≤ l.length) && ((itAt l 0).n == mark) && (List.range l.length).all fun i => (decide (i < heads)) == ((itAt l i).k == 1)
def secOk (bs : List UInt8) (mark : Int) (heads texts : Nat) : Bool := decide (bs.length = 256) && decide ((unsR (unR bs)).length = heads + texts) && shapeB (unsR (unR bs)) mark heads
def secE (bs : List UInt8) (mark : Int) (heads texts : Nat) : Int := if unE bs ≠ 0 then unE bs else if unsE (unR bs) ≠ 0 then unsE (unR bs) else if secOk bs mark heads texts then 0 else 2
def secR (bs : List UInt8) (mark : Int) (heads texts : Nat) : List It := if secE bs mark heads texts = 0 then unsR (unR bs) else []
theorem openE_zero {bs : List UInt8} (h : openE bs = 0) : sealed (openR bs) = bs := by
  unfold openE at h
  split at h
  · cases h
  · split at h
    · rename_i h1 h2
      unfold openR
      rw [if_neg h1, if_pos h2]
      exact (openOk_iff (by omega)).1 h2
    · cases h
theorem openE_cases (bs : List UInt8) : openE bs = 0 ∨ openE bs = 2 ∨ openE bs = 16 := by unfold openE; split <;> (try split) <;> simp
theorem unE_cases (bs : List UInt8) : unE bs = 0 ∨ unE bs = 2 := by unfold unE; split <;> simp
theorem decE_cases (bs : List UInt8) : decE bs = 0 ∨ decE bs = 2 := by unfold decE; split <;> simp
theorem unsE_cases (bs : List UInt8) : unsE bs = 0 ∨ unsE bs = 2 ∨ unsE bs = 16 := by
  unfold unsE; split
  · rcases decE_cases (openR bs) with h | h <;> simp [h]
  · exact openE_cases bs
theorem secE_cases (bs : List UInt8) (m : Int) (h t : Nat) : secE bs m h t = 0 ∨ secE bs m h t = 2 ∨ secE bs m h t = 16 := by
  unfold secE; split
  · rcases unE_cases bs with h | h <;> simp [h]
  · split
    · exact unsE_cases _
    · split <;> simp
theorem decE_zero {bs : List UInt8} (h : decE bs = 0) : decO bs = some (decR bs) := by
  unfold decE at h
  split at h
  · rename_i h1
    unfold decR
    cases hq : decO bs with
    | none => rw [hq] at h1; cases h1
    | some l => rfl
  · cases h
/-- what is unsealed is sealed to the same bytes -/
theorem unsE_zero {bs : List UInt8} (h : unsE bs = 0) : encE (unsR bs) = 0 ∧ bs = sealed (packB (unsR bs)) ∧ (∀ x ∈ unsR bs, x.ok) := by
  have h0 : openE bs = 0 := by
    unfold unsE at h; split at h
    · assumption
    · exact h
  have h1 : decE (openR bs) = 0 := by unfold unsE at h; rwa [if_pos h0] at h
  have hr : unsR bs = decR (openR bs) := by unfold unsR; rw [if_pos h0]
  obtain ⟨h2, h3, h4⟩ := encode_decode (decE_zero h1)
  rw [hr]
  refine ⟨h2, ?_, h4⟩
  rw [← encR_pack h2, h3, openE_zero h0]
theorem uns_seal {l : List It} (h : encE l = 0) (hok : ∀ x ∈ l, x.ok) : unsE (sealed (packB l)) = 0 ∧ unsR (sealed (packB l)) = l := by
  obtain ⟨h1, h2⟩ := open_sealed (packB l)
  have hd := decode_encode h hok
  rw [encR_pack h] at hd
  unfold unsE unsR
  rw [h1, if_pos rfl, if_pos rfl, h2]
  unfold decE decR
  rw [hd]; exact ⟨rfl, rfl⟩
theorem le_two (bs : List UInt8) (h : 2 ≤ bs.length) : low (le (bs.take 2)) 2 = bs.take 2 := by
  have := low_le (bs.take 2)
  rwa [List.length_take, Nat.min_eq_left h] at this
theorem all_zero_rep {l : List UInt8} (h : l.all (· == 0) = true) : l = List.replicate l.length 0 := by
  rw [List.all_eq_true] at h
  exact List.eq_replicate_iff.2 ⟨rfl, fun b hb => by simpa using h b hb⟩
/-- what is unframed is framed to the same bytes -/
theorem frame_unframe {bs : List UInt8} (h : unE bs = 0) : frameB (unR bs) ((bs.length : Nat) : Int) = bs ∧ (unR bs).length + 2 ≤ bs.length ∧ bs.length ≤ 60000 := by
  have ok : unOk bs = true := by
    unfold unE at h; split at h
    · assumption
    · cases h
  have hr : unR bs = (bs.drop 2).take (unEnd bs - 2) := by unfold unR; rw [if_pos ok]
  unfold unOk at ok
  simp only [Bool.and_eq_true, decide_eq_true_eq] at ok
  obtain ⟨⟨⟨h1, h2⟩, h3⟩, h4⟩ := ok
  have hl : (unR bs).length = unEnd bs - 2 := by rw [hr, List.length_take, List.length_drop]; omega
  have he : unEnd bs = 2 + le (bs.take 2) := rfl
  refine ⟨?_, by rw [hl]; omega, h2⟩
  have hz := all_zero_rep h4
  rw [List.length_drop] at hz
  unfold frameB
  rw [hl, show unEnd bs - 2 = le (bs.take 2) by omega, le_two bs h1, show ((bs.length : Nat) : Int).toNat - (2 + le (bs.take 2)) = bs.length - unEnd bs by omega, ← hz, hr]
  have e1 : bs.take 2 ++ (bs.drop 2).take (unEnd bs - 2) = bs.take (unEnd bs) := by
    have := List.take_add (l := bs) (i := 2) (j := unEnd bs - 2)
    rw [← this]; congr 1; omega
  rw [e1, List.take_append_drop]
theorem sect_un {l : List It} (hs : (packB l).length ≤ 250) : unE (sectB l) = 0 ∧ unR (sectB l) = sealed (packB l) ∧ (sectB l).length = 256 := by
  have h1 := sealed_length (packB l)
  have h2 := unframe_frame (sealed (packB l)) 256 (by omega) (by omega)
  exact ⟨h2.1, h2.2, frameB_length _ 256 (by omega)⟩
theorem sec_sect {l : List It} (h : encE l = 0) (hok : ∀ x ∈ l, x.ok) (hs : (packB l).length ≤ 250) (m : Int) (hd t : Nat) :
    secE (sectB l) m hd t = (if l.length = hd + t ∧ shapeB l m hd = true then 0 else 2) ∧ secR (sectB l) m hd t = (if l.length = hd + t ∧ shapeB l m hd = true then l else []) := by
  obtain ⟨h1, h2, h3⟩ := sect_un hs
  obtain ⟨h4, h5⟩ := uns_seal h hok
  have h6 : secOk (sectB l) m hd t = decide (l.length = hd + t ∧ shapeB l m hd = true) := by
    unfold secOk
    rw [h2, h5, h3]; simp
  have h7 : secE (sectB l) m hd t = if l.length = hd + t ∧ shapeB l m hd = true then 0 else 2 := by
    unfold secE
    rw [h1, h2, h4, h6]; simp
  refine ⟨h7, ?_⟩
  unfold secR
  rw [h7, h2, h5]
  by_cases hc : l.length = hd + t ∧ shapeB l m hd = true
  · simp [hc]
  · simp only [if_neg hc]; rfl
theorem secE_zero {bs : List UInt8} {m : Int} {hd t : Nat} (h : secE bs m hd t = 0) :
    bs = sectB (secR bs m hd t) ∧ (secR bs m hd t).length = hd + t ∧ shapeB (secR bs m hd t) m hd = true ∧ encE (secR bs m hd t) = 0 ∧ (∀ x ∈ secR bs m hd t, x.ok) ∧ (packB (secR bs m hd t)).length ≤ 250 := by
  have hr : secR bs m hd t = unsR (unR bs) := by unfold secR; rw [if_pos h]
  unfold secE at h
  split at h
  · contradiction
  · split at h
    · contradiction
    · split at h
      · rename_i h1 h2 h3
        have h1 : unE bs = 0 := Decidable.of_not_not h1
        have h2 : unsE (unR bs) = 0 := Decidable.of_not_not h2
        obtain ⟨u1, u2, u3⟩ := unsE_zero h2
        obtain ⟨f1, f2, f3⟩ := frame_unframe h1
        unfold secOk at h3
        simp only [Bool.and_eq_true, decide_eq_true_eq] at h3
        obtain ⟨⟨k1, k2⟩, k3⟩ := h3
        rw [hr]
        refine ⟨?_, k2, k3, u1, u3, ?_⟩
        · unfold sectB
          rw [← u2, ← k1, f1]
        · have := sealed_length (packB (unsR (unR bs)))
          rw [← u2] at this
          omega
      · cases h

/-! ### the shapes of the three records -/
theorem shape_get {l : List It} {m : Int} {hd : Nat} (h : shapeB l m hd = true) : (itAt l 0).n = m ∧ ∀ i, i < l.length → (i < hd ↔ (itAt l i).k = 1) := by
  unfold shapeB at h
  simp only [Bool.and_eq_true, decide_eq_true_eq, List.all_eq_true, List.mem_range, beq_iff_eq] at h
  refine ⟨h.1.2, fun i hi => ?_⟩
  have := h.2 i hi
  constructor
  · intro h1
    rw [decide_eq_true h1] at this
    simpa using this.symm
  · intro h1
    rw [h1] at this
    simpa using this
theorem num_of {x : It} (hf : formB x = true) (hk : x.k = 1) : x = numI x.n := by
  unfold formB at hf
  have hf : x.s.size = 0 := by
    simp only [hk, Bool.or_eq_true, Bool.and_eq_true, beq_iff_eq] at hf
    omega
  have := empty_of_size hf
  cases x
  simp only at *
  subst hk; subst this; rfl
theorem txt_of {x : It} (hf : formB x = true) (hk : x.k ≠ 1) : x = txtI x.s := by
  unfold formB at hf
  have h2 : x.k = 2 ∧ x.n = 0 := by
    simp only [Bool.or_eq_true, Bool.and_eq_true, beq_iff_eq] at hf
    rcases hf with ⟨h, _⟩ | h
    · exact absurd h hk
    · exact h
  cases x
  simp only at *
  obtain ⟨rfl, rfl⟩ := h2; rfl
theorem list4 {l : List It} (h : l.length = 4) : l = [itAt l 0, itAt l 1, itAt l 2, itAt l 3] := by
  match l, h with
  | [a, b, c, d], _ => rfl
theorem list3 {l : List It} (h : l.length = 3) : l = [itAt l 0, itAt l 1, itAt l 2] := by
  match l, h with
  | [a, b, c], _ => rfl
theorem list9 {l : List It} (h : l.length = 9) : l = [itAt l 0, itAt l 1, itAt l 2, itAt l 3, itAt l 4, itAt l 5, itAt l 6, itAt l 7, itAt l 8] := by
  match l, h with
  | [a, b, c, d, e, f, g, x, y], _ => rfl
theorem form_at {l : List It} (h : encE l = 0) {i : Nat} (hi : i < l.length) : formB (itAt l i) = true := by
  have := (encE_ok h).2
  rw [List.all_eq_true] at this
  exact this _ (itAt_mem hi)
theorem head_at' {l : List It} (hE : encE l = 0) {m : Int} {hd : Nat} (h : shapeB l m hd = true) {i : Nat} (hi : i < l.length) (h2 : i < hd) : itAt l i = numI (itAt l i).n :=
  num_of (form_at hE hi) (((shape_get h).2 i hi).1 h2)
theorem text_at' {l : List It} (hE : encE l = 0) {m : Int} {hd : Nat} (h : shapeB l m hd = true) {i : Nat} (hi : i < l.length) (h2 : ¬ i < hd) : itAt l i = txtI (itAt l i).s :=
  txt_of (form_at hE hi) (fun e => h2 (((shape_get h).2 i hi).2 e))
theorem super_of {l : List It} (hl : l.length = 4) (hE : encE l = 0) (h : shapeB l 1 4 = true) : l = superI (itAt l 1).n (itAt l 2).n (itAt l 3).n := by
  have e0 := head_at' hE h (i := 0) (by omega) (by omega)
  rw [(shape_get h).1] at e0
  have e1 := head_at' hE h (i := 1) (by omega) (by omega)
  have e2 := head_at' hE h (i := 2) (by omega) (by omega)
  have e3 := head_at' hE h (i := 3) (by omega) (by omega)
  unfold superI
  rw [← e0, ← e1, ← e2, ← e3]; exact list4 hl
theorem home_of {l : List It} (hl : l.length = 3) (hE : encE l = 0) (h : shapeB l 3 2 = true) : l = homeI (itAt l 1).n (itAt l 2).s := by
  have e0 := head_at' hE h (i := 0) (by omega) (by omega)
  rw [(shape_get h).1] at e0
  have e1 := head_at' hE h (i := 1) (by omega) (by omega)
  have e2 := text_at' hE h (i := 2) (by omega) (by omega)
  unfold homeI
  rw [← e0, ← e1, ← e2]; exact list3 hl
def lgOf (l : List It) : Lg := ⟨(itAt l 1).n, (itAt l 2).n, (itAt l 3).n, (itAt l 4).n, (itAt l 5).n, (itAt l 6).n, (itAt l 7).n, (itAt l 8).s⟩
theorem log_of {l : List It} (hl : l.length = 9) (hE : encE l = 0) (h : shapeB l 2 8 = true) : l = logI (lgOf l) := by
  have e0 := head_at' hE h (i := 0) (by omega) (by omega)
  rw [(shape_get h).1] at e0
  have e1 := head_at' hE h (i := 1) (by omega) (by omega)
  have e2 := head_at' hE h (i := 2) (by omega) (by omega)
  have e3 := head_at' hE h (i := 3) (by omega) (by omega)
  have e4 := head_at' hE h (i := 4) (by omega) (by omega)
  have e5 := head_at' hE h (i := 5) (by omega) (by omega)
  have e6 := head_at' hE h (i := 6) (by omega) (by omega)
  have e7 := head_at' hE h (i := 7) (by omega) (by omega)
  have e8 := text_at' hE h (i := 8) (by omega) (by omega)
  unfold logI lgOf
  simp only
  rw [← e0, ← e1, ← e2, ← e3, ← e4, ← e5, ← e6, ← e7, ← e8]; exact list9 hl
theorem superI_shape (g e t : Int) (m : Int) (hd tx : Nat) : ((superI g e t).length = hd + tx ∧ shapeB (superI g e t) m hd = true) ↔ (m = 1 ∧ hd = 4 ∧ tx = 0) := by
  constructor
  · rintro ⟨h1, h2⟩
    have hl : (superI g e t).length = 4 := rfl
    have hs := shape_get h2
    have e0 : m = 1 := hs.1.symm
    have k3 := (hs.2 3 (by omega)).2 rfl
    refine ⟨e0, by omega, by omega⟩
  · rintro ⟨rfl, rfl, rfl⟩
    exact ⟨rfl, rfl⟩
theorem homeI_shape (p : Int) (d : ByteArray) (m : Int) (hd tx : Nat) : ((homeI p d).length = hd + tx ∧ shapeB (homeI p d) m hd = true) ↔ (m = 3 ∧ hd = 2 ∧ tx = 1) := by
  constructor
  · rintro ⟨h1, h2⟩
    have hl : (homeI p d).length = 3 := rfl
    have hs := shape_get h2
    have e0 : m = 3 := hs.1.symm
    have k1 := (hs.2 1 (by omega)).2 rfl
    have k2 : ¬ 2 < hd := fun h => absurd (show (2 : Int) = 1 from (hs.2 2 (by omega)).1 h) (by decide)
    refine ⟨e0, by omega, by omega⟩
  · rintro ⟨rfl, rfl, rfl⟩
    exact ⟨rfl, rfl⟩
theorem logI_shape (l : Lg) (m : Int) (hd tx : Nat) : ((logI l).length = hd + tx ∧ shapeB (logI l) m hd = true) ↔ (m = 2 ∧ hd = 8 ∧ tx = 1) := by
  constructor
  · rintro ⟨h1, h2⟩
    have hl : (logI l).length = 9 := rfl
    have hs := shape_get h2
    have e0 : m = 2 := hs.1.symm
    have k1 := (hs.2 7 (by omega)).2 rfl
    have k2 : ¬ 8 < hd := fun h => absurd (show (2 : Int) = 1 from (hs.2 8 (by omega)).1 h) (by decide)
    refine ⟨e0, by omega, by omega⟩
  · rintro ⟨rfl, rfl, rfl⟩
    exact ⟨rfl, rfl⟩

/-! ### the three decodings -/
def supE (bs : List UInt8) : Int := if secE bs 1 4 0 = 0 then (if superOk (itAt (secR bs 1 4 0) 1).n (itAt (secR bs 1 4 0) 2).n (itAt (secR bs 1 4 0) 3).n then 0 else 2) else secE bs 1 4 0
def supG (bs : List UInt8) (i : Nat) : Int := if supE bs = 0 then (itAt (secR bs 1 4 0) i).n else 0
def logE (bs : List UInt8) : Int := if secE bs 2 8 1 = 0 then (if logOk (lgOf (secR bs 2 8 1)) then 0 else 2) else secE bs 2 8 1
def lgNone : Lg := ⟨0, 0, 0, 0, 0, 0, 0, ByteArray.empty⟩
def logV (bs : List UInt8) : Lg := if logE bs = 0 then lgOf (secR bs 2 8 1) else lgNone
def homE (bs : List UInt8) : Int := if secE bs 3 2 1 = 0 then (if homeOk (itAt (secR bs 3 2 1) 1).n (itAt (secR bs 3 2 1) 2).s then 0 else 2) else secE bs 3 2 1
def homP (bs : List UInt8) : Int := if homE bs = 0 then (itAt (secR bs 3 2 1) 1).n else 0
def homD (bs : List UInt8) : ByteArray := if homE bs = 0 then (itAt (secR bs 3 2 1) 2).s else ByteArray.empty
theorem supE_cases (bs : List UInt8) : supE bs = 0 ∨ supE bs = 2 ∨ supE bs = 16 := by
  unfold supE; split
  · split <;> simp
  · exact secE_cases _ _ _ _
theorem logE_cases (bs : List UInt8) : logE bs = 0 ∨ logE bs = 2 ∨ logE bs = 16 := by
  unfold logE; split
  · split <;> simp
  · exact secE_cases _ _ _ _
theorem homE_cases (bs : List UInt8) : homE bs = 0 ∨ homE bs = 2 ∨ homE bs = 16 := by
  unfold homE; split
  · split <;> simp
  · exact secE_cases _ _ _ _
theorem super_back {bs : List UInt8} (h : supE bs = 0) : bs = sectB (superI (supG bs 1) (supG bs 2) (supG bs 3)) ∧ superOk (supG bs 1) (supG bs 2) (supG bs 3) = true ∧ inI (supG bs 1) ∧ inI (supG bs 2) ∧ inI (supG bs 3) := by
  have e1 : ∀ i, supG bs i = (itAt (secR bs 1 4 0) i).n := fun i => if_pos h
  unfold supE at h
  split at h
  · rename_i h1
    split at h
    · rename_i h2
      obtain ⟨k1, k2, k3, k4, k5, k6⟩ := secE_zero h1
      rw [e1, e1, e1, ← super_of k2 k4 k3]
      exact ⟨k1, h2, (itAt_ok k5 (by omega)).2.1, (itAt_ok k5 (by omega)).2.1, (itAt_ok k5 (by omega)).2.1⟩
    · cases h
  · exact absurd h ‹_›
theorem home_back {bs : List UInt8} (h : homE bs = 0) : bs = sectB (homeI (homP bs) (homD bs)) ∧ homeOk (homP bs) (homD bs) = true ∧ inI (homP bs) ∧ (homD bs).size ≤ maxLen := by
  have e1 : homP bs = (itAt (secR bs 3 2 1) 1).n := if_pos h
  have e2 : homD bs = (itAt (secR bs 3 2 1) 2).s := if_pos h
  unfold homE at h
  split at h
  · rename_i h1
    split at h
    · rename_i h2
      obtain ⟨k1, k2, k3, k4, k5, k6⟩ := secE_zero h1
      rw [e1, e2, ← home_of k2 k4 k3]
      exact ⟨k1, h2, (itAt_ok k5 (by omega)).2.1, (itAt_ok k5 (by omega)).2.2⟩
    · cases h
  · exact absurd h ‹_›
theorem log_back {bs : List UInt8} (h : logE bs = 0) : bs = sectB (logI (logV bs)) ∧ logOk (logV bs) = true ∧ (logV bs).ok := by
  have e1 : logV bs = lgOf (secR bs 2 8 1) := if_pos h
  unfold logE at h
  split at h
  · rename_i h1
    split at h
    · rename_i h2
      obtain ⟨k1, k2, k3, k4, k5, k6⟩ := secE_zero h1
      rw [e1, ← log_of k2 k4 k3]
      refine ⟨k1, h2, ?_⟩
      have hh : ∀ i, i < 9 → (itAt (secR bs 2 8 1) i).ok := fun i hi => itAt_ok k5 (by omega)
      exact ⟨(hh 1 (by omega)).2.1, (hh 2 (by omega)).2.1, (hh 3 (by omega)).2.1, (hh 4 (by omega)).2.1, (hh 5 (by omega)).2.1, (hh 6 (by omega)).2.1, (hh 7 (by omega)).2.1, (hh 8 (by omega)).2.2⟩
    · cases h
  · exact absurd h ‹_›
theorem logOk_size {l : Lg} (h : logOk l = true) : l.data.size ≤ 160 := by
  unfold logOk at h
  simp only [decide_eq_true_eq] at h
  omega
theorem homeOk_size {p : Int} {d : ByteArray} (h : homeOk p d = true) : d.size ≤ 160 := by
  unfold homeOk at h
  simp only [decide_eq_true_eq] at h
  omega
theorem super_sect {g e t : Int} (h : superOk g e t = true) (h1 : inI g) (h2 : inI e) (h3 : inI t) :
    supE (sectB (superI g e t)) = 0 ∧ supG (sectB (superI g e t)) 1 = g ∧ supG (sectB (superI g e t)) 2 = e ∧ supG (sectB (superI g e t)) 3 = t ∧ logE (sectB (superI g e t)) = 2 ∧ homE (sectB (superI g e t)) = 2 := by
  have hs := sec_sect (encE_super g e t) (superI_ok h1 h2 h3) (by rw [superI_len]; omega)
  have k1 := hs 1 4 0
  rw [if_pos ((superI_shape g e t 1 4 0).2 ⟨rfl, rfl, rfl⟩), if_pos ((superI_shape g e t 1 4 0).2 ⟨rfl, rfl, rfl⟩)] at k1
  have k2 := (hs 2 8 1).1
  rw [if_neg (fun c => absurd ((superI_shape g e t 2 8 1).1 c).1 (by decide))] at k2
  have k3 := (hs 3 2 1).1
  rw [if_neg (fun c => absurd ((superI_shape g e t 3 2 1).1 c).1 (by decide))] at k3
  have hE : supE (sectB (superI g e t)) = 0 := by
    unfold supE
    rw [k1.1, k1.2, if_pos rfl]
    show (if superOk g e t = true then (0 : Int) else 2) = 0
    rw [if_pos h]
  refine ⟨hE, ?_, ?_, ?_, ?_, ?_⟩
  · unfold supG; rw [if_pos hE, k1.2]; rfl
  · unfold supG; rw [if_pos hE, k1.2]; rfl
  · unfold supG; rw [if_pos hE, k1.2]; rfl
  · unfold logE; rw [k2]; rfl
  · unfold homE; rw [k3]; rfl
theorem home_sect {p : Int} {d : ByteArray} (h : homeOk p d = true) (h1 : inI p) :
    homE (sectB (homeI p d)) = 0 ∧ homP (sectB (homeI p d)) = p ∧ homD (sectB (homeI p d)) = d ∧ logE (sectB (homeI p d)) = 2 ∧ supE (sectB (homeI p d)) = 2 := by
  have hd := homeOk_size h
  have hs := sec_sect (encE_home hd) (homeI_ok h1 (by unfold maxLen; omega)) (by rw [homeI_len (p := p)]; omega)
  have k1 := hs 3 2 1
  rw [if_pos ((homeI_shape p d 3 2 1).2 ⟨rfl, rfl, rfl⟩), if_pos ((homeI_shape p d 3 2 1).2 ⟨rfl, rfl, rfl⟩)] at k1
  have k2 := (hs 2 8 1).1
  rw [if_neg (fun c => absurd ((homeI_shape p d 2 8 1).1 c).1 (by decide))] at k2
  have k3 := (hs 1 4 0).1
  rw [if_neg (fun c => absurd ((homeI_shape p d 1 4 0).1 c).1 (by decide))] at k3
  have hE : homE (sectB (homeI p d)) = 0 := by
    unfold homE
    rw [k1.1, k1.2, if_pos rfl]
    show (if homeOk p d = true then (0 : Int) else 2) = 0
    rw [if_pos h]
  refine ⟨hE, ?_, ?_, ?_, ?_⟩
  · unfold homP; rw [if_pos hE, k1.2]; rfl
  · unfold homD; rw [if_pos hE, k1.2]; rfl
  · unfold logE; rw [k2]; rfl
  · unfold supE; rw [k3]; rfl
theorem log_sect {l : Lg} (h : logOk l = true) (h1 : l.ok) :
    logE (sectB (logI l)) = 0 ∧ logV (sectB (logI l)) = l ∧ homE (sectB (logI l)) = 2 ∧ supE (sectB (logI l)) = 2 := by
  have hd := logOk_size h
  have hs := sec_sect (encE_log hd) (logI_ok h1) (by rw [logI_len]; omega)
  have k1 := hs 2 8 1
  rw [if_pos ((logI_shape l 2 8 1).2 ⟨rfl, rfl, rfl⟩), if_pos ((logI_shape l 2 8 1).2 ⟨rfl, rfl, rfl⟩)] at k1
  have k2 := (hs 3 2 1).1
  rw [if_neg (fun c => absurd ((logI_shape l 3 2 1).1 c).1 (by decide))] at k2
  have k3 := (hs 1 4 0).1
  rw [if_neg (fun c => absurd ((logI_shape l 1 4 0).1 c).1 (by decide))] at k3
  have hlg : lgOf (logI l) = l := rfl
  have hE : logE (sectB (logI l)) = 0 := by
    unfold logE
    rw [k1.1, k1.2, if_pos rfl, hlg, if_pos h]
  refine ⟨hE, ?_, ?_, ?_⟩
  · unfold logV; rw [if_pos hE, k1.2, hlg]
  · unfold homE; rw [k2]; rfl
  · unfold supE; rw [k3]; rfl
end Go.Proofs.Ytbgefdigmdfalaa

/- The contracts of record's small calls. No statement of the seat is proved here. -/
namespace Go.Proofs.Ytbgefdigmdfalaa
set_option maxRecDepth 20000
open Go.RowKit

/-- A slice of numbers that reads as zs in w, cell by cell. -/
def IntC (w : World) (v : Value) (zs : List Int) : Prop :=
  ∃ ao cap, v = .slice ao zs.length cap ∧ zs.length ≤ cap ∧ zs.length ≤ 4000 ∧ (0 < zs.length → ∃ b off, ao = some ⟨b, off, none⟩ ∧ ∀ i, i < zs.length → w.cell? ⟨b, off + i, none⟩ = some (.int .i64 (zs.getD i 0)))
theorem IntC.below {w w' : World} {v : Value} {zs : List Int} (h : IntC w v zs) (hb : Below w.heap.size w w') : IntC w' v zs := by
  obtain ⟨ao, cap, hv, hc, hl, h1⟩ := h
  refine ⟨ao, cap, hv, hc, hl, fun h0 => ?_⟩
  obtain ⟨b, off, e, h2⟩ := h1 h0
  exact ⟨b, off, e, fun i hi => (hb.cell (World.block_lt_of_cell? w _ (h2 i hi))).trans (h2 i hi)⟩
theorem IntC.get {w : World} {ao : Option Addr} {n cap : Nat} {zs : List Int} (h : IntC w (.slice ao n cap) zs) {k : Nat} (hk : k < zs.length) : ∃ b off, ao = some ⟨b, off, none⟩ ∧ w.cell? ⟨b, off + k, none⟩ = some (.int .i64 (zs.getD k 0)) := by
  obtain ⟨ao', cap', hv, _, _, hc⟩ := h
  cases hv
  obtain ⟨b, off, h1, h3⟩ := hc (by omega)
  exact ⟨b, off, h1, h3 k hk⟩
theorem intc_new (w : World) (zs : List Int) (hz : zs.length ≤ 4000) : IntC (w.alloc (.cells (zs.map (Value.int .i64)).toArray 3)) (.slice (some ⟨w.heap.size, 0, none⟩) zs.length zs.length) zs := by
  refine ⟨_, _, rfl, Nat.le_refl _, hz, fun _ => ⟨_, _, rfl, fun i hi => ?_⟩⟩
  rw [cell_of_row _ _ _ _ _ _ (heap_alloc_new w _)]
  simp [List.getD_eq_getElem?_getD, List.getElem?_eq_getElem hi]
def allNat (zs : List Int) : Bool := zs.all fun z => decide (0 ≤ z)
set_option maxHeartbeats 800000 in
theorem fromNought_any {w : World} {v : Value} {zs : List Int} (h : IntC w v zs) : Calls Try.prog 76 #[v] w fun e w' => e = .returned (.bool (allNat zs)) ∧ w = w' := by
  have hh := h
  obtain ⟨ao, cap, rfl, hc, hl, -⟩ := h
  go_enter Try.func76, Try.ntmps76
  go_wp2
  go_loop [7] (fun i => ∃ k : Nat, k ≤ zs.length ∧ i = .int .i64 k ∧ Hid (∀ j, j < k → 0 ≤ zs.getD j 0)) (fun i => zs.length - (intOf i).toNat)
  case atStart => exact ⟨0, Nat.zero_le _, rfl, Lib.hid (fun j hj => by omega)⟩
  case round =>
    obtain ⟨k, hk, rfl, hz⟩ := hrel
    by_cases hlt : k < zs.length
    · obtain ⟨b, off, rfl, hcell⟩ := hh.get hlt
      by_cases h0 : 0 ≤ zs.getD k 0
      · have h1 : ¬ zs.getD k 0 < 0 := by omega
        generalize hx : zs.getD k 0 = x at h1 hcell
        have HX := Lib.hid hx
        have H0 := Lib.hid h0
        clear hx h0
        go_wp2
        go_round
        case rel => exact ⟨k + 1, by omega, by go_num, Lib.hid (fun j hj => by
            by_cases e : j = k
            · subst e; exact H0.out
            · exact hz.out j (by omega))⟩
        case measure => first | (simp [intOf]; omega) | omega
      · have h1 : zs.getD k 0 < 0 := by omega
        have hf : allNat zs = false := by
          unfold allNat
          rw [List.all_eq_false]
          refine ⟨zs.getD k 0, ?_, by simpa using h1⟩
          rw [List.getD_eq_getElem?_getD, List.getElem?_eq_getElem hlt]; exact List.getElem_mem _
        have HF := Lib.hid hf
        generalize hx : zs.getD k 0 = x at h1 hcell
        clear hf h0 hx
        go_wp2
        go_ret
        exact ⟨by rw [HF.out]; rfl, rfl⟩
    · have hf : allNat zs = true := by
        unfold allNat
        rw [List.all_eq_true]
        intro x hx
        obtain ⟨j, hj, rfl⟩ := List.mem_iff_getElem.1 hx
        have := hz.out j (by omega)
        rw [List.getD_eq_getElem?_getD, List.getElem?_eq_getElem hj] at this
        simpa using this
      have HF := Lib.hid hf
      clear hf
      go_wp2
      go_ret
      exact ⟨by rw [HF.out]; rfl, rfl⟩
theorem numsI_succ (zs : List Int) (k : Nat) (h : k < zs.length) : (zs.take (k + 1)).map numI = (zs.take k).map numI ++ [numI (zs.getD k 0)] := by
  rw [List.take_succ_eq_append_getElem h, List.map_append, List.getD_eq_getElem?_getD, List.getElem?_eq_getElem h]; rfl
def OwnRetI (base : Nat) (w : World) (l : List It) (e : Ending) (w' : World) : Prop := ∃ v', e = .returned v' ∧ OwnI base w' v' l ∧ Below base w w'
set_option maxHeartbeats 1600000 in
theorem numbers_any {w : World} {v : Value} {zs : List Int} (h : IntC w v zs) (hok : ∀ z ∈ zs, inI z) : Calls Try.prog 67 #[v] w (OwnRetI w.heap.size w (zs.map numI)) := by
  have hh := h
  obtain ⟨ao, cap, rfl, hc, hl, -⟩ := h
  have HOK := Lib.hid hok
  clear hok
  go_enter Try.func67, Try.ntmps67
  go_wp2
  go_loopw [3, 8] (fun lv iv wr => ∃ k : Nat, k ≤ zs.length ∧ iv = .int .i64 k ∧ OwnI w.heap.size wr lv ((zs.take k).map numI) ∧ Below w.heap.size w wr) (fun _ iv _ => zs.length - (intOf iv).toNat)
  case atStart => exact ⟨0, Nat.zero_le _, rfl, OwnI.nil _ _, Below.refl _ _⟩
  case round =>
    obtain ⟨k, hk, rfl, ho, hbel⟩ := hrel
    obtain ⟨lo, lm, lc, hlv, hlm⟩ := ho.form'
    subst hlv
    by_cases hlt : k < zs.length
    · obtain ⟨b, off, rfl, hcell0⟩ := hh.get hlt
      have hcell := (hbel.cell (World.block_lt_of_cell? w _ hcell0)).trans hcell0
      have hin : inI (zs.getD k 0) := HOK.out _ (by rw [List.getD_eq_getElem?_getD, List.getElem?_eq_getElem hlt]; exact List.getElem_mem _)
      have HS := Lib.hid (numsI_succ zs k hlt)
      generalize hx : zs.getD k 0 = x at hcell hin HS
      have hbs : (Instr.buildSlice 115 1 #[(0, .agg #[.int .i64 1, .int .i64 x, .string ⟨#[]⟩])]).run Try.prog wr = .ok (.slice (some ⟨wr.heap.size, 0, none⟩) 1 1) (wr.alloc (.cells #[.int .i64 1, .int .i64 x, .string ⟨#[]⟩] 114)) := build_slice_one wr (numI x)
      have hit := items_one wr (numI x) (numI_ok hin)
      obtain ⟨v4, w4, hr4, h4, b4, s4⟩ := own_append_items (ho.alloc (.cells #[.int .i64 1, .int .i64 x, .string ⟨#[]⟩] 114)) hit (by simp; omega) (by have := hbel.size; simp; omega) 115
      have bb4 := (hbel.alloc hbel.size (.cells #[.int .i64 1, .int .i64 x, .string ⟨#[]⟩] 114)).trans b4
      have hbi := build_it1 x wr
      obtain ⟨lo4, lm4, lc4, hv4, hm4⟩ := h4.form'
      subst hv4
      have HR4 := Lib.hid hr4
      rw [← HS.out] at h4
      clear hr4 hit b4 s4 ho hbel hcell0 hx
      go_wp2_with (with_reducible refine wpList_append_eq rfl (.tmp 12) (.tmp 15) 115 115 rfl (.slice lo lm lc) (.slice (some ⟨wr.heap.size, 0, none⟩) 1 1) (.slice lo4 lm4 lc4) rfl rfl HR4.out ?_)
      go_roundw
      case rel => exact ⟨k + 1, by omega, by go_num, h4, bb4⟩
      case measure => simp [intOf]; omega
    · rw [List.take_of_length_le (by omega)] at ho
      go_wp2
      go_ret
      exact ⟨_, rfl, ho, hbel⟩
set_option maxHeartbeats 800000 in
theorem textOf_any (s : ByteArray) (w : World) : Calls Try.prog 69 #[.string s] w fun e w' => e = .returned (.agg #[.int .i64 2, .int .i64 0, .string s]) ∧ Below w.heap.size w w' := by
  have hb := build_it2 s (w.alloc (.cells #[.int .i64 0, .int .i64 0, .string ⟨#[]⟩] 114))
  go_enter Try.func69, Try.ntmps69
  go_wp2
  exact bodyPost_ret (v := .agg #[.int .i64 2, .int .i64 0, .string s]) (by simp [results, Try.results69, go_sem]) rfl ⟨rfl, below_new w _⟩
set_option maxHeartbeats 1600000 in
theorem sector_any {w : World} {v : Value} {l : List It} (h : ItemsAt w.heap.size w v l) (hE : encE l = 0) (hs : (packB l).length ≤ 250) : Calls Try.prog 68 #[v] w (OwnRetE w.heap.size w (sectB l) 0) := by
  have he := encode_any h
  rw [hE, encR_pack hE] at he
  obtain ⟨ao, m, cap, hv, hm⟩ : ∃ ao m cap, v = .slice ao m cap ∧ Hid (m = l.length) := by
    obtain ⟨ao, cap, hv, _⟩ := h
    exact ⟨ao, _, cap, hv, Lib.hid rfl⟩
  subst hv
  go_enter Try.func68, Try.ntmps68
  go_wp2_with fail
  refine he.mono ?_
  rintro e w1 ⟨v1, rfl, h1, b1⟩
  have hse := seal_any h1.at (by omega)
  obtain ⟨ao1, m1, cap1, hv1, hm1⟩ := h1.form'
  subst hv1
  clear he h1
  go_wp2_with fail
  refine hse.mono ?_
  rintro e w2 ⟨v2, rfl, h2, b2⟩
  have bb2 := b1.trans (b2.mono b1.size)
  have hfr := frame_any h2.at 256
  have hfe : frameE (sealed (packB l)).length 256 = 0 := by unfold frameE; rw [sealed_length, if_neg (by omega), if_neg (by omega)]
  have hfR : frameR (sealed (packB l)) 256 = sectB l := by unfold frameR; rw [hfe, if_pos rfl]; rfl
  rw [hfe, hfR] at hfr
  obtain ⟨ao2, m2, cap2, hv2, hm2⟩ := h2.form'
  subst hv2
  clear hse h2 hfe hfR
  go_wp2_with fail
  refine hfr.mono ?_
  rintro e w3 ⟨v3, rfl, h3, b3⟩
  have bb3 := bb2.trans (b3.mono bb2.size)
  obtain ⟨ao3, m3, cap3, hv3, hm3⟩ := h3.form'
  subst hv3
  clear hfr
  go_wp2
  go_ret2
  exact ⟨_, rfl, ownsRow_base h3 (fun k hk => Nat.le_trans (Nat.le_trans bb2.size (Nat.le_refl _)) (World.ownsRow.lt h3 k hk).1), bb3⟩
end Go.Proofs.Ytbgefdigmdfalaa

/- The contracts of record's unseal, shaped, unsector, and of what must be. No statement of the seat is proved here. -/
namespace Go.Proofs.Ytbgefdigmdfalaa
set_option maxRecDepth 20000
open Go.RowKit

theorem OwnI.base {base base' : Nat} {w : World} {v : Value} {l : List It} (h : OwnI base w v l) (hb : base' ≤ base) : OwnI base' w v l :=
  ownsRow_base h (fun k hk => Nat.le_trans hb (World.ownsRow.lt h k hk).1)
theorem OwnB.base {base base' : Nat} {w : World} {v : Value} {bs : List UInt8} (h : OwnB base w v bs) (hb : base' ≤ base) : OwnB base' w v bs :=
  ownsRow_base h (fun k hk => Nat.le_trans hb (World.ownsRow.lt h k hk).1)
theorem OwnI.nil_of {base : Nat} {w : World} {l : List It} (h : l = []) : OwnI base w (.slice none 0 0) l := by subst h; exact OwnI.nil _ _
set_option maxHeartbeats 1600000 in
theorem unseal_any {w : World} {v : Value} {bs : List UInt8} (h : ByC w v bs) (hcap : capOk v) (hlen : bs.length ≤ 140737488355328) : Calls Try.prog 82 #[v] w (ItRetE w.heap.size w (unsR bs) (unsE bs)) := by
  have ho := open_any h hcap hlen
  obtain ⟨ao, m, cap, hv, hm⟩ : ∃ ao m cap, v = .slice ao m cap ∧ Hid (m = bs.length) := by
    obtain ⟨ao, cap, hv, _⟩ := h
    exact ⟨ao, _, cap, hv, Lib.hid rfl⟩
  subst hv
  by_cases h0 : openE bs = 0
  · have e1 : unsE bs = decE (openR bs) := if_pos h0
    have e2 : unsR bs = decR (openR bs) := if_pos h0
    rw [e1, e2]
    rw [h0] at ho
    clear e1 e2 h0
    go_enter Try.func82, Try.ntmps82
    go_wp2_with fail
    refine ho.mono ?_
    rintro e w1 ⟨v1, rfl, h1, b1⟩
    have hd := decode_any h1.at h1.cap
    obtain ⟨ao1, m1, cap1, hv1, hm1⟩ := h1.form'
    subst hv1
    clear ho h1
    go_wp2_with fail
    refine hd.mono ?_
    rintro e w2 ⟨v2, rfl, h2, b2⟩
    obtain ⟨ao2, m2, cap2, hv2, hm2⟩ := h2.form'
    subst hv2
    clear hd
    go_wp2
    go_ret2
    exact ⟨_, rfl, h2.base b1.size, b1.trans (b2.mono b1.size)⟩
  · have e1 : unsE bs = openE bs := if_neg h0
    have e2 : unsR bs = [] := if_neg h0
    rw [e1, e2]
    have hq : (openE bs != 0) = true := by simpa using h0
    generalize openE bs = E at ho hq
    clear e1 e2 h0
    go_enter Try.func82, Try.ntmps82
    go_wp2_with fail
    refine ho.mono ?_
    rintro e w1 ⟨v1, rfl, h1, b1⟩
    obtain ⟨ao1, m1, cap1, hv1, hm1⟩ := h1.form'
    subst hv1
    clear ho h1
    go_wp2
    go_ret2
    exact ⟨_, rfl, OwnI.nil _ _, b1⟩

theorem shape_false_len {l : List It} {m : Int} {hd : Nat} (h : l.length < hd) : shapeB l m hd = false := by
  unfold shapeB
  rw [decide_eq_false (by omega)]; rfl
theorem shape_false_mark {l : List It} {m : Int} {hd : Nat} (h : (itAt l 0).n ≠ m) : shapeB l m hd = false := by
  unfold shapeB
  rw [show ((itAt l 0).n == m) = false by simpa using h]; simp
theorem shape_false_at {l : List It} {m : Int} {hd i : Nat} (hi : i < l.length) (h : (decide (i < hd)) ≠ ((itAt l i).k == 1)) : shapeB l m hd = false := by
  unfold shapeB
  rw [show ((List.range l.length).all fun i => (decide (i < hd)) == ((itAt l i).k == 1)) = false from ?_]
  · simp
  · rw [List.all_eq_false]
    exact ⟨i, List.mem_range.2 hi, by simpa using h⟩
theorem shape_true {l : List It} {m : Int} {hd : Nat} (h1 : hd ≤ l.length) (h2 : (itAt l 0).n = m) (h : ∀ i, i < l.length → (decide (i < hd)) = ((itAt l i).k == 1)) : shapeB l m hd = true := by
  unfold shapeB
  rw [decide_eq_true h1, show ((itAt l 0).n == m) = true by simpa using h2]
  simp only [Bool.and_self, Bool.true_and, List.all_eq_true, List.mem_range, beq_iff_eq]
  exact h
set_option maxHeartbeats 1600000 in
theorem shaped_any {w : World} {v : Value} {l : List It} (h : ItemsAt w.heap.size w v l) (mark : Int) (hd : Nat) (hd0 : 0 < hd) (hd9 : hd ≤ 9) : Calls Try.prog 83 #[v, .int .i64 mark, .int .i64 (hd : Int)] w fun e w' => e = .returned (.bool (shapeB l mark hd)) ∧ Below w.heap.size w w' := by
  obtain ⟨ao, m, cap, hv, hm⟩ : ∃ ao m cap, v = .slice ao m cap ∧ Hid (m = l.length) := by
    obtain ⟨ao, cap, hv, _⟩ := h
    exact ⟨ao, _, cap, hv, Lib.hid rfl⟩
  have hmb : m ≤ 9223372036854775807 := by rw [hm.out]; obtain ⟨_, _, _, _, hh, _⟩ := h; exact hh
  subst hv
  by_cases c1 : m < hd
  · have e0 := shape_false_len (l := l) (m := mark) (hd := hd) (by rw [← hm.out]; exact c1)
    rw [e0]
    clear e0
    have c1' : (m : Int) < (hd : Int) := by omega
    go_enter Try.func83, Try.ntmps83
    go_wp2
    go_ret
    exact ⟨rfl, Below.refl _ _⟩
  · have hl0 : 0 < l.length := by rw [← hm.out]; omega
    obtain ⟨ao', cap', hv', h1, h2, h3, h4⟩ := h
    obtain ⟨ea, -, ec⟩ := Value.slice.inj hv'
    subst ea
    subst ec
    clear hv'
    obtain ⟨b, off, rfl, hB, hc⟩ := h4 hl0
    have hn0 := (hc 0 hl0).2.1
    simp only [Nat.zero_mul, Nat.add_zero] at hn0
    have c1' : ¬ (m : Int) < (hd : Int) := by omega
    have hm0 : 0 < m := by omega
    by_cases c2 : (itAt l 0).n = mark
    · have hq : ((itAt l 0).n != mark) = false := by simpa using c2
      have C2 := Lib.hid c2
      generalize (itAt l 0).n = n0 at hn0 hq
      clear c2 h4
      go_enter Try.func83, Try.ntmps83
      go_wp2
      clear hn0 hq
      go_loopw [23] (fun iv wr => ∃ k : Nat, k ≤ m ∧ iv = .int .i64 k ∧ Below w.heap.size w wr ∧ Hid (∀ j, j < k → (decide (j < hd)) = ((itAt l j).k == 1))) (fun iv _ => m - (intOf iv).toNat)
      case atStart => exact ⟨0, Nat.zero_le _, rfl, Below.refl _ _, Lib.hid (fun j hj => by omega)⟩
      case round =>
        obtain ⟨k, hk, rfl, hbel, hall⟩ := hrel
        by_cases hlt : k < m
        · have hlt' : k < l.length := by rw [← hm.out]; exact hlt
          obtain ⟨d1, d2, d3⟩ := hc k hlt'
          have d1' := (hbel.cell (p := ⟨b, off + k * 3, none⟩) hB).trans d1
          have d2' := (hbel.cell (p := ⟨b, off + k * 3 + 1, none⟩) hB).trans d2
          have d3' := (hbel.cell (p := ⟨b, off + k * 3 + 2, none⟩) hB).trans d3
          have HB := hbel.alloc hbel.size (.cells #[.int .i64 (itAt l k).k, .int .i64 (itAt l k).n, .string (itAt l k).s] 114)
          generalize hx : itAt l k = x at d1' d2' d3' HB
          have HX := Lib.hid hx
          clear d1 d2 d3 hx hbel
          by_cases c3 : (k : Int) < (hd : Int)
          · by_cases c4 : x.k = 1
            · have hq : (x.k == 1) = true := by simpa using c4
              have H2 : Hid (∀ j, j < k + 1 → (decide (j < hd)) = ((itAt l j).k == 1)) := Lib.hid (fun j hj => by
                by_cases e : j = k
                · subst e; rw [HX.out, hq]; simp; omega
                · exact hall.out j (by omega))
              clear c4 hall
              go_wp2
              go_roundw
              case rel => exact ⟨k + 1, by omega, by go_num, HB, H2⟩
              case measure => simp [intOf]; omega
            · have hq : (x.k == 1) = false := by simpa using c4
              have H2 := Lib.hid (shape_false_at (l := l) (m := mark) (hd := hd) (i := k) hlt' (by rw [HX.out, hq]; simp; omega))
              clear c4 hall
              go_wp2
              go_ret
              exact ⟨by rw [H2.out]; rfl, HB⟩
          · by_cases c4 : x.k = 1
            · have hq : (x.k == 1) = true := by simpa using c4
              have H2 := Lib.hid (shape_false_at (l := l) (m := mark) (hd := hd) (i := k) hlt' (by rw [HX.out, hq]; simp; omega))
              clear c4 hall
              go_wp2
              go_ret
              exact ⟨by rw [H2.out]; rfl, HB⟩
            · have hq : (x.k == 1) = false := by simpa using c4
              have H2 : Hid (∀ j, j < k + 1 → (decide (j < hd)) = ((itAt l j).k == 1)) := Lib.hid (fun j hj => by
                by_cases e : j = k
                · subst e; rw [HX.out, hq]; simp; omega
                · exact hall.out j (by omega))
              clear c4 hall
              go_wp2
              go_roundw
              case rel => exact ⟨k + 1, by omega, by go_num, HB, H2⟩
              case measure => simp [intOf]; omega
        · have H2 := Lib.hid (shape_true (l := l) (m := mark) (hd := hd) (by rw [← hm.out]; omega) C2.out (fun i hi => hall.out i (by rw [← hm.out] at hi; omega)))
          clear hall
          go_wp2
          go_ret
          exact ⟨by rw [H2.out]; rfl, hbel⟩
    · have hq : ((itAt l 0).n != mark) = true := by simpa using c2
      have H2 := Lib.hid (shape_false_mark (l := l) (m := mark) (hd := hd) c2)
      generalize (itAt l 0).n = n0 at hn0 hq
      clear c2 h4 hc
      go_enter Try.func83, Try.ntmps83
      go_wp2
      go_ret
      exact ⟨by rw [H2.out]; rfl, Below.refl _ _⟩
end Go.Proofs.Ytbgefdigmdfalaa

/- The contracts of what must be of a record. No statement of the seat is proved here. -/
namespace Go.Proofs.Ytbgefdigmdfalaa
set_option maxRecDepth 20000
open Go.RowKit

/-! ### what must be -/
abbrev superV (g e t : Int) : Value := .agg #[.int .i64 g, .int .i64 e, .int .i64 t]
abbrev logVal (l : Lg) : Value := .agg #[.int .i64 l.kind, .int .i64 l.epoch, .int .i64 l.seq, .int .i64 l.tx, .int .i64 l.index, .int .i64 l.count, .int .i64 l.page, .string l.data]
abbrev homeV (p : Int) (d : ByteArray) : Value := .agg #[.int .i64 p, .string d]
theorem size_alloc (w : World) (o : Obj) : (w.alloc o).heap.size = w.heap.size + 1 := by simp
theorem strempty_eq (d : ByteArray) : d.toList.isEmpty = decide (d.size = 0) := by
  by_cases h : d.size = 0
  · rw [(size_list d).2 h, decide_eq_true h]; rfl
  · rw [decide_eq_false h]
    have : d.toList ≠ [] := fun e => h ((size_list d).1 e)
    simpa using this
set_option maxHeartbeats 1600000 in
theorem logFormed_any (l : Lg) (hl : l.ok) (w : World) : Calls Try.prog 66 #[logVal l] w fun x w' => x = .returned (.bool (logOk l)) ∧ Below w.heap.size w w' := by
  obtain ⟨_, _, _, _, _, _, _, hd⟩ := hl
  unfold maxLen at hd
  obtain ⟨a, b, c, d, e, f, g, s⟩ := l
  have hi := intc_new (w.alloc (.cells #[.int .i64 a, .int .i64 b, .int .i64 c, .int .i64 d, .int .i64 e, .int .i64 f, .int .i64 g, .string s] 87)) [b, c, d, e, f, g] (by simp)
  have hf := fromNought_any hi
  have BB : Below w.heap.size w ((w.alloc (.cells #[.int .i64 a, .int .i64 b, .int .i64 c, .int .i64 d, .int .i64 e, .int .i64 f, .int .i64 g, .string s] 87)).alloc (.cells #[.int .i64 b, .int .i64 c, .int .i64 d, .int .i64 e, .int .i64 f, .int .i64 g] 3)) := (below_new w _).trans ((below_new _ _).mono (by simp))
  rw [size_alloc] at hf
  clear hi
  by_cases h1 : 0 ≤ b ∧ 0 ≤ c ∧ 0 ≤ d ∧ 0 ≤ e ∧ 0 ≤ f ∧ 0 ≤ g
  · have hx : allNat [b, c, d, e, f, g] = true := by simp only [allNat, List.all_cons, List.all_nil, Bool.and_true, Bool.and_eq_true, decide_eq_true_eq]; omega
    rw [hx] at hf
    clear hx
    by_cases h2 : a = 1
    · subst h2
      by_cases h3 : (s.size : Int) ≤ 160
      · have hz := decide_eq_true h3
        have he : logOk ⟨1, b, c, d, e, f, g, s⟩ = true := by unfold logOk; rw [decide_eq_true]; exact ⟨h1, .inl ⟨rfl, by simp only; omega⟩⟩
        rw [he]
        clear he h1
        go_enter Try.func66, Try.ntmps66
        go_wp2_with fail
        refine Calls.mono hf ?_
        rintro e _ ⟨rfl, rfl⟩
        clear hf
        go_wp2
        go_ret
        exact ⟨by first | rfl | (rw [hz]; rfl), BB⟩
      · have hz := decide_eq_false h3
        have he : logOk ⟨1, b, c, d, e, f, g, s⟩ = false := by unfold logOk; rw [decide_eq_false]; simp only; omega
        rw [he]
        clear he h1
        go_enter Try.func66, Try.ntmps66
        go_wp2_with fail
        refine Calls.mono hf ?_
        rintro e _ ⟨rfl, rfl⟩
        clear hf
        go_wp2
        go_ret
        exact ⟨by first | rfl | (rw [hz]; rfl), BB⟩
    · have h2' : (a == 1) = false := by simpa using h2
      by_cases h3 : a = 2
      · subst h3
        by_cases h4 : g = 0
        · subst h4
          have hs := strempty_eq s
          by_cases h5 : s.size = 0
          · have he : logOk ⟨2, b, c, d, e, f, 0, s⟩ = true := by unfold logOk; rw [decide_eq_true]; exact ⟨h1, .inr ⟨rfl, rfl, h5⟩⟩
            rw [he]
            rw [decide_eq_true h5] at hs
            clear he h1 h5
            go_enter Try.func66, Try.ntmps66
            go_wp2_with fail
            refine Calls.mono hf ?_
            rintro e _ ⟨rfl, rfl⟩
            clear hf
            go_wp2
            go_ret
            exact ⟨by first | rfl | (rw [hs]; rfl), BB⟩
          · have he : logOk ⟨2, b, c, d, e, f, 0, s⟩ = false := by unfold logOk; rw [decide_eq_false]; simp only; omega
            rw [he]
            rw [decide_eq_false h5] at hs
            clear he h1 h5
            go_enter Try.func66, Try.ntmps66
            go_wp2_with fail
            refine Calls.mono hf ?_
            rintro e _ ⟨rfl, rfl⟩
            clear hf
            go_wp2
            go_ret
            exact ⟨by first | rfl | (rw [hs]; rfl), BB⟩
        · have he : logOk ⟨2, b, c, d, e, f, g, s⟩ = false := by unfold logOk; rw [decide_eq_false]; simp only; omega
          rw [he]
          have h4' : (g == 0) = false := by simpa using h4
          clear he h1 h4
          go_enter Try.func66, Try.ntmps66
          go_wp2_with fail
          refine Calls.mono hf ?_
          rintro e _ ⟨rfl, rfl⟩
          clear hf
          go_wp2
          go_ret
          exact ⟨rfl, BB⟩
      · have h3' : (a == 2) = false := by simpa using h3
        have he : logOk ⟨a, b, c, d, e, f, g, s⟩ = false := by unfold logOk; rw [decide_eq_false]; simp only; omega
        rw [he]
        clear he h1 h2 h3
        go_enter Try.func66, Try.ntmps66
        go_wp2_with fail
        refine Calls.mono hf ?_
        rintro e _ ⟨rfl, rfl⟩
        clear hf
        go_wp2
        go_ret
        exact ⟨rfl, BB⟩
  · have hx : allNat [b, c, d, e, f, g] = false := by
      rw [← Bool.not_eq_true]
      simp only [allNat, List.all_cons, List.all_nil, Bool.and_true, Bool.and_eq_true, decide_eq_true_eq]; omega
    rw [hx] at hf
    have he : logOk ⟨a, b, c, d, e, f, g, s⟩ = false := by unfold logOk; rw [decide_eq_false]; simp only; omega
    rw [he]
    clear he hx h1
    go_enter Try.func66, Try.ntmps66
    go_wp2_with fail
    refine Calls.mono hf ?_
    rintro e _ ⟨rfl, rfl⟩
    clear hf
    go_wp2
    go_ret
    exact ⟨rfl, BB⟩
end Go.Proofs.Ytbgefdigmdfalaa

/- The contract of record's unsector. No statement of the seat is proved here. -/
namespace Go.Proofs.Ytbgefdigmdfalaa
set_option maxRecDepth 20000
open Go.RowKit

theorem unR_length (bs : List UInt8) : (unR bs).length ≤ 60000 := by
  unfold unR
  split
  · rename_i h
    unfold unOk at h
    simp only [Bool.and_eq_true, decide_eq_true_eq] at h
    rw [List.length_take, List.length_drop]; omega
  · simp
set_option maxHeartbeats 400000 in
theorem unsector_any {w : World} {v : Value} {bs : List UInt8} (h : ByC w v bs) (hcap : capOk v) (mark hi ti : Int) (hd t : Nat) (hhi : hi = hd) (hti : ti = t) (hd0 : 0 < hd) (hd9 : hd ≤ 9) (ht9 : t ≤ 9) : Calls Try.prog 72 #[v, .int .i64 mark, .int .i64 hi, .int .i64 ti] w (ItRetE w.heap.size w (secR bs mark hd t) (secE bs mark hd t)) := by
  have hu := unframe_any h hcap
  obtain ⟨ao, m, cap, hv, hm⟩ : ∃ ao m cap, v = .slice ao m cap ∧ Hid (m = bs.length) := by
    obtain ⟨ao, cap, hv, _⟩ := h
    exact ⟨ao, _, cap, hv, Lib.hid rfl⟩
  have hmb : m ≤ 9223372036854775807 := by rw [hm.out]; obtain ⟨_, _, _, hh⟩ := h.form; exact hh
  subst hv
  subst hhi
  subst hti
  by_cases h0 : unE bs = 0
  · have hul := unR_length bs
    by_cases h1 : unsE (unR bs) = 0
    · have e1 : secE bs mark hd t = if secOk bs mark hd t then 0 else 2 := by unfold secE; rw [h0, h1]; simp
      rw [h0] at hu
      have hok := (unsE_zero h1).2.2
      by_cases c1 : m = 256
      · subst c1
        by_cases c2 : (unsR (unR bs)).length = hd + t
        · have e2 : secOk bs mark hd t = shapeB (unsR (unR bs)) mark hd := by unfold secOk; rw [← hm.out, c2]; simp
          have e3 : secR bs mark hd t = if shapeB (unsR (unR bs)) mark hd then unsR (unR bs) else [] := by
            unfold secR; rw [e1, e2]; cases shapeB (unsR (unR bs)) mark hd <;> rfl
          have H1 := Lib.hid h1
          have C2 := Lib.hid c2
          clear h0 h1 c2
          cases hsb : shapeB (unsR (unR bs)) mark hd
          all_goals
            rw [hsb] at e2 e3
            rw [e1, e2, e3]
            have HSB := Lib.hid hsb
            clear e1 e2 e3 hsb
            go_enter Try.func72, Try.ntmps72
            go_wp2_with fail
            refine hu.mono ?_
            rintro e w1 ⟨v1, rfl, h1, b1⟩
            have hs := unseal_any h1.at h1.cap (Nat.le_trans hul (by decide))
            rw [H1.out] at hs
            obtain ⟨ao1, m1, cap1, hv1, hm1⟩ := h1.form'
            subst hv1
            clear hu h1
            go_wp2_with fail
            refine hs.mono ?_
            rintro e w2 ⟨v2, rfl, h2, b2⟩
            have bb2 := b1.trans (b2.mono b1.size)
            have hsh := shaped_any (h2.items hok) mark hd hd0 hd9
            rw [HSB.out] at hsh
            obtain ⟨ao2, cap2, hv2, _, _⟩ := h2.form
            rw [C2.out] at hv2
            have h2' := h2
            subst hv2
            have hq : (((hd + t : Nat) : Int) != (hd : Int) + (t : Int)) = false := by simp
            clear hs h2
            go_wp2_with fail
            refine hsh.mono ?_
            rintro e w3 ⟨rfl, b3⟩
            have bb3 := bb2.trans (b3.mono bb2.size)
            have h3 := (h2'.below b3).base b1.size
            clear hsh
            go_wp2
            go_ret2
            first | exact ⟨_, rfl, OwnI.nil _ _, bb3⟩ | exact ⟨_, rfl, h3, bb3⟩
        · have e2 : secOk bs mark hd t = false := by unfold secOk; rw [decide_eq_false c2]; simp
          have e3 : secR bs mark hd t = [] := by unfold secR; rw [e1, e2]; rfl
          rw [e1, e2, e3]
          have H1 := Lib.hid h1
          have C2 := Lib.hid c2
          clear e1 e2 e3 h0 h1 c2
          go_enter Try.func72, Try.ntmps72
          go_wp2_with fail
          refine hu.mono ?_
          rintro e w1 ⟨v1, rfl, h1, b1⟩
          have hs := unseal_any h1.at h1.cap (Nat.le_trans hul (by decide))
          rw [H1.out] at hs
          obtain ⟨ao1, m1, cap1, hv1, hm1⟩ := h1.form'
          subst hv1
          clear hu h1
          go_wp2_with fail
          refine hs.mono ?_
          rintro e w2 ⟨v2, rfl, h2, b2⟩
          have bb2 := b1.trans (b2.mono b1.size)
          obtain ⟨ao2, m2, cap2, hv2, hm2⟩ := h2.form'
          subst hv2
          have hq : ((m2 : Int) != (hd : Int) + (t : Int)) = true := by
            have := hm2.out
            have := C2.out
            simp; omega
          have hml : m2 ≤ 9223372036854775807 := by
            have := h2.form
            obtain ⟨_, _, hx, _, hy⟩ := this
            have := hm2.out
            unfold maxLen at hy
            omega
          clear hs h2
          go_wp2
          go_ret2
          exact ⟨_, rfl, OwnI.nil _ _, bb2⟩
      · have e2 : secOk bs mark hd t = false := by unfold secOk; rw [decide_eq_false (by rw [← hm.out]; exact c1)]; simp
        have e3 : secR bs mark hd t = [] := by unfold secR; rw [e1, e2]; rfl
        rw [e1, e2, e3]
        have H1 := Lib.hid h1
        have hq : ((m : Int) != 256) = true := by simp; omega
        clear e1 e2 e3 h0 h1 c1
        go_enter Try.func72, Try.ntmps72
        go_wp2_with fail
        refine hu.mono ?_
        rintro e w1 ⟨v1, rfl, h1, b1⟩
        have hs := unseal_any h1.at h1.cap (Nat.le_trans hul (by decide))
        rw [H1.out] at hs
        obtain ⟨ao1, m1, cap1, hv1, hm1⟩ := h1.form'
        subst hv1
        clear hu h1
        go_wp2_with fail
        refine hs.mono ?_
        rintro e w2 ⟨v2, rfl, h2, b2⟩
        have bb2 := b1.trans (b2.mono b1.size)
        obtain ⟨ao2, m2, cap2, hv2, hm2⟩ := h2.form'
        subst hv2
        clear hs h2
        go_wp2
        go_ret2
        exact ⟨_, rfl, OwnI.nil _ _, bb2⟩
    · have e1 : secE bs mark hd t = unsE (unR bs) := by unfold secE; rw [h0]; simp [h1]
      have e3 : secR bs mark hd t = [] := by unfold secR; rw [e1, if_neg h1]
      rw [e1, e3]
      rw [h0] at hu
      have hq : (unsE (unR bs) != 0) = true := by simpa using h1
      clear e1 e3 h0 h1
      generalize hEq : unsE (unR bs) = E at hq ⊢
      have HEQ := Lib.hid hEq
      clear hEq
      go_enter Try.func72, Try.ntmps72
      go_wp2_with fail
      refine hu.mono ?_
      rintro e w1 ⟨v1, rfl, h1, b1⟩
      have hs := unseal_any h1.at h1.cap (Nat.le_trans hul (by decide))
      rw [HEQ.out] at hs
      obtain ⟨ao1, m1, cap1, hv1, hm1⟩ := h1.form'
      subst hv1
      clear hu h1
      go_wp2_with fail
      refine hs.mono ?_
      rintro e w2 ⟨v2, rfl, h2, b2⟩
      have bb2 := b1.trans (b2.mono b1.size)
      obtain ⟨ao2, m2, cap2, hv2, hm2⟩ := h2.form'
      subst hv2
      clear hs h2
      go_wp2
      go_ret2
      exact ⟨_, rfl, OwnI.nil _ _, bb2⟩
  · have e1 : secE bs mark hd t = unE bs := by unfold secE; simp [h0]
    have e3 : secR bs mark hd t = [] := by unfold secR; rw [e1, if_neg h0]
    rw [e1, e3]
    have hq : (unE bs != 0) = true := by simpa using h0
    generalize unE bs = E at hq hu
    clear e1 e3 h0
    go_enter Try.func72, Try.ntmps72
    go_wp2_with fail
    refine hu.mono ?_
    rintro e w1 ⟨v1, rfl, h1, b1⟩
    obtain ⟨ao1, m1, cap1, hv1, hm1⟩ := h1.form'
    subst hv1
    clear hu h1
    go_wp2
    go_ret2
    exact ⟨_, rfl, OwnI.nil _ _, b1⟩

end Go.Proofs.Ytbgefdigmdfalaa

/- The contracts of EncodeSuper, EncodeLog, EncodeHome. No statement of the seat is proved here. -/
namespace Go.Proofs.Ytbgefdigmdfalaa
set_option maxRecDepth 20000
open Go.RowKit

theorem cell_new (w : World) (cs : Array Value) (t : TypeId) (j : Nat) (u : Value) (h : cs[j]? = some u) : (w.alloc (.cells cs t)).cell? ⟨w.heap.size, j, none⟩ = some u := by
  rw [cell_of_row _ _ _ _ _ _ (heap_alloc_new w _)]; exact h
theorem OwnB.base' {b b' : Nat} {w : World} {v : Value} {bs : List UInt8} (h : OwnB b w v bs) (hb : b' ≤ b) : OwnB b' w v bs :=
  ownsRow_base h (fun k hk => Nat.le_trans hb (World.ownsRow.lt h k hk).1)
section
variable {P : Program} {w w1 : World}
theorem exec_append3 {ρ : Operand → Value} {o : Oper} {t u : TypeId} {s x : Operand} {v0 v1 v : Value} (ho : o.op = .call { callee := .builtin .append, args := #[s, x], argTypes := #[t, u] }) (hs : ρ s = v0) (hx : ρ x = v1)
    (hrun : (Builtin.append_ #[t, u] o.type #[v0, v1]).run P w = .ok v w1) : (execOp ρ o).run P w = .ok (.value v) w1 := by
  unfold execOp
  simp only [ho, resolve, invoke, builtin, Sem.run_bind, Sem.run_pure, Result.andThen_ok, List.map_toArray, List.map_cons, List.map_nil, hs, hx, hrun]
theorem exec_b1 {ρ : Operand → Value} {o : Oper} {t : TypeId} {x : Operand} {u v : Value} (ho : o.op = .buildSlice t 1 #[(0, x)]) (hx : ρ x = u) (hrun : (Instr.buildSlice t 1 #[(0, u)]).run P w = .ok v w1) : (execOp ρ o).run P w = .ok (.value v) w1 := by
  unfold execOp
  simp [ho, hx, hrun]
theorem exec_b2 {ρ : Operand → Value} {o : Oper} {t : TypeId} {x y : Operand} {u u' v : Value} (ho : o.op = .buildSlice t 2 #[(0, x), (1, y)]) (hx : ρ x = u) (hy : ρ y = u') (hrun : (Instr.buildSlice t 2 #[(0, u), (1, u')]).run P w = .ok v w1) : (execOp ρ o).run P w = .ok (.value v) w1 := by
  unfold execOp
  simp [ho, hx, hy, hrun]
end
def esupE (g e t : Int) : Int := if superOk g e t then 0 else 2
def esupR (g e t : Int) : List UInt8 := if superOk g e t then sectB (superI g e t) else []
def elogE (l : Lg) : Int := if logOk l then 0 else 2
def elogR (l : Lg) : List UInt8 := if logOk l then sectB (logI l) else []
theorem txt_build (w : World) (s : ByteArray) : (Instr.buildSlice 115 1 #[(0, .agg #[.int .i64 2, .int .i64 0, .string s])]).run Try.prog w = .ok (.slice (some ⟨w.heap.size, 0, none⟩) 1 1) (w.alloc (.cells #[.int .i64 2, .int .i64 0, .string s] 114)) := build_slice_one w (txtI s)
set_option maxHeartbeats 1600000 in
theorem encodeLog_any (l : Lg) (hl : l.ok) (w : World) : Calls Try.prog 57 #[logVal l] w (OwnRetE w.heap.size w (elogR l) (elogE l)) := by
  have hf := logFormed_any l hl (w.alloc (.cells #[.int .i64 l.kind, .int .i64 l.epoch, .int .i64 l.seq, .int .i64 l.tx, .int .i64 l.index, .int .i64 l.count, .int .i64 l.page, .string l.data] 87))
  have hs0 : logOk l = true → l.data.size ≤ 160 := logOk_size
  have hok := logI_ok hl
  have hin : ∀ z ∈ [(2 : Int), l.kind, l.epoch, l.seq, l.tx, l.index, l.count, l.page], inI z := by
    obtain ⟨h1, h2, h3, h4, h5, h6, h7, h8⟩ := hl
    intro z hz; simp only [List.mem_cons, List.not_mem_nil, or_false] at hz
    rcases hz with rfl | rfl | rfl | rfl | rfl | rfl | rfl | rfl <;> first | assumption | exact ⟨by decide, by decide⟩
  have hd8 : l.data.size ≤ maxLen := hl.2.2.2.2.2.2.2
  clear hl
  unfold elogR elogE
  cases hs : logOk l
  · rw [hs] at hf
    clear hs hs0 hok hin
    obtain ⟨a, b, c, d, e, f, g, s⟩ := l
    have B0 := below_new w (.cells #[.int .i64 a, .int .i64 b, .int .i64 c, .int .i64 d, .int .i64 e, .int .i64 f, .int .i64 g, .string s] 87)
    go_enter Try.func57, Try.ntmps57
    go_wp2_with fail
    refine Calls.mono hf ?_
    rintro x w1 ⟨rfl, b1⟩
    clear hf
    go_wp2
    go_ret2
    exact ⟨_, rfl, OwnB.nil _ _, B0.trans (b1.mono B0.size)⟩
  · rw [hs] at hf
    have hsz := hs0 hs
    have hE := encE_log hsz
    have hP : (packB (logI l)).length ≤ 250 := by rw [logI_len]; omega
    have hsp : logI l = [2, l.kind, l.epoch, l.seq, l.tx, l.index, l.count, l.page].map numI ++ [txtI l.data] := rfl
    clear hs hs0 hsz
    generalize hL : logI l = L at *
    obtain ⟨a, b, c, d, e, f, g, s⟩ := l
    simp only at hsp hd8 hin
    have B0 := below_new w (.cells #[.int .i64 a, .int .i64 b, .int .i64 c, .int .i64 d, .int .i64 e, .int .i64 f, .int .i64 g, .string s] 87)
    have c0 := fun j u h => cell_new w #[.int .i64 a, .int .i64 b, .int .i64 c, .int .i64 d, .int .i64 e, .int .i64 f, .int .i64 g, .string s] 87 j u h
    have HO := Lib.hid hok
    have HI := Lib.hid hin
    clear hok hin hL
    go_enter Try.func57, Try.ntmps57
    go_wp2_with fail
    refine Calls.mono hf ?_
    rintro x w1 ⟨rfl, b1⟩
    have d0 := fun j u h => (b1.cell (p := ⟨w.heap.size, j, none⟩) (by simp)).trans (c0 j u h)
    have e0 := d0 0 _ rfl
    have e1 := d0 1 _ rfl
    have e2 := d0 2 _ rfl
    have e3 := d0 3 _ rfl
    have e4 := d0 4 _ rfl
    have e5 := d0 5 _ rfl
    have e6 := d0 6 _ rfl
    have e7 := d0 7 _ rfl
    have BB := B0.trans (b1.mono B0.size)
    have hn := numbers_any (intc_new w1 [2, a, b, c, d, e, f, g] (by simp)) HI.out
    have b2 := below_new w1 (.cells #[.int .i64 2, .int .i64 a, .int .i64 b, .int .i64 c, .int .i64 d, .int .i64 e, .int .i64 f, .int .i64 g] 3)
    have B2 := BB.trans (b2.mono BB.size)
    have hw1 : w.heap.size < w1.heap.size := by have := b1.size; simp at this; omega
    clear hf c0 b1 B0 BB d0
    go_wp2_with fail
    refine Calls.mono hn ?_
    rintro x w2 ⟨v2, rfl, h4, b3⟩
    have e7' := (((b2.trans (b3.mono b2.size)).cell (p := ⟨w.heap.size, 7, none⟩) hw1)).trans e7
    have B3 := B2.trans (b3.mono B2.size)
    have h4 := h4.base B2.size
    have ht := textOf_any s w2
    obtain ⟨ao, m, cap, hv, hm⟩ := h4.form'
    subst hv
    clear hn b2 b3 e0 e1 e2 e3 e4 e5 e6 e7 B2
    go_wp2_with fail
    refine Calls.mono ht ?_
    rintro x w3 ⟨rfl, b4⟩
    have B4 := B3.trans (b4.mono B3.size)
    have hbs := txt_build w3 s
    have hit := items_one w3 (txtI s) (txtI_ok hd8)
    have h5 := (h4.below b4).alloc (.cells #[.int .i64 2, .int .i64 0, .string s] 114)
    have B5 := B4.alloc B4.size (.cells #[.int .i64 2, .int .i64 0, .string s] 114)
    obtain ⟨v6, w6, hr6, h6, b6, s6⟩ := own_append_items h5 hit (by simp) B5.size 115
    have B6 := B5.trans b6
    rw [← hsp] at h6
    have hsec := sector_any (h6.items HO.out) hE hP
    obtain ⟨ao6, m6, cap6, hv6, hm6⟩ := h6.form'
    subst hv6
    have HR6 := Lib.hid hr6
    clear ht hr6 h6 h5 h4 hit b4 b6 s6 hsp
    go_wp2_with (with_reducible refine wpList_append_eq rfl (.tmp 24) (.tmp 28) 115 115 rfl (.slice ao m cap) (.slice (some ⟨w3.heap.size, 0, none⟩) 1 1) (.slice ao6 m6 cap6) rfl rfl HR6.out ?_)
    refine Calls.mono hsec ?_
    rintro x w7 ⟨v7, rfl, h7, b7⟩
    have B7 := B6.trans (b7.mono B6.size)
    obtain ⟨ao7, m7, cap7, hv7, hm7⟩ := h7.form'
    subst hv7
    clear hsec
    go_wp2
    go_ret2
    exact ⟨_, rfl, h7.base' B6.size, B7⟩
def ehomE (p : Int) (d : ByteArray) : Int := if homeOk p d then 0 else 2
def ehomR (p : Int) (d : ByteArray) : List UInt8 := if homeOk p d then sectB (homeI p d) else []
end Go.Proofs.Ytbgefdigmdfalaa

/- The contracts of DecodeSuper, DecodeLog, DecodeHome. No statement of the seat is proved here. -/
namespace Go.Proofs.Ytbgefdigmdfalaa
set_option maxRecDepth 20000
open Go.RowKit

theorem below_setRow {B : Nat} {a w : World} (h : Below B a w) {g : Nat} (hg : B ≤ g) (cs : Array Value) : Below B a (w.setRow g cs) :=
  ⟨h.os, h.tape, h.output, by have := h.size; simpa using this, fun k hk => by rw [setRow_other w g k cs (by omega)]; exact h.block k hk⟩
theorem exec_store_row {P : Program} {w : World} {ρ : Operand → Value} {o : Oper} {ty : TypeId} {x y : Operand} {g : Nat} {cells old : Array Value} {t : TypeId} (ho : o.op = .store ty x y) (hx : ρ x = .pointer (some ⟨g, 0, none⟩)) (hy : ρ y = .agg cells)
    (hg : w.heap[g]? = some (.cells old t (0, 0))) (hi : (P.info? ty).map (·.size) = some cells.size) (hold : old.size = cells.size) (h1 : cells.all (·.oneCell') = true) : (execOp ρ o).run P w = .ok .skip (w.setRow g cells) := by
  unfold execOp
  simp only [ho, hx, hy, Instr.storeAt, Instr.sureAddr, Sem.run_bind, Sem.run_pure, Result.andThen_ok, run_storeVar_row w g t ty old cells hg hi hold h1]
def StoreOk (ty : TypeId) (old cs : Array Value) : Prop := (Try.prog.info? ty).map (·.size) = some cs.size ∧ old.size = cs.size ∧ cs.all (·.oneCell') = true
theorem wpList_store_row2 {ops : Array Oper} {rest : List Oper} {o : Oper} {a : Act} {w : World} {Q : Exit → Act → World → Prop} (hgd : o.guard = none) (ty : TypeId) (x y : Operand) (ho : o.op = .store ty x y)
    (g : Nat) (cells : Array Value) (hx : a.eval x = .pointer (some ⟨g, 0, none⟩)) (hy : a.eval y = .agg cells) (t : TypeId) (old : Array Value) (hg : w.heap[g]? = some (.cells old t (0, 0))) (hs : StoreOk ty old cells)
    (h : wpList Try.prog ops Q rest (a.put o.dst undef) (w.setRow g cells)) : wpList Try.prog ops Q (o :: rest) a w :=
  Go.wpList_store_row hgd ty x y ho g cells hx hy t old hg hs.1 hs.2.1 hs.2.2 h
theorem wpAnyH_one_skip' {P : Program} {md : Region.Mode} {ops : Array Oper} {Q : Exit → Act → World → Prop} {S : World → Prop} {fuel : Nat} {L : Array Bool} {a : Act} {w w1 : World} (i : Nat) {o : Oper} (hi : ops[i]? = some o) (hr : Region.ready md ops L = [i]) (hw : Region.wanted o (yielded ops a.tmps) = true)
    (hy : (execOp a.eval o).run P w = .ok .skip w1) (hS : S w1) (h : wpAnyH P md ops Q S fuel (L.setIfInBounds i true) (a.put o.dst undef) w1) : wpAnyH P md ops Q S (fuel + 1) L a w := by
  refine wpAnyH_ready hr (by simp) (AllReadyH.cons hi (fun K hK => ?_) AllReadyH.nil)
  rw [if_pos hw]
  unfold Oper.wp
  rw [hy]; exact hK.out _ _ hS (fun _ => h)
theorem exec_alloc_row {P : Program} {w : World} {ρ : Operand → Value} {o : Oper} {ty : TypeId} {z : Array Value} (ho : o.op = .alloc ty) (hz : ∀ w, (zeroValue ty).run P w = .ok (.agg z) w) : (execOp ρ o).run P w = .ok (.value (.pointer (some ⟨w.heap.size, 0, none⟩))) (w.alloc (.cells z ty)) := by
  unfold execOp
  simp [ho, Instr.alloc, newVar, newRow, Value.cells, hz, go_sem]

theorem exec_indexAddr3r {P : Program} {w : World} {ρ : Operand → Value} {o : Oper} {t e : TypeId} {x ix : Operand} {b off len cap : Nat} {k : Nat} (ho : o.op = .indexAddr t x ix) (hx : ρ x = .slice (some ⟨b, off, none⟩) len cap) (hi : ρ ix = .int .i64 k) (hk : k < len)
    (hu : P.underlying t = some (.slice e)) (hs : (P.info? e).map (·.size) = some 3) : (execOp ρ o).run P w = .ok (.value (.pointer (some ⟨b, off + k * 3, none⟩))) w := by
  cases hq : P.info? e with
  | none => simp [hq] at hs
  | some i =>
    have h1 : i.size = 3 := by simpa [hq] using hs
    have e1 : (0 : Int) ≤ (k : Int) ∧ (k : Int) < (len : Int) := by omega
    have e2 : (⟨b, off, none⟩ : Addr).add (k * 3) = ⟨b, off + k * 3, none⟩ := by unfold Addr.add; split <;> simp_all
    unfold execOp
    simp [ho, hx, hi, Instr.indexAt, asIntOf, run_underlying hu, hk, sizeOf, typeInfo, hq, h1, e2]
theorem szItemR : (Try.prog.info? 114).map (·.size) = some 3 := by kernel_rfl
theorem zeroLog (w : World) : (zeroValue 87).run Try.prog w = .ok (.agg #[.int .i64 0, .int .i64 0, .int .i64 0, .int .i64 0, .int .i64 0, .int .i64 0, .int .i64 0, .string ⟨#[]⟩]) w := (zero_of_info (n := 8) (by kernel_rfl)).1 w
set_option maxRecDepth 20000 in
set_option maxHeartbeats 3200000 in
theorem decodeLog_any {w : World} {v : Value} {bs : List UInt8} (h : ByC w v bs) (hcap : capOk v) : Calls Try.prog 63 #[v] w fun e w' => e = .returned (.tuple #[logVal (logV bs), .int .i64 (logE bs)]) ∧ Below w.heap.size w w' := by
  have B0 := below_new w (.cells #[.int .i64 0, .int .i64 0, .int .i64 0, .int .i64 0, .int .i64 0, .int .i64 0, .int .i64 0, .string ⟨#[]⟩] 87)
  have hg0 := heap_alloc_new w (.cells #[.int .i64 0, .int .i64 0, .int .i64 0, .int .i64 0, .int .i64 0, .int .i64 0, .int .i64 0, .string ⟨#[]⟩] 87)
  have hb0 : ∀ w, (Instr.build 87 #[]).run Try.prog w = .ok (.agg #[.int .i64 0, .int .i64 0, .int .i64 0, .int .i64 0, .int .i64 0, .int .i64 0, .int .i64 0, .string ⟨#[]⟩]) w := fun w => run_build w 87 _ _ (by kernel_rfl)
  have hu := unsector_any (h.below B0) hcap 2 8 1 8 1 rfl rfl (by decide) (by decide) (by decide)
  obtain ⟨ao, m, cap, hv, hm⟩ : ∃ ao m cap, v = .slice ao m cap ∧ Hid (m = bs.length) := by
    obtain ⟨ao, cap, hv, _⟩ := h
    exact ⟨ao, _, cap, hv, Lib.hid rfl⟩
  subst hv
  by_cases c1 : secE bs 2 8 1 = 0
  · obtain ⟨k1, k2, k3, k4, k5, k6⟩ := secE_zero c1
    have e1 : logE bs = if logOk (lgOf (secR bs 2 8 1)) then 0 else 2 := by unfold logE; rw [if_pos c1]
    rw [c1] at hu
    have g1 : logV bs = if logE bs = 0 then lgOf (secR bs 2 8 1) else lgNone := rfl
    have G1 := Lib.hid g1
    clear g1
    have HE1 := Lib.hid e1
    have K5 := Lib.hid k5
    clear k1 k3 k4 k6 e1 c1
    generalize secR bs 2 8 1 = l at *
    clear h
    go_enter Try.func63, Try.ntmps63
    go_wp2_with fail
    refine Calls.mono hu ?_
    rintro e w2 ⟨v2, rfl, h2, b2⟩
    have hg2 := (b2.block w.heap.size (by simp)).trans hg0
    have hws : w.heap.size < w2.heap.size := by have := b2.size; simp at this; omega
    have B2 := B0.trans (b2.mono B0.size)
    have hit := h2.items K5.out
    obtain ⟨ao2, cap2, hv2, hc2, hl2, -, hcells⟩ := hit
    rw [k2] at hv2 hcells
    obtain ⟨b, off, rfl, hB, hc⟩ := hcells (by decide)
    subst hv2
    have d1 : w2.cell? ⟨b, off + 1 * 3 + 1, none⟩ = some (.int .i64 (itAt l 1).n) := (hc 1 (by decide)).2.1
    have d2 : w2.cell? ⟨b, off + 2 * 3 + 1, none⟩ = some (.int .i64 (itAt l 2).n) := (hc 2 (by decide)).2.1
    have d3 : w2.cell? ⟨b, off + 3 * 3 + 1, none⟩ = some (.int .i64 (itAt l 3).n) := (hc 3 (by decide)).2.1
    have d4 : w2.cell? ⟨b, off + 4 * 3 + 1, none⟩ = some (.int .i64 (itAt l 4).n) := (hc 4 (by decide)).2.1
    have d5 : w2.cell? ⟨b, off + 5 * 3 + 1, none⟩ = some (.int .i64 (itAt l 5).n) := (hc 5 (by decide)).2.1
    have d6 : w2.cell? ⟨b, off + 6 * 3 + 1, none⟩ = some (.int .i64 (itAt l 6).n) := (hc 6 (by decide)).2.1
    have d7 : w2.cell? ⟨b, off + 7 * 3 + 1, none⟩ = some (.int .i64 (itAt l 7).n) := (hc 7 (by decide)).2.1
    have d8 : w2.cell? ⟨b, off + 8 * 3 + 2, none⟩ = some (.string (itAt l 8).s) := (hc 8 (by decide)).2.2
    have o1 := (itAt_ok K5.out (show 1 < l.length by omega)).2.1
    have o2 := (itAt_ok K5.out (show 2 < l.length by omega)).2.1
    have o3 := (itAt_ok K5.out (show 3 < l.length by omega)).2.1
    have o4 := (itAt_ok K5.out (show 4 < l.length by omega)).2.1
    have o5 := (itAt_ok K5.out (show 5 < l.length by omega)).2.1
    have o6 := (itAt_ok K5.out (show 6 < l.length by omega)).2.1
    have o7 := (itAt_ok K5.out (show 7 < l.length by omega)).2.1
    have o8 := (itAt_ok K5.out (show 8 < l.length by omega)).2.2
    generalize hx1 : (itAt l 1).n = x1 at d1 o1
    generalize hx2 : (itAt l 2).n = x2 at d2 o2
    generalize hx3 : (itAt l 3).n = x3 at d3 o3
    generalize hx4 : (itAt l 4).n = x4 at d4 o4
    generalize hx5 : (itAt l 5).n = x5 at d5 o5
    generalize hx6 : (itAt l 6).n = x6 at d6 o6
    generalize hx7 : (itAt l 7).n = x7 at d7 o7
    generalize hx8 : (itAt l 8).s = x8 at d8 o8
    clear hu hc hcells h2 b2 hg0
    go_wp2_with fail
    have hS : Below w2.heap.size w2 w2.drew := (Below.refl _ _).drew
    have hgD : w2.drew.heap[w.heap.size]? = some (.cells #[.int .i64 0, .int .i64 0, .int .i64 0, .int .i64 0, .int .i64 0, .int .i64 0, .int .i64 0, .string ⟨#[]⟩] 87 (0, 0)) := hg2
    refine wp_region_held_drew (S := fun w' => Below w2.heap.size w2 w') mixed hS (fun _ => ?_)
    show wpAnyH _ _ _ _ _ 35 (Array.replicate 35 false) _ _
    refine wpAnyH_take_d 0 (some 16) (.slice (some ⟨b, off, none⟩) 9 cap2) rfl (by kernel_rfl) (by kernel_rfl) (by kernel_rfl) (by kernel_rfl) rfl (fun _ _ _ h => h) (fun _ _ => by kernel_rfl) (by exact hS) ?_
    simp only [Act.put, List.setIfInBounds_toArray, List.set_cons_succ, List.set_cons_zero]
    refine wpAnyH_take_d 1 (some 17) (.pointer (some ⟨b, off + 1 * 3, none⟩)) rfl (by kernel_rfl) (by kernel_rfl) (by kernel_rfl) (by kernel_rfl) rfl (fun _ _ _ h => h) (fun w' h => exec_indexAddr3r rfl rfl rfl (by decide) Try.underlying115 szItemR) (by exact hS) ?_
    simp only [Act.put, List.setIfInBounds_toArray, List.set_cons_succ, List.set_cons_zero]
    refine wpAnyH_take_d 2 (some 18) (.pointer (some ⟨b, off + 1 * 3 + 1, none⟩)) rfl (by kernel_rfl) (by kernel_rfl) (by kernel_rfl) (by kernel_rfl) rfl (fun _ _ _ h => h) (fun _ _ => by kernel_rfl) (by exact hS) ?_
    simp only [Act.put, List.setIfInBounds_toArray, List.set_cons_succ, List.set_cons_zero]
    refine wpAnyH_take_d 3 (some 19) (.int .i64 x1) rfl (by kernel_rfl) (by kernel_rfl) (by kernel_rfl) (by kernel_rfl) rfl (fun _ _ _ h => h) (fun w' h => exec_load_cell rfl rfl ((h.cell hB).trans d1) Try.underlying3 rfl) (by exact hS) ?_
    simp only [Act.put, List.setIfInBounds_toArray, List.set_cons_succ, List.set_cons_zero]
    refine wpAnyH_take_d 4 (some 20) (.slice (some ⟨b, off, none⟩) 9 cap2) rfl (by kernel_rfl) (by kernel_rfl) (by kernel_rfl) (by kernel_rfl) rfl (fun _ _ _ h => h) (fun _ _ => by kernel_rfl) (by exact hS) ?_
    simp only [Act.put, List.setIfInBounds_toArray, List.set_cons_succ, List.set_cons_zero]
    refine wpAnyH_take_d 5 (some 21) (.pointer (some ⟨b, off + 2 * 3, none⟩)) rfl (by kernel_rfl) (by kernel_rfl) (by kernel_rfl) (by kernel_rfl) rfl (fun _ _ _ h => h) (fun w' h => exec_indexAddr3r rfl rfl rfl (by decide) Try.underlying115 szItemR) (by exact hS) ?_
    simp only [Act.put, List.setIfInBounds_toArray, List.set_cons_succ, List.set_cons_zero]
    refine wpAnyH_take_d 6 (some 22) (.pointer (some ⟨b, off + 2 * 3 + 1, none⟩)) rfl (by kernel_rfl) (by kernel_rfl) (by kernel_rfl) (by kernel_rfl) rfl (fun _ _ _ h => h) (fun _ _ => by kernel_rfl) (by exact hS) ?_
    simp only [Act.put, List.setIfInBounds_toArray, List.set_cons_succ, List.set_cons_zero]
    refine wpAnyH_take_d 7 (some 23) (.int .i64 x2) rfl (by kernel_rfl) (by kernel_rfl) (by kernel_rfl) (by kernel_rfl) rfl (fun _ _ _ h => h) (fun w' h => exec_load_cell rfl rfl ((h.cell hB).trans d2) Try.underlying3 rfl) (by exact hS) ?_
    simp only [Act.put, List.setIfInBounds_toArray, List.set_cons_succ, List.set_cons_zero]
    refine wpAnyH_take_d 8 (some 24) (.slice (some ⟨b, off, none⟩) 9 cap2) rfl (by kernel_rfl) (by kernel_rfl) (by kernel_rfl) (by kernel_rfl) rfl (fun _ _ _ h => h) (fun _ _ => by kernel_rfl) (by exact hS) ?_
    simp only [Act.put, List.setIfInBounds_toArray, List.set_cons_succ, List.set_cons_zero]
    refine wpAnyH_take_d 9 (some 25) (.pointer (some ⟨b, off + 3 * 3, none⟩)) rfl (by kernel_rfl) (by kernel_rfl) (by kernel_rfl) (by kernel_rfl) rfl (fun _ _ _ h => h) (fun w' h => exec_indexAddr3r rfl rfl rfl (by decide) Try.underlying115 szItemR) (by exact hS) ?_
    simp only [Act.put, List.setIfInBounds_toArray, List.set_cons_succ, List.set_cons_zero]
    refine wpAnyH_take_d 10 (some 26) (.pointer (some ⟨b, off + 3 * 3 + 1, none⟩)) rfl (by kernel_rfl) (by kernel_rfl) (by kernel_rfl) (by kernel_rfl) rfl (fun _ _ _ h => h) (fun _ _ => by kernel_rfl) (by exact hS) ?_
    simp only [Act.put, List.setIfInBounds_toArray, List.set_cons_succ, List.set_cons_zero]
    refine wpAnyH_take_d 11 (some 27) (.int .i64 x3) rfl (by kernel_rfl) (by kernel_rfl) (by kernel_rfl) (by kernel_rfl) rfl (fun _ _ _ h => h) (fun w' h => exec_load_cell rfl rfl ((h.cell hB).trans d3) Try.underlying3 rfl) (by exact hS) ?_
    simp only [Act.put, List.setIfInBounds_toArray, List.set_cons_succ, List.set_cons_zero]
    refine wpAnyH_take_d 12 (some 28) (.slice (some ⟨b, off, none⟩) 9 cap2) rfl (by kernel_rfl) (by kernel_rfl) (by kernel_rfl) (by kernel_rfl) rfl (fun _ _ _ h => h) (fun _ _ => by kernel_rfl) (by exact hS) ?_
    simp only [Act.put, List.setIfInBounds_toArray, List.set_cons_succ, List.set_cons_zero]
    refine wpAnyH_take_d 13 (some 29) (.pointer (some ⟨b, off + 4 * 3, none⟩)) rfl (by kernel_rfl) (by kernel_rfl) (by kernel_rfl) (by kernel_rfl) rfl (fun _ _ _ h => h) (fun w' h => exec_indexAddr3r rfl rfl rfl (by decide) Try.underlying115 szItemR) (by exact hS) ?_
    simp only [Act.put, List.setIfInBounds_toArray, List.set_cons_succ, List.set_cons_zero]
    refine wpAnyH_take_d 14 (some 30) (.pointer (some ⟨b, off + 4 * 3 + 1, none⟩)) rfl (by kernel_rfl) (by kernel_rfl) (by kernel_rfl) (by kernel_rfl) rfl (fun _ _ _ h => h) (fun _ _ => by kernel_rfl) (by exact hS) ?_
    simp only [Act.put, List.setIfInBounds_toArray, List.set_cons_succ, List.set_cons_zero]
    refine wpAnyH_take_d 15 (some 31) (.int .i64 x4) rfl (by kernel_rfl) (by kernel_rfl) (by kernel_rfl) (by kernel_rfl) rfl (fun _ _ _ h => h) (fun w' h => exec_load_cell rfl rfl ((h.cell hB).trans d4) Try.underlying3 rfl) (by exact hS) ?_
    simp only [Act.put, List.setIfInBounds_toArray, List.set_cons_succ, List.set_cons_zero]
    refine wpAnyH_take_d 16 (some 32) (.slice (some ⟨b, off, none⟩) 9 cap2) rfl (by kernel_rfl) (by kernel_rfl) (by kernel_rfl) (by kernel_rfl) rfl (fun _ _ _ h => h) (fun _ _ => by kernel_rfl) (by exact hS) ?_
    simp only [Act.put, List.setIfInBounds_toArray, List.set_cons_succ, List.set_cons_zero]
    refine wpAnyH_take_d 17 (some 33) (.pointer (some ⟨b, off + 5 * 3, none⟩)) rfl (by kernel_rfl) (by kernel_rfl) (by kernel_rfl) (by kernel_rfl) rfl (fun _ _ _ h => h) (fun w' h => exec_indexAddr3r rfl rfl rfl (by decide) Try.underlying115 szItemR) (by exact hS) ?_
    simp only [Act.put, List.setIfInBounds_toArray, List.set_cons_succ, List.set_cons_zero]
    refine wpAnyH_take_d 18 (some 34) (.pointer (some ⟨b, off + 5 * 3 + 1, none⟩)) rfl (by kernel_rfl) (by kernel_rfl) (by kernel_rfl) (by kernel_rfl) rfl (fun _ _ _ h => h) (fun _ _ => by kernel_rfl) (by exact hS) ?_
    simp only [Act.put, List.setIfInBounds_toArray, List.set_cons_succ, List.set_cons_zero]
    refine wpAnyH_take_d 19 (some 35) (.int .i64 x5) rfl (by kernel_rfl) (by kernel_rfl) (by kernel_rfl) (by kernel_rfl) rfl (fun _ _ _ h => h) (fun w' h => exec_load_cell rfl rfl ((h.cell hB).trans d5) Try.underlying3 rfl) (by exact hS) ?_
    simp only [Act.put, List.setIfInBounds_toArray, List.set_cons_succ, List.set_cons_zero]
    refine wpAnyH_take_d 20 (some 36) (.slice (some ⟨b, off, none⟩) 9 cap2) rfl (by kernel_rfl) (by kernel_rfl) (by kernel_rfl) (by kernel_rfl) rfl (fun _ _ _ h => h) (fun _ _ => by kernel_rfl) (by exact hS) ?_
    simp only [Act.put, List.setIfInBounds_toArray, List.set_cons_succ, List.set_cons_zero]
    refine wpAnyH_take_d 21 (some 37) (.pointer (some ⟨b, off + 6 * 3, none⟩)) rfl (by kernel_rfl) (by kernel_rfl) (by kernel_rfl) (by kernel_rfl) rfl (fun _ _ _ h => h) (fun w' h => exec_indexAddr3r rfl rfl rfl (by decide) Try.underlying115 szItemR) (by exact hS) ?_
    simp only [Act.put, List.setIfInBounds_toArray, List.set_cons_succ, List.set_cons_zero]
    refine wpAnyH_take_d 22 (some 38) (.pointer (some ⟨b, off + 6 * 3 + 1, none⟩)) rfl (by kernel_rfl) (by kernel_rfl) (by kernel_rfl) (by kernel_rfl) rfl (fun _ _ _ h => h) (fun _ _ => by kernel_rfl) (by exact hS) ?_
    simp only [Act.put, List.setIfInBounds_toArray, List.set_cons_succ, List.set_cons_zero]
    refine wpAnyH_take_d 23 (some 39) (.int .i64 x6) rfl (by kernel_rfl) (by kernel_rfl) (by kernel_rfl) (by kernel_rfl) rfl (fun _ _ _ h => h) (fun w' h => exec_load_cell rfl rfl ((h.cell hB).trans d6) Try.underlying3 rfl) (by exact hS) ?_
    simp only [Act.put, List.setIfInBounds_toArray, List.set_cons_succ, List.set_cons_zero]
    refine wpAnyH_take_d 24 (some 40) (.slice (some ⟨b, off, none⟩) 9 cap2) rfl (by kernel_rfl) (by kernel_rfl) (by kernel_rfl) (by kernel_rfl) rfl (fun _ _ _ h => h) (fun _ _ => by kernel_rfl) (by exact hS) ?_
    simp only [Act.put, List.setIfInBounds_toArray, List.set_cons_succ, List.set_cons_zero]
    refine wpAnyH_take_d 25 (some 41) (.pointer (some ⟨b, off + 7 * 3, none⟩)) rfl (by kernel_rfl) (by kernel_rfl) (by kernel_rfl) (by kernel_rfl) rfl (fun _ _ _ h => h) (fun w' h => exec_indexAddr3r rfl rfl rfl (by decide) Try.underlying115 szItemR) (by exact hS) ?_
    simp only [Act.put, List.setIfInBounds_toArray, List.set_cons_succ, List.set_cons_zero]
    refine wpAnyH_take_d 26 (some 42) (.pointer (some ⟨b, off + 7 * 3 + 1, none⟩)) rfl (by kernel_rfl) (by kernel_rfl) (by kernel_rfl) (by kernel_rfl) rfl (fun _ _ _ h => h) (fun _ _ => by kernel_rfl) (by exact hS) ?_
    simp only [Act.put, List.setIfInBounds_toArray, List.set_cons_succ, List.set_cons_zero]
    refine wpAnyH_take_d 27 (some 43) (.int .i64 x7) rfl (by kernel_rfl) (by kernel_rfl) (by kernel_rfl) (by kernel_rfl) rfl (fun _ _ _ h => h) (fun w' h => exec_load_cell rfl rfl ((h.cell hB).trans d7) Try.underlying3 rfl) (by exact hS) ?_
    simp only [Act.put, List.setIfInBounds_toArray, List.set_cons_succ, List.set_cons_zero]
    refine wpAnyH_take_d 28 (some 44) (.slice (some ⟨b, off, none⟩) 9 cap2) rfl (by kernel_rfl) (by kernel_rfl) (by kernel_rfl) (by kernel_rfl) rfl (fun _ _ _ h => h) (fun _ _ => by kernel_rfl) (by exact hS) ?_
    simp only [Act.put, List.setIfInBounds_toArray, List.set_cons_succ, List.set_cons_zero]
    refine wpAnyH_take_d 29 (some 45) (.pointer (some ⟨b, off + 8 * 3, none⟩)) rfl (by kernel_rfl) (by kernel_rfl) (by kernel_rfl) (by kernel_rfl) rfl (fun _ _ _ h => h) (fun w' h => exec_indexAddr3r rfl rfl rfl (by decide) Try.underlying115 szItemR) (by exact hS) ?_
    simp only [Act.put, List.setIfInBounds_toArray, List.set_cons_succ, List.set_cons_zero]
    refine wpAnyH_take_d 30 (some 46) (.pointer (some ⟨b, off + 8 * 3 + 2, none⟩)) rfl (by kernel_rfl) (by kernel_rfl) (by kernel_rfl) (by kernel_rfl) rfl (fun _ _ _ h => h) (fun _ _ => by kernel_rfl) (by exact hS) ?_
    simp only [Act.put, List.setIfInBounds_toArray, List.set_cons_succ, List.set_cons_zero]
    refine wpAnyH_take_d 31 (some 47) (.string x8) rfl (by kernel_rfl) (by kernel_rfl) (by kernel_rfl) (by kernel_rfl) rfl (fun _ _ _ h => h) (fun w' h => exec_load_cell rfl rfl ((h.cell hB).trans d8) Try.underlying9 rfl) (by exact hS) ?_
    simp only [Act.put, List.setIfInBounds_toArray, List.set_cons_succ, List.set_cons_zero]
    refine wpAnyH_take_d 32 (some 48) (.agg #[.int .i64 x1, .int .i64 x2, .int .i64 x3, .int .i64 x4, .int .i64 x5, .int .i64 x6, .int .i64 x7, .string x8]) rfl (by kernel_rfl) (by kernel_rfl) (by kernel_rfl) (by kernel_rfl) rfl (fun _ _ _ h => h) (fun _ _ => by kernel_rfl) (by exact hS) ?_
    simp only [Act.put, List.setIfInBounds_toArray, List.set_cons_succ, List.set_cons_zero]
    generalize w2.drew = w3 at hS hgD ⊢
    have hS : Below w2.heap.size w2 (w3.alloc (.cells #[.int .i64 0, .int .i64 0, .int .i64 0, .int .i64 0, .int .i64 0, .int .i64 0, .int .i64 0, .string ⟨#[]⟩] 87)) := hS.alloc hS.size _
    refine wpAnyH_one 33 (some 6) (.pointer (some ⟨w3.heap.size, 0, none⟩)) rfl (by kernel_rfl) (by kernel_rfl) rfl (exec_alloc_row rfl zeroLog) (by exact hS) ?_
    simp only [Act.put, List.setIfInBounds_toArray, List.set_cons_succ, List.set_cons_zero]
    have hgn := heap_alloc_new w3 (.cells #[.int .i64 0, .int .i64 0, .int .i64 0, .int .i64 0, .int .i64 0, .int .i64 0, .int .i64 0, .string ⟨#[]⟩] 87)
    have hw3 : w.heap.size < w3.heap.size := (Array.getElem?_eq_some_iff.1 hgD).1
    have hgE : (w3.alloc (.cells #[.int .i64 0, .int .i64 0, .int .i64 0, .int .i64 0, .int .i64 0, .int .i64 0, .int .i64 0, .string ⟨#[]⟩] 87)).heap[w.heap.size]? = some (.cells #[.int .i64 0, .int .i64 0, .int .i64 0, .int .i64 0, .int .i64 0, .int .i64 0, .int .i64 0, .string ⟨#[]⟩] 87 (0, 0)) := (Below.heap_alloc w3 _ _ hw3).trans hgD
    generalize hbn : w3.heap.size = bn at hgn hw3 ⊢
    have hbn' : w2.heap.size ≤ bn := by have := (show Below w2.heap.size w2 w3 from ‹_›).size; omega
    generalize w3.alloc (.cells #[.int .i64 0, .int .i64 0, .int .i64 0, .int .i64 0, .int .i64 0, .int .i64 0, .int .i64 0, .string ⟨#[]⟩] 87) = w4 at hgn hgE hS ⊢
    have hS : Below w2.heap.size w2 (w4.setRow bn #[.int .i64 x1, .int .i64 x2, .int .i64 x3, .int .i64 x4, .int .i64 x5, .int .i64 x6, .int .i64 x7, .string x8]) := below_setRow hS hbn' _
    refine wpAnyH_one_skip' 34 rfl (by kernel_rfl) (by kernel_rfl) (exec_store_row rfl rfl rfl hgn (by kernel_rfl) rfl (by simp [Value.oneCell'])) (by exact hS) ?_
    simp only [Act.put, List.setIfInBounds_toArray]
    have hgF : (w4.setRow bn #[.int .i64 x1, .int .i64 x2, .int .i64 x3, .int .i64 x4, .int .i64 x5, .int .i64 x6, .int .i64 x7, .string x8]).heap[bn]? = some (.cells #[.int .i64 x1, .int .i64 x2, .int .i64 x3, .int .i64 x4, .int .i64 x5, .int .i64 x6, .int .i64 x7, .string x8] 87 (0, 0)) := setRow_heap w4 bn _ _ _ _ hgn
    have hgG : (w4.setRow bn #[.int .i64 x1, .int .i64 x2, .int .i64 x3, .int .i64 x4, .int .i64 x5, .int .i64 x6, .int .i64 x7, .string x8]).heap[w.heap.size]? = some (.cells #[.int .i64 0, .int .i64 0, .int .i64 0, .int .i64 0, .int .i64 0, .int .i64 0, .int .i64 0, .string ⟨#[]⟩] 87 (0, 0)) := (setRow_other w4 bn _ _ (by omega)).trans hgE
    generalize w4.setRow bn #[.int .i64 x1, .int .i64 x2, .int .i64 x3, .int .i64 x4, .int .i64 x5, .int .i64 x6, .int .i64 x7, .string x8] = w5 at hgF hgG hS ⊢
    have hw5 : bn < w5.heap.size := (Array.getElem?_eq_some_iff.1 hgF).1
    have B5 := B2.trans (hS.mono B2.size)
    refine wpAnyH_done (by kernel_rfl) ?_ _
    have q0 : w5.cell? ⟨bn, 0, none⟩ = some (.int .i64 x1) := cell_row hgF 0 rfl
    have q1 : w5.cell? ⟨bn, 1, none⟩ = some (.int .i64 x2) := cell_row hgF 1 rfl
    have q2 : w5.cell? ⟨bn, 2, none⟩ = some (.int .i64 x3) := cell_row hgF 2 rfl
    have q3 : w5.cell? ⟨bn, 3, none⟩ = some (.int .i64 x4) := cell_row hgF 3 rfl
    have q4 : w5.cell? ⟨bn, 4, none⟩ = some (.int .i64 x5) := cell_row hgF 4 rfl
    have q5 : w5.cell? ⟨bn, 5, none⟩ = some (.int .i64 x6) := cell_row hgF 5 rfl
    have q6 : w5.cell? ⟨bn, 6, none⟩ = some (.int .i64 x7) := cell_row hgF 6 rfl
    have q7 : w5.cell? ⟨bn, 7, none⟩ = some (.string x8) := cell_row hgF 7 rfl
    have hfo := logFormed_any ⟨x1, x2, x3, x4, x5, x6, x7, x8⟩ ⟨o1, o2, o3, o4, o5, o6, o7, o8⟩ w5
    clear hS hgn hgE hgD hg2
    clear d1 o1
    clear d2 o2
    clear d3 o3
    clear d4 o4
    clear d5 o5
    clear d6 o6
    clear d7 o7
    clear d8 o8
    cases hs : logOk ⟨x1, x2, x3, x4, x5, x6, x7, x8⟩
    · rw [hs] at hfo
      have HS := Lib.hid hs
      clear hs
      go_wp2_with fail
      refine Calls.mono hfo ?_
      rintro e w6 ⟨rfl, b6⟩
      have B6 := B5.trans (b6.mono B5.size)
      have hg6 := (b6.block w.heap.size (by omega)).trans hgG
      have hg6' := (b6.block bn hw5).trans hgF
      have r0 : w6.cell? ⟨bn, 0, none⟩ = some (.int .i64 x1) := cell_row hg6' 0 rfl
      have r1 : w6.cell? ⟨bn, 1, none⟩ = some (.int .i64 x2) := cell_row hg6' 1 rfl
      have r2 : w6.cell? ⟨bn, 2, none⟩ = some (.int .i64 x3) := cell_row hg6' 2 rfl
      have r3 : w6.cell? ⟨bn, 3, none⟩ = some (.int .i64 x4) := cell_row hg6' 3 rfl
      have r4 : w6.cell? ⟨bn, 4, none⟩ = some (.int .i64 x5) := cell_row hg6' 4 rfl
      have r5 : w6.cell? ⟨bn, 5, none⟩ = some (.int .i64 x6) := cell_row hg6' 5 rfl
      have r6 : w6.cell? ⟨bn, 6, none⟩ = some (.int .i64 x7) := cell_row hg6' 6 rfl
      have r7 : w6.cell? ⟨bn, 7, none⟩ = some (.string x8) := cell_row hg6' 7 rfl
      clear hfo
      have K1 : StoreOk 87 #[.int .i64 0, .int .i64 0, .int .i64 0, .int .i64 0, .int .i64 0, .int .i64 0, .int .i64 0, .string ⟨#[]⟩] #[.int .i64 0, .int .i64 0, .int .i64 0, .int .i64 0, .int .i64 0, .int .i64 0, .int .i64 0, .string ⟨#[]⟩] := ⟨by kernel_rfl, rfl, by simp [Value.oneCell']⟩
      go_wp2_with (with_reducible refine wpList_store_row2 rfl 87 (.tmp 2) (.tmp 52) rfl w.heap.size #[.int .i64 0, .int .i64 0, .int .i64 0, .int .i64 0, .int .i64 0, .int .i64 0, .int .i64 0, .string ⟨#[]⟩] rfl rfl 87 #[.int .i64 0, .int .i64 0, .int .i64 0, .int .i64 0, .int .i64 0, .int .i64 0, .int .i64 0, .string ⟨#[]⟩] hg6 K1 ?_)
      have hgR : (w6.setRow w.heap.size #[.int .i64 0, .int .i64 0, .int .i64 0, .int .i64 0, .int .i64 0, .int .i64 0, .int .i64 0, .string ⟨#[]⟩]).heap[w.heap.size]? = some (.cells #[.int .i64 0, .int .i64 0, .int .i64 0, .int .i64 0, .int .i64 0, .int .i64 0, .int .i64 0, .string ⟨#[]⟩] 87 (0, 0)) := setRow_heap w6 _ _ _ _ _ hg6
      have BR := below_setRow B6 (Nat.le_refl _) #[.int .i64 0, .int .i64 0, .int .i64 0, .int .i64 0, .int .i64 0, .int .i64 0, .int .i64 0, .string ⟨#[]⟩]
      generalize w6.setRow w.heap.size #[.int .i64 0, .int .i64 0, .int .i64 0, .int .i64 0, .int .i64 0, .int .i64 0, .int .i64 0, .string ⟨#[]⟩] = w7 at hgR BR ⊢
      have s0 : w7.cell? ⟨w.heap.size, 0, none⟩ = some (.int .i64 0) := cell_row hgR 0 rfl
      have s1 : w7.cell? ⟨w.heap.size, 1, none⟩ = some (.int .i64 0) := cell_row hgR 1 rfl
      have s2 : w7.cell? ⟨w.heap.size, 2, none⟩ = some (.int .i64 0) := cell_row hgR 2 rfl
      have s3 : w7.cell? ⟨w.heap.size, 3, none⟩ = some (.int .i64 0) := cell_row hgR 3 rfl
      have s4 : w7.cell? ⟨w.heap.size, 4, none⟩ = some (.int .i64 0) := cell_row hgR 4 rfl
      have s5 : w7.cell? ⟨w.heap.size, 5, none⟩ = some (.int .i64 0) := cell_row hgR 5 rfl
      have s6 : w7.cell? ⟨w.heap.size, 6, none⟩ = some (.int .i64 0) := cell_row hgR 6 rfl
      have s7 : w7.cell? ⟨w.heap.size, 7, none⟩ = some (.string ⟨#[]⟩) := cell_row hgR 7 rfl
      go_wp2
      exact bodyPost_ret (v := .tuple #[.agg #[.int .i64 0, .int .i64 0, .int .i64 0, .int .i64 0, .int .i64 0, .int .i64 0, .int .i64 0, .string ⟨#[]⟩], .int .i64 2]) (by simp [results, Try.results63, go_sem, s0, s1, s2, s3, s4, s5, s6, s7]) rfl ⟨by
        have e9 : lgOf l = ⟨x1, x2, x3, x4, x5, x6, x7, x8⟩ := by unfold lgOf; rw [hx1, hx2, hx3, hx4, hx5, hx6, hx7, hx8]
        rw [e9, HS.out] at HE1
        rw [G1.out, HE1.out]; rfl, BR⟩
    · rw [hs] at hfo
      have HS := Lib.hid hs
      clear hs
      go_wp2_with fail
      refine Calls.mono hfo ?_
      rintro e w6 ⟨rfl, b6⟩
      have B6 := B5.trans (b6.mono B5.size)
      have hg6 := (b6.block w.heap.size (by omega)).trans hgG
      have hg6' := (b6.block bn hw5).trans hgF
      have r0 : w6.cell? ⟨bn, 0, none⟩ = some (.int .i64 x1) := cell_row hg6' 0 rfl
      have r1 : w6.cell? ⟨bn, 1, none⟩ = some (.int .i64 x2) := cell_row hg6' 1 rfl
      have r2 : w6.cell? ⟨bn, 2, none⟩ = some (.int .i64 x3) := cell_row hg6' 2 rfl
      have r3 : w6.cell? ⟨bn, 3, none⟩ = some (.int .i64 x4) := cell_row hg6' 3 rfl
      have r4 : w6.cell? ⟨bn, 4, none⟩ = some (.int .i64 x5) := cell_row hg6' 4 rfl
      have r5 : w6.cell? ⟨bn, 5, none⟩ = some (.int .i64 x6) := cell_row hg6' 5 rfl
      have r6 : w6.cell? ⟨bn, 6, none⟩ = some (.int .i64 x7) := cell_row hg6' 6 rfl
      have r7 : w6.cell? ⟨bn, 7, none⟩ = some (.string x8) := cell_row hg6' 7 rfl
      clear hfo
      have K1 : StoreOk 87 #[.int .i64 0, .int .i64 0, .int .i64 0, .int .i64 0, .int .i64 0, .int .i64 0, .int .i64 0, .string ⟨#[]⟩] #[.int .i64 x1, .int .i64 x2, .int .i64 x3, .int .i64 x4, .int .i64 x5, .int .i64 x6, .int .i64 x7, .string x8] := ⟨by kernel_rfl, rfl, by simp [Value.oneCell']⟩
      go_wp2_with (with_reducible refine wpList_store_row2 rfl 87 (.tmp 2) (.tmp 53) rfl w.heap.size #[.int .i64 x1, .int .i64 x2, .int .i64 x3, .int .i64 x4, .int .i64 x5, .int .i64 x6, .int .i64 x7, .string x8] rfl rfl 87 #[.int .i64 0, .int .i64 0, .int .i64 0, .int .i64 0, .int .i64 0, .int .i64 0, .int .i64 0, .string ⟨#[]⟩] hg6 K1 ?_)
      have hgR : (w6.setRow w.heap.size #[.int .i64 x1, .int .i64 x2, .int .i64 x3, .int .i64 x4, .int .i64 x5, .int .i64 x6, .int .i64 x7, .string x8]).heap[w.heap.size]? = some (.cells #[.int .i64 x1, .int .i64 x2, .int .i64 x3, .int .i64 x4, .int .i64 x5, .int .i64 x6, .int .i64 x7, .string x8] 87 (0, 0)) := setRow_heap w6 _ _ _ _ _ hg6
      have BR := below_setRow B6 (Nat.le_refl _) #[.int .i64 x1, .int .i64 x2, .int .i64 x3, .int .i64 x4, .int .i64 x5, .int .i64 x6, .int .i64 x7, .string x8]
      generalize w6.setRow w.heap.size #[.int .i64 x1, .int .i64 x2, .int .i64 x3, .int .i64 x4, .int .i64 x5, .int .i64 x6, .int .i64 x7, .string x8] = w7 at hgR BR ⊢
      have s0 : w7.cell? ⟨w.heap.size, 0, none⟩ = some (.int .i64 x1) := cell_row hgR 0 rfl
      have s1 : w7.cell? ⟨w.heap.size, 1, none⟩ = some (.int .i64 x2) := cell_row hgR 1 rfl
      have s2 : w7.cell? ⟨w.heap.size, 2, none⟩ = some (.int .i64 x3) := cell_row hgR 2 rfl
      have s3 : w7.cell? ⟨w.heap.size, 3, none⟩ = some (.int .i64 x4) := cell_row hgR 3 rfl
      have s4 : w7.cell? ⟨w.heap.size, 4, none⟩ = some (.int .i64 x5) := cell_row hgR 4 rfl
      have s5 : w7.cell? ⟨w.heap.size, 5, none⟩ = some (.int .i64 x6) := cell_row hgR 5 rfl
      have s6 : w7.cell? ⟨w.heap.size, 6, none⟩ = some (.int .i64 x7) := cell_row hgR 6 rfl
      have s7 : w7.cell? ⟨w.heap.size, 7, none⟩ = some (.string x8) := cell_row hgR 7 rfl
      go_wp2
      exact bodyPost_ret (v := .tuple #[.agg #[.int .i64 x1, .int .i64 x2, .int .i64 x3, .int .i64 x4, .int .i64 x5, .int .i64 x6, .int .i64 x7, .string x8], .int .i64 0]) (by simp [results, Try.results63, go_sem, s0, s1, s2, s3, s4, s5, s6, s7]) rfl ⟨by
        have e9 : lgOf l = ⟨x1, x2, x3, x4, x5, x6, x7, x8⟩ := by unfold lgOf; rw [hx1, hx2, hx3, hx4, hx5, hx6, hx7, hx8]
        rw [e9, HS.out] at HE1
        rw [G1.out, HE1.out, e9]; rfl, BR⟩
  · have e1 : logE bs = secE bs 2 8 1 := by unfold logE; rw [if_neg c1]
    have e2 : ¬ logE bs = 0 := by rw [e1]; exact c1
    have e3 : logV bs = lgNone := if_neg e2
    rw [e3]
    rw [e1]
    have hq : (secE bs 2 8 1 != 0) = true := by simpa using c1
    generalize secE bs 2 8 1 = E at hq hu
    clear e1 e2 c1 h
    go_enter Try.func63, Try.ntmps63
    go_wp2_with fail
    refine Calls.mono hu ?_
    rintro e w2 ⟨v2, rfl, h2, b2⟩
    have hg2 := (b2.block w.heap.size (by simp)).trans hg0
    have B2 := B0.trans (b2.mono B0.size)
    obtain ⟨ao2, m2, cap2, hv2, hm2⟩ := h2.form'
    subst hv2
    clear hu h2 hg0 b2
    have K1 : StoreOk 87 #[.int .i64 0, .int .i64 0, .int .i64 0, .int .i64 0, .int .i64 0, .int .i64 0, .int .i64 0, .string ⟨#[]⟩] #[.int .i64 0, .int .i64 0, .int .i64 0, .int .i64 0, .int .i64 0, .int .i64 0, .int .i64 0, .string ⟨#[]⟩] := ⟨by kernel_rfl, rfl, by simp [Value.oneCell']⟩
    go_wp2_with (with_reducible refine wpList_store_row2 rfl 87 (.tmp 2) (.tmp 14) rfl w.heap.size #[.int .i64 0, .int .i64 0, .int .i64 0, .int .i64 0, .int .i64 0, .int .i64 0, .int .i64 0, .string ⟨#[]⟩] rfl rfl 87 #[.int .i64 0, .int .i64 0, .int .i64 0, .int .i64 0, .int .i64 0, .int .i64 0, .int .i64 0, .string ⟨#[]⟩] hg2 K1 ?_)
    have hgR : (w2.setRow w.heap.size #[.int .i64 0, .int .i64 0, .int .i64 0, .int .i64 0, .int .i64 0, .int .i64 0, .int .i64 0, .string ⟨#[]⟩]).heap[w.heap.size]? = some (.cells #[.int .i64 0, .int .i64 0, .int .i64 0, .int .i64 0, .int .i64 0, .int .i64 0, .int .i64 0, .string ⟨#[]⟩] 87 (0, 0)) := setRow_heap w2 _ _ _ _ _ hg2
    have BR := below_setRow B2 (Nat.le_refl _) #[.int .i64 0, .int .i64 0, .int .i64 0, .int .i64 0, .int .i64 0, .int .i64 0, .int .i64 0, .string ⟨#[]⟩]
    generalize w2.setRow w.heap.size #[.int .i64 0, .int .i64 0, .int .i64 0, .int .i64 0, .int .i64 0, .int .i64 0, .int .i64 0, .string ⟨#[]⟩] = w7 at hgR BR ⊢
    have s0 : w7.cell? ⟨w.heap.size, 0, none⟩ = some (.int .i64 0) := cell_row hgR 0 rfl
    have s1 : w7.cell? ⟨w.heap.size, 1, none⟩ = some (.int .i64 0) := cell_row hgR 1 rfl
    have s2 : w7.cell? ⟨w.heap.size, 2, none⟩ = some (.int .i64 0) := cell_row hgR 2 rfl
    have s3 : w7.cell? ⟨w.heap.size, 3, none⟩ = some (.int .i64 0) := cell_row hgR 3 rfl
    have s4 : w7.cell? ⟨w.heap.size, 4, none⟩ = some (.int .i64 0) := cell_row hgR 4 rfl
    have s5 : w7.cell? ⟨w.heap.size, 5, none⟩ = some (.int .i64 0) := cell_row hgR 5 rfl
    have s6 : w7.cell? ⟨w.heap.size, 6, none⟩ = some (.int .i64 0) := cell_row hgR 6 rfl
    have s7 : w7.cell? ⟨w.heap.size, 7, none⟩ = some (.string ⟨#[]⟩) := cell_row hgR 7 rfl
    go_wp2
    exact bodyPost_ret (v := .tuple #[.agg #[.int .i64 0, .int .i64 0, .int .i64 0, .int .i64 0, .int .i64 0, .int .i64 0, .int .i64 0, .string ⟨#[]⟩], .int .i64 E]) (by simp [results, Try.results63, go_sem, s0, s1, s2, s3, s4, s5, s6, s7]) rfl ⟨rfl, BR⟩

end Go.Proofs.Ytbgefdigmdfalaa

/- The flash device as it lies in memory ('DevAt'), told by a plain structure ('Dev'); the contracts of its small methods. No statement of the seat is proved here. -/
namespace Go.Proofs.Ytbgefdigmdfalaa
set_option maxRecDepth 20000
open Go.RowKit

/-! ### the device, plainly -/
structure Dev where
  size : Nat
  last : Int → List UInt8 × Bool
  waits : List (Int × List UInt8)
  off : Bool
  armed : Bool
  left : Nat

def zeros : List UInt8 := List.replicate 256 0
theorem zeros_length : zeros.length = 256 := List.length_replicate
def Dev.fresh (n : Nat) : Dev := { size := n, last := fun _ => (zeros, false), waits := [], off := false, armed := false, left := 0 }
def Dev.has (d : Dev) (i : Int) : Bool := decide (0 ≤ i) && decide (i < d.size)
def Dev.spend (d : Dev) : Bool × Dev :=
  if d.off then (false, d) else if !d.armed then (true, d) else if d.left = 0 then (false, { d with off := true }) else (true, { d with left := d.left - 1 })
def Dev.arm (d : Dev) (n : Int) : Dev := { d with armed := decide (0 ≤ n), left := n.toNat }

/-- What the device keeps to. -/
structure Dev.Ok (d : Dev) : Prop where
  size : d.size ≤ 4096
  left : d.left ≤ 9223372036854775807
  at_ : ∀ p ∈ d.waits, 0 ≤ p.1 ∧ p.1 < d.size
  len : ∀ p ∈ d.waits, p.2.length = 256
  last : ∀ k, (d.last k).1.length = 256

/-! ### its cells -/
def wrCells (p : Int × List UInt8) : List Value := .int .i64 p.1 :: cellsB p.2
def secCells (p : List UInt8 × Bool) : List Value := cellsB p.1 ++ [.bool p.2]
def secV (p : List UInt8 × Bool) : Value := .agg (secCells p).toArray
def secD (p : List UInt8 × Bool) : DataW Unit := .agg [.lit (.string p.1), .lit (.bool p.2)]
theorem secD_inj {p q : List UInt8 × Bool} (h : secD p = secD q) : p = q := by
  simp only [secD, DataW.agg.injEq, List.cons.injEq, DataW.lit.injEq, Lit.string.injEq, Lit.bool.injEq] at h
  exact Prod.ext h.1 h.2.1
theorem secV_inj {p q : List UInt8 × Bool} (h : secV p = secV q) : p = q := by
  simp only [secV, Value.agg.injEq, secCells] at h
  have h' : cellsB p.1 ++ [Value.bool p.2] = cellsB q.1 ++ [Value.bool q.2] := by simpa using h
  have h1 := List.append_inj' h' rfl
  have h2 : p.2 = q.2 := by simpa using h1.2
  exact Prod.ext (cellsB_inj h1.1) h2
/-- How an element of the map reads. -/
noncomputable def secRd (v : Value) : Option (DataW Unit × List MemPlace) :=
  open Classical in if h : ∃ p, v = secV p then some (secD h.choose, []) else none
theorem secRd_mk (p : List UInt8 × Bool) : secRd (secV p) = some (secD p, []) := by
  have h : ∃ q, secV p = secV q := ⟨p, rfl⟩
  unfold secRd
  rw [dif_pos h, secV_inj h.choose_spec.symm]
theorem secRd_inv {v : Value} {p : List UInt8 × Bool} {ps : List MemPlace} (h : secRd v = some (secD p, ps)) : v = secV p := by
  unfold secRd at h
  split at h
  · rename_i hh
    simp only [Option.some.injEq, Prod.mk.injEq] at h
    rw [hh.choose_spec, secD_inj h.1]
  · cases h

/-- The kinds of blocks that a device is made of. -/
def FK : Obj → Bool
  | .map _ _ => true
  | .cells _ t _ => t == 74 || t == 91
  | _ => false

/-- The map of what lasts. -/
def LastIs (B : Nat) (w : World) (v : Value) (f : Int → List UInt8 × Bool) (N : Nat) : Prop :=
  (v = .map none ∧ ∀ k, f k = (zeros, false)) ∨
  ∃ mb D, v = .map (some mb) ∧ B ≤ mb ∧ w.ownsMap Try.prog 3 secRd mb N D ∧ Maps.IsMap D ∧ ∀ k, D.atKey (.int .i64 k) (secD (zeros, false)) = secD (f k)

/-- THE DEVICE d AT BLOCK db OF w, all its blocks from B on; N: how often it was kept into its map, at most. -/
structure DevAt (B : Nat) (w : World) (db : Nat) (d : Dev) (N : Nat) : Prop where
  ok : d.Ok
  ge : B ≤ db
  box : ∃ mv sv, w.heap[db]? = some (.cells #[.int .i64 d.size, mv, sv, .bool d.off, .bool d.armed, .int .i64 d.left] 74 (0, 0)) ∧
    LastIs B w mv d.last N ∧ w.ownsRow B 91 257 sv d.waits.length (d.waits.flatMap wrCells)

/-! ### what is kept of it -/
theorem LastIs.of_map {B : Nat} {w w' : World} {v : Value} {f : Int → List UInt8 × Bool} {N : Nat} (h : LastIs B w v f N) (hk : ∀ (k : Nat) es c, w.heap[k]? = some (.map es c) → w'.heap[k]? = some (.map es c)) : LastIs B w' v f N := by
  rcases h with h | ⟨mb, D, hv, hB, ho, hm, hat⟩
  · exact Or.inl h
  · refine Or.inr ⟨mb, D, hv, hB, ?_, hm, hat⟩
    obtain ⟨es, clock, hb, F, hs, hD⟩ := ho
    exact ⟨es, clock, hk _ _ _ hb, F, hs, hD⟩
/-- A world in which all old blocks are as they were. -/
theorem DevAt.below {B : Nat} {w w' : World} {db : Nat} {d : Dev} {N : Nat} (h : DevAt B w db d N) (hb : Below w.heap.size w w') : DevAt B w' db d N := by
  obtain ⟨ok, ge, mv, sv, h1, h2, h3⟩ := h
  have hk : ∀ (k : Nat) o, w.heap[k]? = some o → w'.heap[k]? = some o := fun k o ho => (hb.block k (lt_of_heap ho)).trans ho
  exact ⟨ok, ge, mv, sv, hk _ _ h1, h2.of_map (fun k es c => hk k _), ownsRow_of_row h3 (fun k cs => hk k _)⟩
/-- Other objects' methods leave it as it is. -/
theorem DevAt.fr {K : Obj → Bool} {B B' : Nat} {w w' : World} {db : Nat} {d : Dev} {N : Nat} (h : DevAt B w db d N) (hf : Fr K B' w w') (hK : ∀ o, FK o = true → K o = false) : DevAt B w' db d N := by
  obtain ⟨ok, ge, mv, sv, h1, h2, h3⟩ := h
  refine ⟨ok, ge, mv, sv, hf.keep _ _ h1 (Or.inr (hK _ rfl)), h2.of_map (fun k es c hh => hf.keep _ _ hh (Or.inr (hK _ rfl))), ownsRow_of_row h3 (fun k cs hh => hf.keep _ _ hh (Or.inr (hK _ rfl)))⟩

/-- A store into the device's own cells (its numbers and flags). -/
theorem DevAt.store {B : Nat} {w : World} {db : Nat} {d d' : Dev} {N : Nat} (h : DevAt B w db d N) (i : Nat) (u : Value) (hd : d'.Ok)
    (hcs : ∀ mv sv, (#[.int .i64 d.size, mv, sv, .bool d.off, .bool d.armed, .int .i64 d.left] : Array Value).setIfInBounds i u = #[.int .i64 d'.size, mv, sv, .bool d'.off, .bool d'.armed, .int .i64 d'.left])
    (hl : d'.last = d.last) (hw : d'.waits = d.waits) : DevAt B (w.setCell ⟨db, i, none⟩ u) db d' N ∧ Fr FK B w (w.setCell ⟨db, i, none⟩ u) := by
  obtain ⟨ok, ge, mv, sv, h1, h2, h3⟩ := h
  have hs := heap_setCell_same w db i _ _ u h1
  rw [hcs] at hs
  refine ⟨⟨hd, ge, mv, sv, hs, ?_, ?_⟩, (Fr.refl _ _ _).setCell h1 ge rfl u⟩
  · rw [hl]; refine h2.of_map (fun k es c hk => ?_)
    rw [Below.heap_setCell _ _ _ _ (by rintro rfl; rw [h1] at hk; cases hk)]; exact hk
  · rw [hw]; refine ownsRow_of_row h3 (fun k cs hk => ?_)
    rw [Below.heap_setCell _ _ _ _ (by rintro rfl; rw [h1] at hk; simp at hk)]; exact hk

/-! ### the small methods -/
set_option maxHeartbeats 400000 in
theorem has_nil (i : Int) (w : World) : Calls Try.prog 49 #[.pointer none, .int .i64 i] w fun e w' => e = .returned (.bool false) ∧ w = w' := by
  go_enter Try.func49, Try.ntmps49
  go_wp2
  go_ret
  exact ⟨rfl, rfl⟩
end Go.Proofs.Ytbgefdigmdfalaa

/- The contracts of the flash device's small methods. No statement of the seat is proved here. -/
namespace Go.Proofs.Ytbgefdigmdfalaa
set_option maxRecDepth 20000
open Go.RowKit

theorem DevAt.cells {B : Nat} {w : World} {db : Nat} {d : Dev} {N : Nat} (h : DevAt B w db d N) : ∃ mv sv, w.cell? ⟨db, 0, none⟩ = some (.int .i64 d.size) ∧ w.cell? ⟨db, 1, none⟩ = some mv ∧ w.cell? ⟨db, 2, none⟩ = some sv ∧
    w.cell? ⟨db, 3, none⟩ = some (.bool d.off) ∧ w.cell? ⟨db, 4, none⟩ = some (.bool d.armed) ∧ w.cell? ⟨db, 5, none⟩ = some (.int .i64 d.left) ∧ (∀ i, w.frozen? ⟨db, i, none⟩ = false) ∧
    LastIs B w mv d.last N ∧ w.ownsRow B 91 257 sv d.waits.length (d.waits.flatMap wrCells) := by
  obtain ⟨ok, ge, mv, sv, h1, h2, h3⟩ := h
  exact ⟨mv, sv, cell_row h1 0 rfl, cell_row h1 1 rfl, cell_row h1 2 rfl, cell_row h1 3 rfl, cell_row h1 4 rfl, cell_row h1 5 rfl, free_row h1, h2, h3⟩

set_option maxHeartbeats 400000 in
theorem has_any {B : Nat} {w : World} {db : Nat} {d : Dev} {N : Nat} (h : DevAt B w db d N) (i : Int) :
    Calls Try.prog 49 #[.pointer (some ⟨db, 0, none⟩), .int .i64 i] w fun e w' => e = .returned (.bool (d.has i)) ∧ w = w' := by
  obtain ⟨mv, sv, c0, -, -, -, -, -, -, -, -⟩ := h.cells
  unfold Dev.has
  by_cases h1 : 0 ≤ i
  · by_cases h2 : i < d.size
    · go_enter Try.func49, Try.ntmps49
      go_wp2
      go_ret
      exact ⟨by simp; omega, rfl⟩
    · go_enter Try.func49, Try.ntmps49
      go_wp2
      go_ret
      exact ⟨by simp; omega, rfl⟩
  · go_enter Try.func49, Try.ntmps49
    go_wp2
    go_ret
    exact ⟨by simp; omega, rfl⟩

set_option maxHeartbeats 400000 in
theorem size_any {B : Nat} {w : World} {db : Nat} {d : Dev} {N : Nat} (h : DevAt B w db d N) :
    Calls Try.prog 52 #[.pointer (some ⟨db, 0, none⟩)] w fun e w' => e = .returned (.int .i64 d.size) ∧ w = w' := by
  obtain ⟨mv, sv, c0, -, -, -, -, -, -, -, -⟩ := h.cells
  go_enter Try.func52, Try.ntmps52
  go_wp2
  go_ret
  exact ⟨rfl, rfl⟩

theorem ownsRow_slice {w : World} {base : Nat} {e : TypeId} {size : Nat} {v : Value} {n : Nat} {xs : List Value} (h : w.ownsRow base e size v n xs) : ∃ a cap, v = .slice a n cap := by
  rcases h.2 with ⟨h1, h2⟩ | ⟨g, cap, cur, hv, _⟩
  · exact ⟨none, 0, by rw [h1, h2]⟩
  · exact ⟨_, cap, hv⟩

set_option maxHeartbeats 400000 in
theorem pending_any {B : Nat} {w : World} {db : Nat} {d : Dev} {N : Nat} (h : DevAt B w db d N) :
    Calls Try.prog 32 #[.pointer (some ⟨db, 0, none⟩)] w fun e w' => e = .returned (.int .i64 d.waits.length) ∧ w = w' := by
  obtain ⟨mv, sv, -, -, c2, -, -, -, -, -, ho⟩ := h.cells
  obtain ⟨a, cap, rfl⟩ := ownsRow_slice ho
  clear ho
  go_enter Try.func32, Try.ntmps32
  go_wp2
  go_ret
  exact ⟨rfl, rfl⟩

set_option maxHeartbeats 400000 in
theorem size_nil (w : World) : Calls Try.prog 52 #[.pointer none] w fun e w' => e = .returned (.int .i64 0) ∧ w = w' := by
  go_enter Try.func52, Try.ntmps52
  go_wp2
  go_ret
  exact ⟨rfl, rfl⟩
set_option maxHeartbeats 400000 in
theorem pending_nil (w : World) : Calls Try.prog 32 #[.pointer none] w fun e w' => e = .returned (.int .i64 0) ∧ w = w' := by
  go_enter Try.func32, Try.ntmps32
  go_wp2
  go_ret
  exact ⟨rfl, rfl⟩
set_option maxHeartbeats 400000 in
theorem flush_nil (w : World) : Calls Try.prog 20 #[.pointer none] w fun e w' => e = .returned (.int .i64 1) ∧ w = w' := by
  go_enter Try.func20, Try.ntmps20
  go_wp2
  go_ret
  exact ⟨rfl, rfl⟩
set_option maxHeartbeats 400000 in
theorem crash_nil (w : World) (s : Value) : Calls Try.prog 24 #[.pointer none, s] w fun e w' => e = .returned (.tuple #[]) ∧ w = w' := by
  go_enter Try.func24, Try.ntmps24
  go_wp2
  go_returns
  exact ⟨rfl, rfl⟩

/-! ### spend -/
theorem spend_end {B : Nat} {w : World} {db : Nat} {d d' : Dev} {b b' : Bool} {N : Nat} (hs : d.spend = (b', d')) (hb : b = b') {w' : World} (h : DevAt B w' db d' N ∧ Fr FK B w w') : Ending.returned (.bool b) = .returned (.bool d.spend.1) ∧ DevAt B w' db d.spend.2 N ∧ Fr FK B w w' := by
  rw [hs, hb]; exact ⟨rfl, h⟩

set_option maxHeartbeats 400000 in
theorem spend_any {B : Nat} {w : World} {db : Nat} {d : Dev} {N : Nat} (h : DevAt B w db d N) :
    Calls Try.prog 43 #[.pointer (some ⟨db, 0, none⟩)] w fun e w' => e = .returned (.bool d.spend.1) ∧ DevAt B w' db d.spend.2 N ∧ Fr FK B w w' := by
  obtain ⟨mv, sv, -, -, -, c3, c4, c5, fz, -, -⟩ := h.cells
  have f3 := fz 3
  have f5 := fz 5
  clear fz
  have hle := h.ok.left
  by_cases h1 : d.off = true
  · rw [h1] at c3
    go_enter Try.func43, Try.ntmps43
    go_wp2
    go_ret
    exact spend_end (by simp [Dev.spend, h1]; done) rfl ⟨h, Fr.refl _ _ _⟩
  · have h1' : d.off = false := by simpa using h1
    rw [h1'] at c3
    by_cases h2 : d.armed = true
    · rw [h2] at c4
      by_cases h3 : d.left = 0
      · rw [h3] at c5
        have st := h.store (d' := { d with off := true }) 3 (.bool true) ⟨h.ok.1, h.ok.2, h.ok.3, h.ok.4, h.ok.5⟩ (fun _ _ => by simp) rfl rfl
        have ST := Lib.hid st
        clear st
        have HH := Lib.hid h
        clear h
        have H3 := Lib.hid h3
        clear h3
        go_enter Try.func43, Try.ntmps43
        go_wp2
        go_ret
        exact spend_end (by simp [Dev.spend, h1', h2, H3.out]; done) rfl ST.out
      · have st := h.store (d' := { d with left := d.left - 1 }) 5 (.int .i64 ((d.left : Int) - 1)) ⟨h.ok.1, by have := h.ok.2; simp; omega, h.ok.3, h.ok.4, h.ok.5⟩ (fun _ _ => by simp; omega) rfl rfl
        have ST := Lib.hid st
        clear st
        have HH := Lib.hid h
        clear h
        have h4 : ((d.left : Int) == 0) = false := beq_eq_false_iff_ne.2 (by omega)
        go_enter Try.func43, Try.ntmps43
        go_wp2
        go_ret
        exact spend_end (by simp [Dev.spend, h1', h2, h3]; done) rfl ST.out
    · have h2' : d.armed = false := by simpa using h2
      rw [h2'] at c4
      go_enter Try.func43, Try.ntmps43
      go_wp2
      go_ret
      exact spend_end (by simp [Dev.spend, h1', h2']; done) rfl ⟨h, Fr.refl _ _ _⟩
end Go.Proofs.Ytbgefdigmdfalaa

/- The contracts of flash's Arm, Erase, New, pick, and of the document's Pick. No statement of the seat is proved here. -/
namespace Go.Proofs.Ytbgefdigmdfalaa
set_option maxRecDepth 20000
open Go.RowKit

/-- A slice of ints that reads as zs in w, and goes on doing so while blocks of K's kinds from B on are turned. -/
def Ints (K : Obj → Bool) (B : Nat) (w : World) (v : Value) (zs : List Int) : Prop :=
  ∃ ao cap, v = .slice ao zs.length cap ∧ zs.length ≤ 9223372036854775807 ∧ ∀ i, i < zs.length → ∃ b off o, ao = some ⟨b, off, none⟩ ∧ w.heap[b]? = some o ∧ (b < B ∨ K o = false) ∧ w.cell? ⟨b, off + i, none⟩ = some (.int .i64 (zs.getD i 0))
theorem Ints.nil (K : Obj → Bool) (B : Nat) (w : World) : Ints K B w (.slice none 0 0) [] := ⟨none, 0, rfl, by simp, fun i h => by simp at h⟩
theorem Ints.fr {K : Obj → Bool} {B : Nat} {w w' : World} {v : Value} {zs : List Int} (h : Ints K B w v zs) (hf : Fr K B w w') : Ints K B w' v zs := by
  obtain ⟨ao, cap, hv, hl, hc⟩ := h
  refine ⟨ao, cap, hv, hl, fun i hi => ?_⟩
  obtain ⟨b, off, o, h1, h2, h3, h4⟩ := hc i hi
  have h5 := hf.keep _ _ h2 h3
  exact ⟨b, off, o, h1, h5, h3, by rw [World.cell?_of_block (h5.trans h2.symm)]; exact h4⟩

def pickOf (zs : List Int) (i : Nat) : Int := if i < zs.length then (zs.getD i 0) % 3 else 0
theorem tmod3 (z : Int) : -2 ≤ z.tmod 3 ∧ z.tmod 3 ≤ 2 := by rw [Int.tmod_eq_emod]; split <;> simp <;> omega
theorem tmod3_eq (z : Int) : (z.tmod 3 + 3) % 3 = z % 3 := by rw [Int.tmod_eq_emod]; split <;> simp <;> omega
theorem pick_range (zs : List Int) (i : Nat) : 0 ≤ pickOf zs i ∧ pickOf zs i ≤ 2 := by unfold pickOf; split <;> omega

set_option maxHeartbeats 400000 in
theorem pick_any {K : Obj → Bool} {B : Nat} {w : World} {v : Value} {zs : List Int} (h : Ints K B w v zs) (i : Nat) (_hi : i ≤ 9223372036854775807) :
    Calls Try.prog 46 #[v, .int .i64 i] w fun e w' => e = .returned (.int .i64 (pickOf zs i)) ∧ w = w' := by
  obtain ⟨ao, cap, rfl, hle, hc⟩ := h
  by_cases hlt : i < zs.length
  · obtain ⟨b, off, o, rfl, -, -, hcell⟩ := hc i hlt
    clear hc
    have HP : Hid (pickOf zs i = (zs.getD i 0) % 3) := by unfold pickOf; rw [if_pos hlt]; exact rfl
    generalize hz : zs.getD i 0 = z at hcell HP
    clear hz
    have hb := tmod3 z
    have HE := Lib.hid (tmod3_eq z)
    go_enter Try.func46, Try.ntmps46
    go_wp2
    go_ret
    refine ⟨?_, rfl⟩
    rw [HP.out]
    first | rfl | (rw [HE.out]; rfl) | (rw [← HE.out]; rfl)
  · have hp : pickOf zs i = 0 := by unfold pickOf; rw [if_neg hlt]
    have HP := Lib.hid hp
    clear hp hc
    go_enter Try.func46, Try.ntmps46
    go_wp2
    go_ret
    exact ⟨by rw [HP.out]; rfl, rfl⟩
set_option maxHeartbeats 400000 in
theorem Pick_any {K : Obj → Bool} {B : Nat} {w : World} {v : Value} {zs : List Int} (h : Ints K B w v zs) (i : Nat) (_hi : i ≤ 9223372036854775807) :
    Calls Try.prog 47 #[v, .int .i64 i] w fun e w' => e = .returned (.int .i64 (pickOf zs i)) ∧ w = w' := by
  obtain ⟨ao, cap, rfl, hle, hc⟩ := h
  by_cases hlt : i < zs.length
  · obtain ⟨b, off, o, rfl, -, -, hcell⟩ := hc i hlt
    clear hc
    have HP : Hid (pickOf zs i = (zs.getD i 0) % 3) := by unfold pickOf; rw [if_pos hlt]; exact rfl
    generalize hz : zs.getD i 0 = z at hcell HP
    clear hz
    have hb := tmod3 z
    have HE := Lib.hid (tmod3_eq z)
    go_enter Try.func47, Try.ntmps47
    go_wp2
    go_ret
    refine ⟨?_, rfl⟩
    rw [HP.out]
    first | rfl | (rw [HE.out]; rfl) | (rw [← HE.out]; rfl)
  · have hp : pickOf zs i = 0 := by unfold pickOf; rw [if_neg hlt]
    have HP := Lib.hid hp
    clear hp hc
    go_enter Try.func47, Try.ntmps47
    go_wp2
    go_ret
    exact ⟨by rw [HP.out]; rfl, rfl⟩

/-! ### Arm, Erase, New -/
set_option maxHeartbeats 400000 in
theorem arm_any {B : Nat} {w : World} {db : Nat} {d : Dev} {N : Nat} (h : DevAt B w db d N) (n : Int) (hn : n ≤ 9223372036854775807) :
    Calls Try.prog 26 #[.pointer (some ⟨db, 0, none⟩), .int .i64 n] w fun e w' => e = .returned (.tuple #[]) ∧ DevAt B w' db (d.arm n) N ∧ Fr FK B w w' := by
  obtain ⟨mv, sv, -, -, -, -, c4, c5, fz, -, -⟩ := h.cells
  have f4 := fz 4
  have f5 := fz 5
  clear fz
  obtain ⟨s1, r1⟩ := h.store (d' := { d with armed := decide (0 ≤ n) }) 4 (.bool (decide (0 ≤ n))) ⟨h.ok.1, h.ok.2, h.ok.3, h.ok.4, h.ok.5⟩ (fun _ _ => by simp) rfl rfl
  obtain ⟨s2, r2⟩ := s1.store (d' := d.arm n) 5 (.int .i64 (max n 0)) ⟨h.ok.1, by simp [Dev.arm]; omega, h.ok.3, h.ok.4, h.ok.5⟩ (fun _ _ => by simp [Dev.arm]) rfl rfl
  have ST := Lib.hid (And.intro s2 (r1.trans r2))
  clear s1 s2 r1 r2 h
  by_cases hn0 : 0 ≤ n
  · have e1 : decide (0 ≤ n) = true := by simpa using hn0
    have e2 : max n 0 = n := by omega
    rw [e1, e2] at ST
    clear e1 e2
    go_enter Try.func26, Try.ntmps26
    go_wp2
    go_returns
    exact ⟨rfl, ST.out⟩
  · have e1 : decide (0 ≤ n) = false := by simpa using hn0
    have e2 : max n 0 = 0 := by omega
    rw [e1, e2] at ST
    clear e1 e2
    go_enter Try.func26, Try.ntmps26
    go_wp2
    go_returns
    exact ⟨rfl, ST.out⟩

theorem fresh_ok (n : Nat) (h : n ≤ 4096) : (Dev.fresh n).Ok := ⟨h, by simp [Dev.fresh], by simp [Dev.fresh], by simp [Dev.fresh], fun _ => zeros_length⟩
theorem devAt_new (B : Nat) (w : World) (n : Nat) (hn : n ≤ 4096) (hB : B ≤ w.heap.size) : DevAt B (w.alloc (.cells #[.int .i64 n, .map none, .slice none 0 0, .bool false, .bool false, .int .i64 0] 74)) w.heap.size (Dev.fresh n) 0 :=
  ⟨fresh_ok n hn, hB, .map none, .slice none 0 0, heap_alloc_new w _, Or.inl ⟨rfl, fun _ => rfl⟩, World.ownsRow_nil _ _ _ _⟩
set_option maxHeartbeats 400000 in
theorem new_any (B : Nat) (w : World) (n : Nat) (h1 : 1 ≤ n) (h2 : n ≤ 4096) (hB : B ≤ w.heap.size) :
    Calls Try.prog 9 #[.int .i64 n] w fun e w' => e = .returned (.tuple #[.pointer (some ⟨w.heap.size, 0, none⟩), .int .i64 0]) ∧ DevAt B w' w.heap.size (Dev.fresh n) 0 ∧ Below w.heap.size w w' ∧ w.heap.size < w'.heap.size := by
  have HD := Lib.hid (devAt_new B w n h2 hB)
  go_enter Try.func9, Try.ntmps9
  go_wp2
  go_ret2
  exact ⟨rfl, HD.out, (Below.refl _ _).alloc (Nat.le_refl _) _, by simp⟩
set_option maxHeartbeats 400000 in
theorem new_no (w : World) (n : Int) (h : n < 1 ∨ 4096 < n) :
    Calls Try.prog 9 #[.int .i64 n] w fun e w' => e = .returned (.tuple #[.pointer none, .int .i64 1]) ∧ w = w' := by
  rcases h with h | h
  · go_enter Try.func9, Try.ntmps9
    go_wp2
    go_ret2
    exact ⟨rfl, rfl⟩
  · have h' : ¬ n < 1 := by omega
    go_enter Try.func9, Try.ntmps9
    go_wp2
    go_ret2
    exact ⟨rfl, rfl⟩

/-- Six stores that write a whole device anew. -/
theorem six_heap {w : World} {db : Nat} {a0 a1 a2 a3 a4 a5 : Value} {t : TypeId} (h : w.heap[db]? = some (.cells #[a0, a1, a2, a3, a4, a5] t (0, 0))) (v0 v1 v2 v3 v4 v5 : Value) :
    ((((((w.setCell ⟨db, 0, none⟩ v0).setCell ⟨db, 1, none⟩ v1).setCell ⟨db, 2, none⟩ v2).setCell ⟨db, 3, none⟩ v3).setCell ⟨db, 4, none⟩ v4).setCell ⟨db, 5, none⟩ v5).heap[db]? = some (.cells #[v0, v1, v2, v3, v4, v5] t (0, 0)) := by
  have h0 := heap_setCell_same w db 0 _ t v0 h
  have h1 := heap_setCell_same _ db 1 _ t v1 h0
  have h2 := heap_setCell_same _ db 2 _ t v2 h1
  have h3 := heap_setCell_same _ db 3 _ t v3 h2
  have h4 := heap_setCell_same _ db 4 _ t v4 h3
  have h5 := heap_setCell_same _ db 5 _ t v5 h4
  simpa using h5
theorem six_other {w : World} {db k : Nat} (v0 v1 v2 v3 v4 v5 : Value) (hk : k ≠ db) :
    ((((((w.setCell ⟨db, 0, none⟩ v0).setCell ⟨db, 1, none⟩ v1).setCell ⟨db, 2, none⟩ v2).setCell ⟨db, 3, none⟩ v3).setCell ⟨db, 4, none⟩ v4).setCell ⟨db, 5, none⟩ v5).heap[k]? = w.heap[k]? := by
  rw [Below.heap_setCell _ _ _ _ hk, Below.heap_setCell _ _ _ _ hk, Below.heap_setCell _ _ _ _ hk, Below.heap_setCell _ _ _ _ hk, Below.heap_setCell _ _ _ _ hk, Below.heap_setCell _ _ _ _ hk]
theorem fr_of_other {K : Obj → Bool} {B : Nat} {w w' : World} {db : Nat} {o : Obj} (h : w.heap[db]? = some o) (hB : B ≤ db) (hK : K o = true) (hos : w'.os = w.os) (ht : w'.tape = w.tape) (hout : w'.output = w.output) (hs : w'.heap.size = w.heap.size)
    (hoth : ∀ k, k ≠ db → w'.heap[k]? = w.heap[k]?) : Fr K B w w' :=
  ⟨hos, ht, hout, Nat.le_of_eq hs.symm, fun k o' hk hko => by
    have hne : k ≠ db := by
      rintro rfl
      rw [h] at hk; cases hk
      rcases hko with hko | hko
      · omega
      · rw [hK] at hko; cases hko
    rw [hoth k hne]; exact hk⟩
theorem os_setCell (w : World) (p : Addr) (v : Value) : (w.setCell p v).os = w.os := rfl
theorem tape_setCell (w : World) (p : Addr) (v : Value) : (w.setCell p v).tape = w.tape := rfl
theorem output_setCell (w : World) (p : Addr) (v : Value) : (w.setCell p v).output = w.output := rfl
theorem six_fr {K : Obj → Bool} {B : Nat} {w : World} {db : Nat} {o : Obj} (h : w.heap[db]? = some o) (hB : B ≤ db) (hK : K o = true) (v0 v1 v2 v3 v4 v5 : Value) :
    Fr K B w ((((((w.setCell ⟨db, 0, none⟩ v0).setCell ⟨db, 1, none⟩ v1).setCell ⟨db, 2, none⟩ v2).setCell ⟨db, 3, none⟩ v3).setCell ⟨db, 4, none⟩ v4).setCell ⟨db, 5, none⟩ v5) := by
  refine fr_of_other h hB hK ?_ ?_ ?_ ?_ (fun k hk => six_other _ _ _ _ _ _ hk)
  · simp only [os_setCell]
  · simp only [tape_setCell]
  · simp only [output_setCell]
  · simp only [World.size_setCell]
/-- .. with the map that it had, and nothing that waits. -/
theorem DevAt.again {B : Nat} {w : World} {db : Nat} {d d' : Dev} {N N' : Nat} (h : DevAt B w db d N) {mv mv' : Value} (hm : LastIs B w mv d'.last N')
    (hmv : mv' = mv) (hd : d'.Ok) (hw : d'.waits = []) :
    DevAt B ((((((w.setCell ⟨db, 0, none⟩ (.int .i64 d'.size)).setCell ⟨db, 1, none⟩ mv').setCell ⟨db, 2, none⟩ (.slice none 0 0)).setCell ⟨db, 3, none⟩ (.bool d'.off)).setCell ⟨db, 4, none⟩ (.bool d'.armed)).setCell ⟨db, 5, none⟩ (.int .i64 d'.left)) db d' N' := by
  subst hmv
  obtain ⟨ok, ge, mv0, sv, h1, h2, h3⟩ := h
  refine ⟨hd, ge, mv', .slice none 0 0, six_heap h1 _ _ _ _ _ _, hm.of_map (fun k es c hk => ?_), ?_⟩
  · rw [six_other _ _ _ _ _ _ (by rintro rfl; rw [h1] at hk; cases hk)]; exact hk
  · rw [hw]; exact World.ownsRow_nil _ _ _ _

def Dev.erase (d : Dev) : Dev := Dev.fresh d.size
end Go.Proofs.Ytbgefdigmdfalaa

/- The contract of the flash device's keep. No statement of the seat is proved here. -/
namespace Go.Proofs.Ytbgefdigmdfalaa
set_option maxRecDepth 20000
open Go.RowKit

def upd (f : Int → List UInt8 × Bool) (i : Int) (p : List UInt8 × Bool) : Int → List UInt8 × Bool := fun k => if k = i then p else f k
def Dev.keep (d : Dev) (i : Int) (p : List UInt8 × Bool) : Dev := { d with last := upd d.last i p }
theorem keep_ok {d : Dev} (h : d.Ok) (i : Int) {p : List UInt8 × Bool} (hp : p.1.length = 256) : (d.keep i p).Ok :=
  ⟨h.1, h.2, h.3, h.4, fun k => by simp only [Dev.keep, upd]; split; exact hp; exact h.5 k⟩
theorem secCells_size (p : List UInt8 × Bool) (hp : p.1.length = 256) : (secCells p).toArray.size = 257 := by simp [secCells, cellsB_length, hp]
theorem sz68 : (Try.prog.info? 94).map (·.size) = some 257 := by kernel_rfl
theorem sz65 : (Try.prog.info? 91).map (·.size) = some 257 := by kernel_rfl
theorem sz63 : (Try.prog.info? 89).map (·.size) = some 256 := by kernel_rfl
theorem keyed3 : Maps.Keyed Try.prog 3 := Maps.int_keyed Try.underlying3
/-- The kinds of blocks that keep may turn. -/
def KK : Obj → Bool
  | .map _ _ => true
  | .cells _ t _ => t == 74
  | _ => false
theorem KK_FK (o : Obj) (h : FK o = false) : KK o = false := by
  cases o <;> simp_all [KK, FK]
theorem Fr.kk {B : Nat} {w w' : World} (h : Fr KK B w w') : Fr FK B w w' := h.mono (Nat.le_refl _) KK_FK
/-- What the store into the map makes of the device. -/
theorem keep_end {B : Nat} {w w2 : World} {db mb : Nat} {d : Dev} {N : Nat} {D : DataW Unit} {sv : Value} (ok : d.Ok) (ge : B ≤ db) (hmb : B ≤ mb)
    (h1 : w.heap[db]? = some (.cells #[.int .i64 d.size, .map (some mb), sv, .bool d.off, .bool d.armed, .int .i64 d.left] 74 (0, 0)))
    (h3 : w.ownsRow B 91 257 sv d.waits.length (d.waits.flatMap wrCells)) (hm : Maps.IsMap D) (hat : ∀ k, D.atKey (.int .i64 k) (secD (zeros, false)) = secD (d.last k))
    (i : Int) (p : List UInt8 × Bool) (hp : p.1.length = 256) (hmap : ∃ es c, w.heap[mb]? = some (.map es c))
    (ho : w2.ownsMap Try.prog 3 secRd mb (N + 1) (D.put (.int .i64 i) (secD p))) (hg : w.grownBy w2 (some mb)) : DevAt B w2 db (d.keep i p) (N + 1) ∧ Fr KK B w w2 := by
  obtain ⟨es, c, hes⟩ := hmap
  have hk : ∀ (k : Nat) cs t f, w.heap[k]? = some (.cells cs t f) → w2.heap[k]? = some (.cells cs t f) := fun k cs t f hh =>
    (hg.block k (lt_of_heap hh) (fun e => by cases e; rw [hes] at hh; cases hh)).trans hh
  refine ⟨⟨keep_ok ok i hp, ge, .map (some mb), sv, hk _ _ _ _ h1, Or.inr ⟨mb, _, rfl, hmb, ho, hm.put _ _, fun k => ?_⟩, ownsRow_of_row h3 (fun k cs hh => hk _ _ _ _ hh)⟩,
    (Fr.refl _ _ _).grown hg (fun k e => by cases e; exact ⟨hmb, _, hes, rfl⟩)⟩
  show _ = secD (upd d.last i p k)
  unfold upd
  by_cases e : k = i
  · subst e; rw [if_pos rfl]; exact Maps.atKey_put_same hm (by trivial) _ _
  · rw [if_neg e, Maps.atKey_put_other (by simpa using e)]; exact hat k

set_option maxHeartbeats 400000 in
theorem keep_any {B : Nat} {w : World} {db : Nat} {d : Dev} {N : Nat} (h : DevAt B w db d N) (i : Int) (hi : 0 ≤ i ∧ i < 4096) (p : List UInt8 × Bool) (hp : p.1.length = 256) (hN : N < maxLen) :
    Calls Try.prog 44 #[.pointer (some ⟨db, 0, none⟩), .int .i64 i, secV p] w fun e w' => e = .returned (.tuple #[]) ∧ DevAt B w' db (d.keep i p) (N + 1) ∧ Fr KK B w w' := by
  have hcs := secCells_size p hp
  unfold secV
  generalize hC : (secCells p).toArray = C at hcs
  have HC := Lib.hid hC
  clear hC
  go_enter Try.func44, Try.ntmps44
  go_wp2_with (with_reducible refine wpList_box_row rfl 94 (.tmp 2) rfl C rfl ?_)
  intro w1 hg hb hs
  have hwf : (Lit.int .i64 i).wf = true := WalkArith.wf_i64 (by omega)
  have HK := Lib.hid (Maps.keyOf_int_mk (k := 3) Try.underlying3 hwf)
  clear hwf
  have HV : Hid (secRd (.agg C) = some (secD p, [])) := by rw [← HC.out]; exact secRd_mk p
  have FB : Fr KK B w w1 := Fr.of_below hb
  have hd0 := h.below hb
  have HG := Lib.hid hg
  have hlt := hs
  clear hg hs hb
  obtain ⟨ok, ge, mv, sv, hd1, hl1, hr1⟩ := hd0
  have c1 := cell_row hd1 1 rfl
  have f1 := free_row hd1 1
  have hdb := lt_of_heap hd1
  have heq := fun (r : Option Nat) (w : World) => run_eql_map_nil (P := Try.prog) w 71 3 94 r Try.underlying71
  rcases hl1 with ⟨rfl, hz⟩ | ⟨mb, D, rfl, hmb, hown, him, hat⟩
  · have hd1' : w1.heap[db]? = some (.cells #[.int .i64 d.size, .map none, sv, .bool d.off, .bool d.armed, .int .i64 d.left] 74 (0, 0)) := hd1
    have HD := Lib.hid hd1'
    clear hd1 hd1'
    go_wp2_with (with_reducible refine wpList_makeMap rfl 71 rfl ?_)
    intro w2 hg2 hb2 hs2
    have hd2 := (hb2.block _ hdb).trans HD.out
    have c2 := cell_row hd2 1 rfl
    have f2 := free_row hd2 1
    have HD2 := Lib.hid hd2
    have HG2 := Lib.hid hg2
    clear hd2 c1 f1 hg2
    go_wp2
    have hd3 := heap_setCell_same w2 db 1 _ _ (.map (some w1.heap.size)) HD2.out
    have hm3 : (w2.setCell ⟨db, 1, none⟩ (.map (some w1.heap.size))).heap[w1.heap.size]? = some (.map #[] 0) := by
      rw [Below.heap_setCell _ _ _ _ (by show w1.heap.size ≠ db; omega)]; exact HG2.out
    have hg3 : (w2.setCell ⟨db, 1, none⟩ (.map (some w1.heap.size))).heap[w.heap.size]? = some (.cells C 94 (0, 0)) := by
      rw [Below.heap_setCell _ _ _ _ (by rintro e; have := (hb2.block _ hlt).trans HG.out; rw [show (Addr.block ⟨db, 1, none⟩) = db from rfl] at e; rw [e, HD2.out] at this; simp at this)]
      exact (hb2.block _ hlt).trans HG.out
    have hr3 : (w2.setCell ⟨db, 1, none⟩ (.map (some w1.heap.size))).ownsRow B 91 257 sv d.waits.length (d.waits.flatMap wrCells) := by
      refine ownsRow_of_row hr1 (fun k cs hk => ?_)
      rw [Below.heap_setCell _ _ _ _ (by rintro rfl; rw [HD.out] at hk; simp at hk)]
      exact (hb2.block _ (lt_of_heap hk)).trans hk
    have F3 : Fr KK B w (w2.setCell ⟨db, 1, none⟩ (.map (some w1.heap.size))) :=
      (FB.trans (Fr.of_below hb2)).setCell HD2.out ge rfl _
    generalize w2.setCell ⟨db, 1, none⟩ (.map (some w1.heap.size)) = w3 at *
    simp only [List.setIfInBounds_toArray, List.set_cons_succ, List.set_cons_zero] at hd3
    have c3 := cell_row hd3 1 rfl
    have HD3 := Lib.hid hd3
    clear hd3 c2 f2 heq
    have hown3 : w3.ownsMap Try.prog 3 secRd w1.heap.size N (.map []) := ⟨#[], 0, hm3, ⟨by simp, MapKept.stamped_empty 0, by simp⟩, Nat.zero_le _, rfl⟩
    refine wp_region_still_tail 6 mixed (by kernel_rfl) ?_
    simp only [List.take_succ_cons, List.take_zero, List.drop_succ_cons, List.drop_zero]
    still_step
    still_step
    still_step
    still_step
    still_step
    refine wpStill_load_row rfl 94 (.tmp 5) rfl w.heap.size 94 (0, 0) C rfl ?hgx _ Try.underlying94 rfl (by rw [sz68, hcs]) ?_
    case hgx => exact hg3
    refine wpStill_nil ?_
    refine wpList_mapUpdate_own w3.drew rfl (.tmp 18) (.tmp 19) (.tmp 20) 71 rfl 3 94 keyed3 Try.underlying71 secRd w1.heap.size N (.map []) rfl hown3 hN (.int .i64 i) (.agg C) (.int .i64 i) rfl rfl HK.out (secD p) [] HV.out ?_
    intro w4 hown4 hgr4
    go_wp2
    go_returns
    obtain ⟨r1, r2⟩ := keep_end ok ge (by have := lt_of_heap HD.out; omega) HD3.out hr3 Maps.isMap_empty (fun k => by rw [hz k]; exact rfl) i p hp ⟨_, _, hm3⟩ hown4 ⟨hgr4.os, hgr4.tape, hgr4.output, hgr4.size, hgr4.block⟩
    exact ⟨rfl, r1, F3.trans r2⟩
  · go_wp2
    have HD := Lib.hid hd1
    clear hd1
    have hmap : ∃ es c, w1.heap[mb]? = some (.map es c) := by obtain ⟨es, c, h, _⟩ := hown; exact ⟨es, c, h⟩
    refine wp_region_still_tail 6 mixed (by kernel_rfl) ?_
    simp only [List.take_succ_cons, List.take_zero, List.drop_succ_cons, List.drop_zero]
    still_step
    still_step
    still_step
    still_step
    still_step
    refine wpStill_load_row rfl 94 (.tmp 5) rfl w.heap.size 94 (0, 0) C rfl ?hgx _ Try.underlying94 rfl (by rw [sz68, hcs]) ?_
    case hgx => exact HG.out
    refine wpStill_nil ?_
    refine wpList_mapUpdate_own w1.drew rfl (.tmp 18) (.tmp 19) (.tmp 20) 71 rfl 3 94 keyed3 Try.underlying71 secRd mb N D rfl hown hN (.int .i64 i) (.agg C) (.int .i64 i) rfl rfl HK.out (secD p) [] HV.out ?_
    intro w4 hown4 hgr4
    go_wp2
    go_returns
    obtain ⟨r1, r2⟩ := keep_end ok ge hmb HD.out hr1 him hat i p hp hmap hown4 ⟨hgr4.os, hgr4.tape, hgr4.output, hgr4.size, hgr4.block⟩
    exact ⟨rfl, r1, FB.trans r2⟩
end Go.Proofs.Ytbgefdigmdfalaa

/- The contract of the flash device's Write. No statement of the seat is proved here. -/
namespace Go.Proofs.Ytbgefdigmdfalaa
set_option maxRecDepth 20000
open Go.RowKit

theorem FK_bytes (cs : Array Value) (fz : Nat × Nat) : FK (.cells cs 5 fz) = false := rfl

def Dev.write (d : Dev) (i : Int) (bs : List UInt8) : Int × Dev :=
  if d.has i = false ∨ bs.length ≠ 256 then (1, d) else if d.spend.1 = false then (4, d.spend.2) else (0, { d.spend.2 with waits := d.spend.2.waits ++ [(i, bs)] })

theorem spend_waits (d : Dev) : d.spend.2.waits = d.waits ∧ d.spend.2.size = d.size ∧ d.spend.2.last = d.last := by unfold Dev.spend; (repeat' split) <;> exact ⟨rfl, rfl, rfl⟩

theorem build65 (i : Int) (w : World) : (Instr.build 91 #[(0, .int .i64 i)]).run Try.prog w = .ok (.agg (wrCells (i, zeros)).toArray) w := by kernel_rfl
theorem zero65 (w : World) : (zeroValue 91).run Try.prog w = .ok (.agg (wrCells (0, zeros)).toArray) w := by kernel_rfl
theorem wrCells_size (p : Int × List UInt8) (h : p.2.length = 256) : (wrCells p).length = 257 := by simp [wrCells, cellsB_length, h]
theorem wrCells_one (p : Int × List UInt8) : ∀ u ∈ wrCells p, u.oneCell' = true := by
  intro u hu
  simp only [wrCells, List.mem_cons] at hu
  rcases hu with rfl | hu
  · rfl
  · exact oneCell_cellsB _ u hu
theorem szs (i j : Int) : (wrCells (i, zeros)).toArray.size = (wrCells (j, zeros)).toArray.size := by simp [wrCells, cellsB_length]
theorem sz65i {i : Int} : (Try.prog.info? 91).map (·.size) = some (wrCells (i, zeros)).toArray.size := by rw [sz65, List.size_toArray, wrCells_size _ zeros_length]
theorem splice_wr (i : Int) (bs : List UInt8) (h : bs.length = 256) : splice (wrCells (i, zeros)) 1 (cellsB bs) = wrCells (i, bs) := by
  simp only [splice, wrCells, List.take_succ_cons, List.take_zero, cellsB_length, h]
  rw [List.drop_eq_nil_of_le (by simp [cellsB_length, zeros_length])]
  simp

theorem info65 : (Try.prog.info? 91).map (fun i => (i.zero, i.size, i.bytes)) = some (some (.agg (wrCells (0, zeros)).toArray), 257, 264) := by kernel_rfl
theorem zc65 : (Value.cells (.agg (wrCells (0, zeros)).toArray)).size = 257 := by
  have := wrCells_size (0, zeros) zeros_length
  simpa [Value.cells] using this
theorem szSlice : (Try.prog.info? 72).map (·.size) = some 1 := by kernel_rfl
/-- What the append and the store of the field make of the device. -/
theorem write_end {B : Nat} {w w7 : World} {db : Nat} {d : Dev} {N : Nat} {mv sv : Value} {g cap : Nat} (ok : d.Ok) (ge : B ≤ db)
    (hd : w.heap[db]? = some (.cells #[.int .i64 d.size, mv, sv, .bool d.off, .bool d.armed, .int .i64 d.left] 74 (0, 0))) (hl : LastIs B w mv d.last N) (hr : w.ownsRow B 91 257 sv d.waits.length (d.waits.flatMap wrCells))
    (i : Int) (bs : List UInt8) (hi : 0 ≤ i ∧ i < d.size) (hbs : bs.length = 256)
    (ho : w7.ownsRow B 91 257 (.slice (some ⟨g, 0, none⟩) (d.waits.length + 1) cap) (d.waits.length + 1) (d.waits.flatMap wrCells ++ wrCells (i, bs))) (hgr : w.grownBy w7 sv.ownBlock) :
    DevAt B (w7.setCell ⟨db, 2, none⟩ (.slice (some ⟨g, 0, none⟩) (d.waits.length + 1) cap)) db { d with waits := d.waits ++ [(i, bs)] } N ∧ Fr FK B w (w7.setCell ⟨db, 2, none⟩ (.slice (some ⟨g, 0, none⟩) (d.waits.length + 1) cap)) := by
  have hrow : ∀ k, sv.ownBlock = some k → B ≤ k ∧ ∃ cs, w.heap[k]? = some (.cells cs 91 (0, 0)) := by
    intro k hk
    rcases hr.2 with ⟨rfl, _⟩ | ⟨g', cap', cur, rfl, hb, hg, _⟩
    · simp [Value.ownBlock] at hk
    · simp [Value.ownBlock] at hk; subst hk; exact ⟨hb, cur, hg⟩
  have hk : ∀ (k : Nat) o, w.heap[k]? = some o → (∀ cs, o ≠ .cells cs 91 (0, 0)) → w7.heap[k]? = some o := fun k o hh hne =>
    (hgr.block k (lt_of_heap hh) (fun e => by obtain ⟨_, cs, h2⟩ := hrow k e.symm; rw [hh] at h2; exact hne cs (Option.some.inj h2))).trans hh
  have hd7 := hk _ _ hd (fun cs e => by simp at e)
  have hd8 := heap_setCell_same w7 db 2 _ _ (.slice (some ⟨g, 0, none⟩) (d.waits.length + 1) cap) hd7
  simp only [List.setIfInBounds_toArray, List.set_cons_succ, List.set_cons_zero] at hd8
  refine ⟨⟨⟨ok.1, ok.2, ?_, ?_, ok.5⟩, ge, mv, _, hd8, ?_, ?_⟩, ?_⟩
  · intro p hp
    rcases List.mem_append.1 hp with hp | hp
    · exact ok.at_ p hp
    · rw [List.mem_singleton.1 hp]; exact hi
  · intro p hp
    rcases List.mem_append.1 hp with hp | hp
    · exact ok.len p hp
    · rw [List.mem_singleton.1 hp]; exact hbs
  · refine hl.of_map (fun k es c hh => ?_)
    rw [Below.heap_setCell _ _ _ _ (by rintro rfl; rw [hd] at hh; cases hh)]
    exact hk _ _ hh (fun cs e => by cases e)
  · simp only [List.length_append, List.length_singleton, List.flatMap_append, List.flatMap_cons, List.flatMap_nil, List.append_nil]
    refine ownsRow_of_row ho (fun k cs hh => ?_)
    rw [Below.heap_setCell _ _ _ _ (by rintro rfl; rw [hd7] at hh; simp at hh)]; exact hh
  · exact ((Fr.refl _ _ _).grown hgr (fun k e => by obtain ⟨h1, cs, h2⟩ := hrow k e; exact ⟨h1, _, h2, rfl⟩)).setCell hd7 ge rfl _

set_option maxHeartbeats 400000 in
theorem write_nil (w : World) (i : Int) (v : Value) : Calls Try.prog 29 #[.pointer none, .int .i64 i, v] w fun e w' => e = .returned (.int .i64 1) ∧ w = w' := by
  go_enter Try.func29, Try.ntmps29
  go_wp2_with (go_at_call 49; refine (has_nil _ _).mono ?_; rintro e w' ⟨rfl, rfl⟩)
  go_ret
  exact ⟨rfl, rfl⟩
set_option maxHeartbeats 400000 in
theorem write_any {B : Nat} {w : World} {db : Nat} {d : Dev} {N : Nat} (h : DevAt B w db d N) (i : Int) {v : Value} {bs : List UInt8} (hv : BytesAt w v bs) (hlen : d.waits.length < 1000000) (hB : B ≤ w.heap.size) :
    Calls Try.prog 29 #[.pointer (some ⟨db, 0, none⟩), .int .i64 i, v] w fun e w' => e = .returned (.int .i64 (d.write i bs).1) ∧ DevAt B w' db (d.write i bs).2 N ∧ Fr FK B w w' := by
  have hc := has_any h i
  by_cases hh : d.has i = true
  · rw [hh] at hc
    by_cases hl : bs.length = 256
    · have hsp := spend_any h
      by_cases hs : d.spend.1 = true
      · have HW : Hid (d.write i bs = (0, { d.spend.2 with waits := d.spend.2.waits ++ [(i, bs)] })) := by unfold Dev.write; rw [if_neg (by simp [hh, hl]), if_neg (by simp [hs])]; exact rfl
        rw [hs] at hsp
        obtain ⟨ao, cap, rfl⟩ : ∃ ao cap, v = .slice ao bs.length cap := by obtain ⟨ao, cap, e, _⟩ := hv; exact ⟨ao, cap, e⟩
        have HC := Lib.hid hc
        have HS := Lib.hid hsp
        have HL := Lib.hid hl
        have hl' : ((bs.length : Int) != 256) = false := by simp [hl]
        have HV := Lib.hid hv
        have HI : Hid (0 ≤ i ∧ i < d.size) := by simpa [Dev.has, Hid] using hh
        clear hc hsp hl hv hh hs
        go_enter Try.func29, Try.ntmps29
        go_wp2_with fail
        refine HC.out.mono ?_
        rintro e w' ⟨rfl, rfl⟩
        go_wp2_with fail
        refine HS.out.mono ?_
        rintro e w1 ⟨rfl, h1, f1⟩
        go_wp2_with (first
          | (with_reducible refine wpList_build1 rfl 91 0 (.tmp 20) rfl (.int .i64 i) (.agg (wrCells (i, zeros)).toArray) rfl (build65 i _) ?_)
          | (with_reducible refine wpList_alloc_row rfl 91 rfl (wrCells (0, zeros)).toArray (zero65 _) ?_; intro w2 hg2 hb2 hs2)
          | (with_reducible refine wpList_store_row rfl 91 (.tmp 7) (.tmp 21) rfl w1.heap.size 91 (wrCells (0, zeros)).toArray (wrCells (i, zeros)).toArray rfl rfl hg2 sz65i (szs _ _) (all_oneCell_toArray (wrCells_one _)) ?_; intro w3 hg3 hgr3 hs3; have hb3 := Below.grown hb2 hgr3 (Nat.le_of_lt hs2) (fun k e => by cases e; exact Nat.le_refl _); have hv3 := (HV.out.fr f1 FK_bytes).below hb3)
          | (with_reducible refine wpList_copy_splice rfl (.tmp 23) (.tmp 24) 59 59 rfl 5 Try.underlying59 sz5 (some ⟨w1.heap.size, 1, none⟩) ao 256 256 bs.length cap rfl rfl w1.heap.size 1 (wrCells (i, zeros)) 91 hg3 (cellsB bs) ?hn (fun h0 => ⟨rfl, hv3.src h0⟩) ?hfit (oneCell_cellsB bs) w1.heap.size w1 hb3 (Nat.le_refl _) ?_))
        case hn => simp [cellsB_length, HL.out]
        case hfit => simp [cellsB_length, HL.out, wrCells, zeros_length]
        intro w4 hg4 hb4
        have hg4' : w4.heap[w1.heap.size]? = some (.cells (wrCells (i, bs)).toArray 91 (0, 0)) := by rw [← splice_wr i bs HL.out]; exact hg4.out
        clear hg4 hg3 hgr3 hs3 hb3 hv3 hg2 hb2 hs2
        have HG := Lib.hid hg4'
        have h4 := h1.below hb4
        have HB4 := Lib.hid hb4
        clear hg4' hb4
        go_wp2
        obtain ⟨ok4, ge4, mv, sv, hd4, hl4, hr4⟩ := h4
        refine wp_region_any mixed ?_
        show wpAny _ _ _ _ 11 (Array.replicate 11 false) _ w4.drew
        refine wpAny_take_d 0 (some 26) (.pointer (some ⟨db, 0, none⟩)) rfl (by kernel_rfl) (by kernel_rfl) (by kernel_rfl) rfl rfl (fun _ _ _ h => h) (fun _ => by kernel_rfl) ?_
        simp only [Act.put, List.setIfInBounds_toArray, List.set_cons_succ, List.set_cons_zero]
        refine wpAny_take_d 1 (some 27) (.pointer (some ⟨db, 0, none⟩)) rfl (by kernel_rfl) (by kernel_rfl) (by kernel_rfl) rfl rfl (fun _ _ _ h => h) (fun _ => by kernel_rfl) ?_
        simp only [Act.put, List.setIfInBounds_toArray, List.set_cons_succ, List.set_cons_zero]
        refine wpAny_take_d 2 (some 28) (.pointer (some ⟨db, 0, none⟩)) rfl (by kernel_rfl) (by kernel_rfl) (by kernel_rfl) rfl rfl (fun _ _ _ h => h) (fun _ => by kernel_rfl) ?_
        simp only [Act.put, List.setIfInBounds_toArray, List.set_cons_succ, List.set_cons_zero]
        refine wpAny_take_d 3 (some 29) (.pointer (some ⟨db, 2, none⟩)) rfl (by kernel_rfl) (by kernel_rfl) (by kernel_rfl) rfl rfl (fun _ _ _ h => h) (fun _ => by kernel_rfl) ?_
        simp only [Act.put, List.setIfInBounds_toArray, List.set_cons_succ, List.set_cons_zero]
        have hWr : (wrCells (i, bs)).length = 257 := wrCells_size _ HL.out
        obtain ⟨i0, hi0, hz0, hz1, hz2⟩ := info_parts info65
        have hc5 : w4.drew.cell? ⟨db, 2, none⟩ = some sv := cell_row hd4 2 rfl
        have hg5 : w4.drew.heap[w1.heap.size]? = some (.cells (wrCells (i, bs)).toArray 91 (0, 0)) := HG.out
        have hd6 : (w4.drew.alloc (.cells (wrCells (i, bs)).toArray 91)).heap[db]? = _ := (Below.heap_alloc _ _ _ (lt_of_heap hd4)).trans hd4
        have hc6 : (w4.drew.alloc (.cells (wrCells (i, bs)).toArray 91)).cell? ⟨db, 2, none⟩ = some sv := cell_row hd6 2 rfl
        have hbs := run_buildSlice_one (P := Try.prog) w4.drew 72 91 i0 _ (wrCells (i, bs)) Try.underlying72 hi0 hz0 (by rw [hz1, hWr]) (by omega) (by omega)
        have HW1 := wrCells_one (i, bs)
        generalize hWc : wrCells (i, bs) = Wc at *
        have HWc := Lib.hid hWc
        clear hWc
        refine wpAny_two_loads 4 5 6 (some 30) (some 31) (some 32) rfl rfl rfl rfl rfl rfl (by decide) (by decide) rfl rfl rfl (by rintro d h; cases h; simp) (by rintro d h; cases h; simp) (by kernel_rfl) (by kernel_rfl) (by kernel_rfl) (by kernel_rfl) (by kernel_rfl)
          (w := w4.drew) (v4 := sv) (v5 := .agg Wc.toArray) (v6 := .slice (some ⟨w4.heap.size, 0, none⟩) 1 1) (w6 := w4.drew.alloc (.cells Wc.toArray 91))
          (exec_load_cell rfl rfl hc5 Try.underlying72 rfl) (exec_load_row rfl rfl hg5 Try.underlying91 rfl (by rw [sz65]; simp [hWr]))
          (exec_load_row rfl rfl hg5 Try.underlying91 rfl (by rw [sz65]; simp [hWr])) (exec_load_cell rfl rfl hc5 Try.underlying72 rfl)
          (exec_buildSlice_one rfl rfl hbs) (exec_buildSlice_one rfl rfl hbs) (exec_load_cell rfl rfl hc6 Try.underlying72 rfl) ?_
        simp only [Act.put, List.setIfInBounds_toArray, List.set_cons_succ, List.set_cons_zero]
        have hr6 : (w4.drew.alloc (.cells Wc.toArray 91)).ownsRow B 91 257 sv d.spend.2.waits.length (d.spend.2.waits.flatMap wrCells) := World.ownsRow.alloc (w := w4.drew) hr4 _
        have hnew := heap_alloc_new w4.drew (.cells Wc.toArray 91)
        have hsw := (spend_waits d).1
        obtain ⟨g, cap7, w7, hrun7, hown7, hgr7, -, -⟩ := run_append_lies (P := Try.prog) (w4.drew.alloc (.cells Wc.toArray 91)) 72 72 B 91 i0 _ 257 264 Try.underlying72 hi0 hz0 hz1 hz2 zc65 (by decide)
          sv d.spend.2.waits.length _ hr6 ⟨w4.heap.size, 0, none⟩ 1 1 Wc (by rw [hWr]) (fun j u hu => World.news_of_block hnew j u (by simpa using hu)) HW1 (by decide) (by rw [hsw]; simp only [maxLen]; omega) (by rw [hsw]; omega)
          (by have := HB4.out.size; have := f1.size; simp; omega) _ rfl
        refine wpAny_one 7 (some 33) rfl (by kernel_rfl) rfl rfl (exec_append rfl rfl rfl hrun7) ?_
        simp only [Act.put, List.setIfInBounds_toArray, List.set_cons_succ, List.set_cons_zero]
        have hd7 : w7.heap[db]? = _ := (hgr7.block db (lt_of_heap hd6) (fun e => by
          rcases hr4.2 with ⟨e1, _⟩ | ⟨g', c', cur, e1, _, hg', _⟩
          · rw [e1] at e; cases e
          · rw [e1] at e; simp only [Value.ownBlock, Option.some.injEq] at e; subst e; rw [hd4] at hg'; simp at hg')).trans hd6
        refine wpAny_one 8 (some 34) rfl (by kernel_rfl) rfl rfl (v := .pointer (some ⟨db, 0, none⟩)) (w1 := w7) (by kernel_rfl) ?_
        simp only [Act.put, List.setIfInBounds_toArray, List.set_cons_succ, List.set_cons_zero]
        refine wpAny_one 9 (some 35) rfl (by kernel_rfl) rfl rfl (v := .pointer (some ⟨db, 2, none⟩)) (w1 := w7) (by kernel_rfl) ?_
        simp only [Act.put, List.setIfInBounds_toArray, List.set_cons_succ, List.set_cons_zero]
        refine wpAny_one_skip 10 rfl (by kernel_rfl) rfl (exec_store_cell rfl rfl rfl rfl (cell_row hd7 2 rfl) (free_row hd7 2) szSlice) ?_
        refine wpAny_done (by kernel_rfl) ?_ _
        have hhas : 0 ≤ i ∧ i < d.spend.2.size := by rw [(spend_waits d).2.1]; exact HI.out
        have HE := Lib.hid (write_end ok4 ge4 hd6 (hl4.of_map (fun k es c hh => (Below.heap_alloc w4.drew _ _ (lt_of_heap hh)).trans hh)) hr6 i bs hhas HL.out (by rw [HWc.out]; exact hown7) hgr7)
        have F6 : Fr FK B w (w4.drew.alloc (.cells Wc.toArray 91)) := (f1.trans (Fr.of_below HB4.out)).drew.alloc _
        clear hown7 hgr7 hrun7 hd7 hr6 hnew hd6 hc6 hg5 hc5 hbs HW1 hWr hsw
        go_wp2
        go_ret
        rw [HW.out]
        exact ⟨rfl, HE.out.1, F6.trans HE.out.2⟩
      · have hs' : d.spend.1 = false := by simpa using hs
        have HW : Hid (d.write i bs = (4, d.spend.2)) := by unfold Dev.write; rw [if_neg (by simp [hh, hl]), if_pos hs']; exact rfl
        rw [hs'] at hsp
        obtain ⟨ao, cap, rfl⟩ : ∃ ao cap, v = .slice ao bs.length cap := by obtain ⟨ao, cap, e, _⟩ := hv; exact ⟨ao, cap, e⟩
        have HC := Lib.hid hc
        have HS := Lib.hid hsp
        have hl' : ((bs.length : Int) != 256) = false := by simp [hl]
        clear hc hsp hl hv hh hs hs'
        go_enter Try.func29, Try.ntmps29
        go_wp2_with fail
        refine HC.out.mono ?_
        rintro e w' ⟨rfl, rfl⟩
        go_wp2_with fail
        refine HS.out.mono ?_
        rintro e w1 ⟨rfl, h1, f1⟩
        go_wp2
        go_ret
        rw [HW.out]
        exact ⟨rfl, h1, f1⟩
    · have HW : Hid (d.write i bs = (1, d)) := by unfold Dev.write; rw [if_pos (Or.inr hl)]; exact rfl
      obtain ⟨ao, cap, rfl⟩ : ∃ ao cap, v = .slice ao bs.length cap := by obtain ⟨ao, cap, e, _⟩ := hv; exact ⟨ao, cap, e⟩
      have HC := Lib.hid hc
      have hl' : ((bs.length : Int) != 256) = true := by simp; omega
      have HH := Lib.hid h
      clear hc hl hv hh h
      go_enter Try.func29, Try.ntmps29
      go_wp2_with fail
      refine HC.out.mono ?_
      rintro e w' ⟨rfl, rfl⟩
      go_wp2
      go_ret
      rw [HW.out]
      exact ⟨rfl, HH.out, Fr.refl _ _ _⟩
  · have hh' : d.has i = false := by simpa using hh
    have HW : Hid (d.write i bs = (1, d)) := by unfold Dev.write; rw [if_pos (Or.inl hh')]; exact rfl
    rw [hh'] at hc
    have HC := Lib.hid hc
    have HH := Lib.hid h
    clear hc hv hh hh' h
    go_enter Try.func29, Try.ntmps29
    go_wp2_with fail
    refine HC.out.mono ?_
    rintro e w' ⟨rfl, rfl⟩
    go_wp2
    go_ret
    rw [HW.out]
    exact ⟨rfl, HH.out, Fr.refl _ _ _⟩
end Go.Proofs.Ytbgefdigmdfalaa

/- The contracts of the flash device's Flush and Crash. No statement of the seat is proved here. -/
namespace Go.Proofs.Ytbgefdigmdfalaa
set_option maxRecDepth 20000
open Go.RowKit

/-- What lasts behind the first k of the writes that wait, each as f says (kept with its bytes, torn, or not at all). -/
def Dev.apply (d : Dev) (f : Nat → Int × List UInt8 → Option (List UInt8 × Bool)) : Nat → Dev
  | 0 => d
  | k + 1 => match d.waits[k]? with
    | some p => match f k p with
      | some q => (d.apply f k).keep p.1 q
      | none => d.apply f k
    | none => d.apply f k
theorem apply_same (d : Dev) (f : Nat → Int × List UInt8 → Option (List UInt8 × Bool)) : ∀ k, (d.apply f k).waits = d.waits ∧ (d.apply f k).size = d.size ∧ (d.apply f k).off = d.off ∧ (d.apply f k).armed = d.armed ∧ (d.apply f k).left = d.left
  | 0 => ⟨rfl, rfl, rfl, rfl, rfl⟩
  | k + 1 => by
    unfold Dev.apply
    split
    · split
      · exact apply_same d f k
      · exact apply_same d f k
    · exact apply_same d f k
def flushF : Nat → Int × List UInt8 → Option (List UInt8 × Bool) := fun _ p => some (p.2, false)
def Dev.flushed (d : Dev) : Dev := { d.apply flushF d.waits.length with waits := [] }
def Dev.flush (d : Dev) : Int × Dev := if d.spend.1 = false then (4, d.spend.2) else (0, d.spend.2.flushed)

/-- The cells of one write among those of all. -/
theorem flat_at : ∀ (l : List (Int × List UInt8)) (k : Nat) (p : Int × List UInt8), (∀ q ∈ l, q.2.length = 256) → l[k]? = some p → ∀ j v, (wrCells p)[j]? = some v → (l.flatMap wrCells)[k * 257 + j]? = some v
  | [], k, p, _, h => by simp at h
  | q :: l, 0, p, hl, h => by
    intro j v hv
    simp at h; subst h
    have hj : j < (wrCells q).length := (List.getElem?_eq_some_iff.1 hv).1
    rw [List.flatMap_cons, Nat.zero_mul, Nat.zero_add, List.getElem?_append_left hj]; exact hv
  | q :: l, k + 1, p, hl, h => by
    intro j v hv
    have hq : (wrCells q).length = 257 := wrCells_size q (hl q (by simp))
    rw [List.flatMap_cons, List.getElem?_append_right (by rw [hq]; omega), hq]
    have e : (k + 1) * 257 + j - 257 = k * 257 + j := by omega
    rw [e]
    exact flat_at l k p (fun r hr => hl r (by simp [hr])) (by simpa using h) j v hv
theorem row_at {w : World} {B : Nat} {sv : Value} {l : List (Int × List UInt8)} (ho : w.ownsRow B 91 257 sv l.length (l.flatMap wrCells)) (hl : ∀ q ∈ l, q.2.length = 256) {k : Nat} {p : Int × List UInt8} (hk : l[k]? = some p) :
    ∃ g cap cur, sv = .slice (some ⟨g, 0, none⟩) l.length cap ∧ w.heap[g]? = some (.cells cur 91 (0, 0)) ∧ ∀ j v, (wrCells p)[j]? = some v → cur[k * 257 + j]? = some v := by
  have hlt : k < l.length := (List.getElem?_eq_some_iff.1 hk).1
  rcases ho.2 with ⟨_, h0⟩ | ⟨g, cap, cur, hv, _, hg, _, _, _, htake⟩
  · omega
  · refine ⟨g, cap, cur, hv, hg, fun j v hj => ?_⟩
    have := flat_at l k p hl hk j v hj
    rw [← htake, List.getElem?_take] at this
    split at this
    · simpa using this
    · cases this
/-- The parts of a write's cells. -/
theorem wr_bytes (p : Int × List UInt8) : ∀ j v, (cellsB p.2)[j]? = some v → (wrCells p).toArray[1 + j]? = some v := by
  intro j v hv
  simp only [List.getElem?_toArray, wrCells]
  rw [Nat.add_comm, List.getElem?_cons_succ]; exact hv
theorem build68 (bs : List UInt8) (h : bs.length = 256) (w : World) : (Instr.build 94 #[(0, .agg (cellsB bs).toArray)]).run Try.prog w = .ok (secV (bs, false)) w := by
  have hz : (zeroValue 94).run Try.prog w = .ok (.agg (secCells (zeros, false)).toArray) w := by kernel_rfl
  have hf := fill_one (place := fun i => (#[((0 : Nat), (256 : Nat)), (256, 1)] : Array (Nat × Nat))[i]?) (i := 0) (off := 0) (L := secCells (zeros, false)) (cs := cellsB bs) (by simp [cellsB_length, h]) (by simp [secCells, cellsB_length, h, zeros_length]) (v := .agg (cellsB bs).toArray) rfl
  have hsp : splice (secCells (zeros, false)) 0 (cellsB bs) = secCells (bs, false) := by
    simp only [splice, secCells, List.take_zero, List.nil_append, Nat.zero_add, cellsB_length, h]
    rw [List.drop_append, List.drop_eq_nil_of_le (by simp [cellsB_length, zeros_length])]
    simp [cellsB_length, zeros_length]
  rw [hsp] at hf
  unfold Instr.build
  simp only [Sem.run_bind, hz, Result.andThen_ok, run_underlying Try.underlying94]
  refine (congrArg (fun r => Result.andThen r _) (show _ = Result.ok #[(0, 256), (256, 1)] w from by kernel_rfl)).trans ?_
  simp only [Result.andThen_ok, Value.cells]
  rw [hf]
  rfl

theorem apply_flush {d : Dev} {k : Nat} {p : Int × List UInt8} (h : d.waits[k]? = some p) : d.apply flushF (k + 1) = (d.apply flushF k).keep p.1 (p.2, false) := by
  show (match d.waits[k]? with | some p => _ | none => _) = _
  rw [h]; rfl
theorem DevAt.mono {B : Nat} {w : World} {db : Nat} {d : Dev} {N N' : Nat} (h : DevAt B w db d N) (hN : N ≤ N') : DevAt B w db d N' := by
  obtain ⟨ok, ge, mv, sv, h1, h2, h3⟩ := h
  refine ⟨ok, ge, mv, sv, h1, ?_, h3⟩
  rcases h2 with h2 | ⟨mb, D, hv, hB, ho, hm, hat⟩
  · exact Or.inl h2
  · exact Or.inr ⟨mb, D, hv, hB, ho.mono hN, hm, hat⟩
/-- Nothing waits any more. -/
theorem DevAt.unwait {B : Nat} {w : World} {db : Nat} {d : Dev} {N : Nat} (h : DevAt B w db d N) : DevAt B (w.setCell ⟨db, 2, none⟩ (.slice none 0 0)) db { d with waits := [] } N ∧ Fr FK B w (w.setCell ⟨db, 2, none⟩ (.slice none 0 0)) := by
  obtain ⟨ok, ge, mv, sv, h1, h2, h3⟩ := h
  have hs := heap_setCell_same w db 2 _ _ (.slice none 0 0) h1
  simp only [List.setIfInBounds_toArray, List.set_cons_succ, List.set_cons_zero] at hs
  refine ⟨⟨⟨ok.1, ok.2, by simp, by simp, ok.5⟩, ge, mv, _, hs, ?_, World.ownsRow_nil _ _ _ _⟩, (Fr.refl _ _ _).setCell h1 ge rfl _⟩
  refine h2.of_map (fun k es c hk => ?_)
  rw [Below.heap_setCell _ _ _ _ (by rintro rfl; rw [h1] at hk; cases hk)]; exact hk
set_option maxHeartbeats 400000 in
theorem flush_any {B : Nat} {w : World} {db : Nat} {d : Dev} {N : Nat} (h : DevAt B w db d N) (hN : N + d.waits.length < maxLen) (hlen : d.waits.length < 1000000) :
    Calls Try.prog 20 #[.pointer (some ⟨db, 0, none⟩)] w fun e w' => e = .returned (.int .i64 d.flush.1) ∧ DevAt B w' db d.flush.2 (N + d.waits.length) ∧ Fr FK B w w' := by
  have hsp := spend_any h
  by_cases hs : d.spend.1 = true
  · have HW : Hid (d.flush = (0, d.spend.2.flushed)) := by unfold Dev.flush; rw [if_neg (by simp [hs])]; exact rfl
    rw [hs] at hsp
    have HS := Lib.hid hsp
    have hsw := (spend_waits d).1
    rw [← hsw] at hN hlen ⊢
    clear hsp hs hsw
    generalize d.spend.2 = d1 at *
    go_enter Try.func20, Try.ntmps20
    go_wp2_with fail
    refine HS.out.mono ?_
    rintro e w1 ⟨rfl, h1, f1⟩
    obtain ⟨mv, sv, -, -, c2, -, -, -, -, -, hrow⟩ := h1.cells
    obtain ⟨sa, cap, rfl⟩ := ownsRow_slice hrow
    go_wp2
    go_loopw [15] (fun iv wr => ∃ k : Nat, k ≤ d1.waits.length ∧ iv = .int .i64 k ∧ DevAt B wr db (d1.apply flushF k) (N + k) ∧ wr.ownsRow B 91 257 (.slice sa d1.waits.length cap) d1.waits.length (d1.waits.flatMap wrCells) ∧ Fr KK B w1 wr)
      (fun iv _ => d1.waits.length - (intOf iv).toNat)
    case atStart => exact ⟨0, Nat.zero_le _, rfl, h1, hrow, Fr.refl _ _ _⟩
    case round =>
      obtain ⟨k, hk, rfl, hdk, hrk, hfk⟩ := hrel
      by_cases hlt : k < d1.waits.length
      · obtain ⟨p, hp⟩ : ∃ p, d1.waits[k]? = some p := ⟨_, List.getElem?_eq_getElem hlt⟩
        obtain ⟨g, cap', cur, hsv, hg, hcur⟩ := row_at hrk h1.ok.len hp
        simp only [Value.slice.injEq] at hsv
        obtain ⟨rfl, -, rfl⟩ := hsv
        have HP := Lib.hid hp
        have HG := Lib.hid hg
        have HCUR := Lib.hid hcur
        clear hp hg hcur c2 hrow
        have hpl : p.2.length = 256 := h1.ok.len p (List.mem_of_getElem? HP.out)
        have hps := h1.ok.at_ p (List.mem_of_getElem? HP.out)
        have hsz := h1.ok.size
        have HZ : Hid ((Try.prog.info? 91).map (·.size) = some (wrCells p).length) := by rw [wrCells_size p hpl]; exact sz65
        have HZ2 : Hid ((wrCells (0, zeros)).toArray.size = (wrCells p).toArray.size) := by show _ = _; simp only [List.size_toArray]; rw [wrCells_size p hpl, wrCells_size _ zeros_length]
        have HZ5 : Hid ((Try.prog.info? 91).map (·.size) = some (wrCells p).toArray.size) := by rw [List.size_toArray, wrCells_size p hpl]; exact sz65
        have HZ3 := Lib.hid (all_oneCell_toArray (wrCells_one p))
        have HZ4 : Hid ((Try.prog.info? 89).map (·.size) = some (cellsB p.2).length) := by rw [cellsB_length, hpl]; exact sz63
        go_wp2_with (first
          | (with_reducible refine wpList_load_part rfl 91 (.tmp 17) rfl g (k * 257) 91 (0, 0) cur (wrCells p) rfl HG.out HCUR.out _ Try.underlying91 rfl HZ.out ?_)
          | (with_reducible refine wpList_alloc_row rfl 91 rfl (wrCells (0, zeros)).toArray (zero65 _) ?_; intro w2 hg2 hb2 hs2)
          | (with_reducible refine wpList_store_row rfl 91 (.tmp 4) (.tmp 18) rfl wr.heap.size 91 (wrCells (0, zeros)).toArray (wrCells p).toArray rfl rfl hg2 HZ5.out HZ2.out HZ3.out ?_; intro w3 hg3 hgr3 hs3; have c0 := cell_row hg3 0 (v := .int .i64 p.1) rfl; have HG3 := Lib.hid hg3; clear hg3 hg2)
          | (with_reducible refine wpList_load_part rfl 89 (.tmp 22) rfl wr.heap.size 1 91 (0, 0) (wrCells p).toArray (cellsB p.2) rfl HG3.out (wr_bytes p) _ Try.underlying89 rfl HZ4.out ?_)
          | (with_reducible refine wpList_build1 rfl 94 0 (.tmp 23) rfl (.agg (cellsB p.2).toArray) (secV (p.2, false)) rfl (build68 p.2 hpl _) ?_))
        have hb3 := Below.grown hb2 hgr3 (Nat.le_of_lt hs2) (fun k e => by cases e; exact Nat.le_refl _)
        refine (keep_any (hdk.below hb3) p.1 (by omega) (p.2, false) hpl (by omega)).mono ?_
        rintro e w4 ⟨rfl, h4, f4⟩
        rw [← apply_flush HP.out] at h4
        have hr4 := row_keep (row_keep (K := KK) (B' := B) hrk (Fr.of_below hb3) (fun _ => rfl)) f4 (fun _ => rfl)
        have hf4 := (hfk.trans (Fr.of_below hb3)).trans f4
        clear hgr3 hb2 hb3 c0
        go_wp2
        go_roundw
        case rel => exact ⟨k + 1, by omega, by go_num, h4, hr4, hf4⟩
        case measure => simp [intOf]; omega
      · obtain rfl : k = d1.waits.length := by omega
        obtain ⟨mv', sv', -, -, c2', -, -, -, fz, -, -⟩ := hdk.cells
        have f2' := fz 2
        have HU := Lib.hid hdk.unwait
        have HF := Lib.hid (f1.trans hfk.kk)
        clear fz hdk hrk hfk hrow c2 f1 h1
        go_wp2
        go_ret
        rw [HW.out]
        exact ⟨rfl, HU.out.1, HF.out.trans HU.out.2⟩
  · have hs' : d.spend.1 = false := by simpa using hs
    have HW : Hid (d.flush = (4, d.spend.2)) := by unfold Dev.flush; rw [if_pos hs']; exact rfl
    rw [hs'] at hsp
    have HS := Lib.hid hsp
    clear hsp hs hs'
    go_enter Try.func20, Try.ntmps20
    go_wp2_with fail
    refine HS.out.mono ?_
    rintro e w1 ⟨rfl, h1, f1⟩
    go_wp2
    go_ret
    rw [HW.out]
    exact ⟨rfl, h1.mono (Nat.le_add_right _ _), f1⟩
end Go.Proofs.Ytbgefdigmdfalaa

/- The contract of the flash device's Crash. No statement of the seat is proved here. -/
namespace Go.Proofs.Ytbgefdigmdfalaa
set_option maxRecDepth 20000
open Go.RowKit

def crashF (zs : List Int) : Nat → Int × List UInt8 → Option (List UInt8 × Bool) := fun k p => if pickOf zs k = 1 then some (p.2, false) else if pickOf zs k = 2 then some (zeros, true) else none
def Dev.crash (d : Dev) (zs : List Int) : Dev := { d.apply (crashF zs) d.waits.length with waits := [], off := false, armed := false, left := 0 }
theorem apply_next {d : Dev} {f : Nat → Int × List UInt8 → Option (List UInt8 × Bool)} {k : Nat} {p : Int × List UInt8} (h : d.waits[k]? = some p) : d.apply f (k + 1) = match f k p with | some q => (d.apply f k).keep p.1 q | none => d.apply f k := by
  show (match d.waits[k]? with | some p => _ | none => _) = _
  rw [h]
  all_goals rfl
theorem DevAt.drew {B : Nat} {w : World} {db : Nat} {d : Dev} {N : Nat} (h : DevAt B w db d N) : DevAt B w.drew db d N := ⟨h.ok, h.ge, h.box⟩
theorem build68t (w : World) : (Instr.build 94 #[(1, .bool true)]).run Try.prog w = .ok (secV (zeros, true)) w := by kernel_rfl

set_option maxHeartbeats 800000 in
theorem crash_any {B : Nat} {w : World} {db : Nat} {d : Dev} {N : Nat} (h : DevAt B w db d N) (hN : N + d.waits.length < maxLen) (hlen : d.waits.length < 1000000) {v : Value} {zs : List Int} (hz : Ints FK B w v zs) :
    Calls Try.prog 24 #[.pointer (some ⟨db, 0, none⟩), v] w fun e w' => e = .returned (.tuple #[]) ∧ DevAt B w' db (d.crash zs) (N + d.waits.length) ∧ Fr FK B w w' := by
  obtain ⟨mv, sv, -, -, c2, -, -, -, -, -, hrow⟩ := h.cells
  obtain ⟨sa, cap, rfl⟩ := ownsRow_slice hrow
  go_enter Try.func24, Try.ntmps24
  go_wp2
  go_loopw [13] (fun iv wr => ∃ k : Nat, k ≤ d.waits.length ∧ iv = .int .i64 k ∧ DevAt B wr db (d.apply (crashF zs) k) (N + k) ∧ wr.ownsRow B 91 257 (.slice sa d.waits.length cap) d.waits.length (d.waits.flatMap wrCells) ∧ Fr KK B w wr)
    (fun iv _ => d.waits.length - (intOf iv).toNat)
  case atStart => exact ⟨0, Nat.zero_le _, rfl, h, hrow, Fr.refl _ _ _⟩
  case round =>
    obtain ⟨k, hk, rfl, hdk, hrk, hfk⟩ := hrel
    by_cases hlt : k < d.waits.length
    · obtain ⟨p, hp⟩ : ∃ p, d.waits[k]? = some p := ⟨_, List.getElem?_eq_getElem hlt⟩
      obtain ⟨g, cap', cur, hsv, hg, hcur⟩ := row_at hrk h.ok.len hp
      simp only [Value.slice.injEq] at hsv
      obtain ⟨rfl, -, rfl⟩ := hsv
      have HP := Lib.hid hp
      have HG := Lib.hid hg
      have HCUR := Lib.hid hcur
      clear hp hg hcur c2 hrow
      have hpl : p.2.length = 256 := h.ok.len p (List.mem_of_getElem? HP.out)
      have hps := h.ok.at_ p (List.mem_of_getElem? HP.out)
      have hsz := h.ok.size
      have HZ : Hid ((Try.prog.info? 91).map (·.size) = some (wrCells p).length) := by rw [wrCells_size p hpl]; exact sz65
      have HZ5 : Hid ((Try.prog.info? 91).map (·.size) = some (wrCells p).toArray.size) := by rw [List.size_toArray, wrCells_size p hpl]; exact sz65
      have HZ2 : Hid ((wrCells (0, zeros)).toArray.size = (wrCells p).toArray.size) := by show _ = _; simp only [List.size_toArray]; rw [wrCells_size p hpl, wrCells_size _ zeros_length]
      have HZ3 := Lib.hid (all_oneCell_toArray (wrCells_one p))
      have HZ4 : Hid ((Try.prog.info? 89).map (·.size) = some (cellsB p.2).length) := by rw [cellsB_length, hpl]; exact sz63
      go_wp2_with (first
        | (with_reducible refine wpList_load_part rfl 91 (.tmp 16) rfl g (k * 257) 91 (0, 0) cur (wrCells p) rfl HG.out HCUR.out _ Try.underlying91 rfl HZ.out ?_)
        | (with_reducible refine wpList_alloc_row rfl 91 rfl (wrCells (0, zeros)).toArray (zero65 _) ?_; intro w2 hg2 hb2 hs2)
        | (with_reducible refine wpList_store_row rfl 91 (.tmp 5) (.tmp 17) rfl wr.heap.size 91 (wrCells (0, zeros)).toArray (wrCells p).toArray rfl rfl hg2 HZ5.out HZ2.out HZ3.out ?_; intro w3 hg3 hgr3 hs3; have c0 := cell_row hg3 0 (v := .int .i64 p.1) rfl; have HG3 := Lib.hid hg3; clear hg3 hg2))
      have hb3 := Below.grown hb2 hgr3 (Nat.le_of_lt hs2) (fun k e => by cases e; exact Nat.le_refl _)
      have hz3 := (hz.fr hfk.kk).fr (Fr.of_below (K := FK) (B := B) hb3)
      refine (pick_any hz3 k (by omega)).mono ?_
      rintro e w3' ⟨rfl, rfl⟩
      have hnx := apply_next (f := crashF zs) HP.out
      have hpr := pick_range zs k
      have hdw := hdk.below hb3
      have hrw := row_keep (K := KK) (B' := B) hrk (Fr.of_below hb3) (fun _ => rfl)
      have hfw := hfk.trans (Fr.of_below (K := KK) (B := B) hb3)
      clear hgr3 hb2 hb3 hs3 hs2 hdk hrk hfk hz3
      rcases (show pickOf zs k = 0 ∨ pickOf zs k = 1 ∨ pickOf zs k = 2 by omega) with hq | hq | hq
      · have hnx' : d.apply (crashF zs) (k + 1) = d.apply (crashF zs) k := by rw [hnx]; simp [crashF, hq]
        rw [hq]
        rw [← hnx'] at hdw
        have HDW := Lib.hid hdw
        clear hnx hnx' hdw hpr
        go_wp2
        go_roundw
        case rel => exact ⟨k + 1, by omega, by go_num, HDW.out.mono (by omega), hrw, hfw⟩
        case measure => simp [intOf]; omega
      · have hnx' : d.apply (crashF zs) (k + 1) = (d.apply (crashF zs) k).keep p.1 (p.2, false) := by rw [hnx]; simp [crashF, hq]
        have HN := Lib.hid hnx'
        rw [hq]
        clear hnx hnx' hpr hq
        go_wp2_with (first
          | (with_reducible refine wpList_load_part rfl 89 (.tmp 26) rfl wr.heap.size 1 91 (0, 0) (wrCells p).toArray (cellsB p.2) rfl HG3.out (wr_bytes p) _ Try.underlying89 rfl HZ4.out ?_)
          | (with_reducible refine wpList_build1 rfl 94 0 (.tmp 27) rfl (.agg (cellsB p.2).toArray) (secV (p.2, false)) rfl (build68 p.2 hpl _) ?_))
        refine (keep_any hdw p.1 (by omega) (p.2, false) hpl (by omega)).mono ?_
        rintro e w4 ⟨rfl, h4, f4⟩
        rw [← HN.out] at h4
        have hr4 := row_keep hrw f4 (fun _ => rfl)
        have hf4 := hfw.trans f4
        clear c0 hdw hrw hfw f4
        go_wp2
        go_roundw
        case rel => exact ⟨k + 1, by omega, by go_num, h4, hr4, hf4⟩
        case measure => simp [intOf]; omega
      · have hnx' : d.apply (crashF zs) (k + 1) = (d.apply (crashF zs) k).keep p.1 (zeros, true) := by rw [hnx]; simp [crashF, hq]
        have HN := Lib.hid hnx'
        rw [hq]
        clear hnx hnx' hpr hq
        go_wp2_with (with_reducible refine wpList_build1 rfl 94 1 (.const (.bool true)) rfl (.bool true) (secV (zeros, true)) rfl (build68t _) ?_)
        refine (keep_any hdw p.1 (by omega) (zeros, true) zeros_length (by omega)).mono ?_
        rintro e w4 ⟨rfl, h4, f4⟩
        rw [← HN.out] at h4
        have hr4 := row_keep hrw f4 (fun _ => rfl)
        have hf4 := hfw.trans f4
        clear c0 hdw hrw hfw f4
        go_wp2
        go_roundw
        case rel => exact ⟨k + 1, by omega, by go_num, h4, hr4, hf4⟩
        case measure => simp [intOf]; omega
    · obtain rfl : k = d.waits.length := by omega
      obtain ⟨mv', sv', c0', c1', c2', c3', c4', c5', fz, hl', -⟩ := hdk.cells
      obtain ⟨mr, rfl⟩ : ∃ r, mv' = .map r := by
        rcases hl' with ⟨e, _⟩ | ⟨mb, D, e, _⟩
        · exact ⟨_, e⟩
        · exact ⟨_, e⟩
      have f0' := fz 0
      have f1' := fz 1
      have f2' := fz 2
      have f3' := fz 3
      have f4' := fz 4
      have f5' := fz 5
      have HL := Lib.hid hl'
      have HDK := Lib.hid hdk
      have HFK := Lib.hid hfk.kk
      clear fz hl' hrk hfk hrow c2 hdk h hz
      go_wp2
      go_still_tail 11, mixed
      change wpList _ _ _ _ _ wr.drew
      go_wp2
      go_returns
      have hok := HDK.out.ok
      have ha := HDK.out.again (d' := d.crash zs) (mv := .map mr) (mv' := .map mr) HL.out rfl ⟨hok.1, by simp [Dev.crash], by simp [Dev.crash], by simp [Dev.crash], hok.5⟩ rfl
      refine ⟨rfl, ha.drew, Fr.drew (HFK.out.trans ?_)⟩
      obtain ⟨ok, ge, mv0, sv, h1, h2, h3⟩ := HDK.out
      exact six_fr h1 ge rfl _ _ _ _ _ _
end Go.Proofs.Ytbgefdigmdfalaa

/- The contracts of slices.Clone at bytes, of the statements' own bytes, and of the flash device's Read. No statement of the seat is proved here. -/
namespace Go.Proofs.Ytbgefdigmdfalaa
set_option maxRecDepth 20000
open Go.RowKit

set_option maxHeartbeats 400000 in
theorem cloneF_any {w : World} (a : Addr) (n cap : Nat) (bs : List UInt8) (hn : bs.length = n) (hsrc : ∀ j v, (cellsB bs)[j]? = some v → w.cell? (a.add j) = some v) (h1 : n ≤ 100000) :
    Calls Try.prog 53 #[.slice (some a) n cap] w fun e w' => ∃ v, e = .returned v ∧ OwnB w.heap.size w' v bs ∧ Below w.heap.size w w' := by
  subst hn
  have HS := Lib.hid hsrc
  clear hsrc
  have heq := fun (n c : Nat) (x : Option Addr) (w : World) => Lib.run_eql_slice_nil (P := Try.prog) w 59 5 x n c 0 0 Try.underlying59
  obtain ⟨i0, hi0, hz0, hz1, hz2⟩ := info_parts info5
  go_enter Try.func53, Try.ntmps53
  go_wp2_with (at_builtin; refine wpList_append_own _ rfl (.tmp 5) (.tmp 6) 59 rfl w.heap.size 5 i0 (.int .u8 0) 1 1 Try.underlying59 hi0 hz0 hz1 hz2 rfl (by decide) _ 0 [] rfl ?own a bs.length cap (cellsB bs) rfl ?len ?src (oneCell_cellsB bs) ?b1 ?b2 ?b3 ?_)
  case own => exact World.ownsRow_made w #[] 0 (Nat.le_refl _) (by simp [maxLen]) rfl
  case len => simp [cellsB_length]
  case src => exact fun j u hj => (Below.cell ((Below.refl w.heap.size w).alloc (Nat.le_refl _) _) (World.block_lt_of_cell? w _ (HS.out j u hj))).trans (HS.out j u hj)
  case b1 => simp only [maxLen]; omega
  case b2 => omega
  case b3 => simp
  intro v' w1 hown hgr hnil
  have hbl : Below w.heap.size w w1 := ((Below.refl w.heap.size w).alloc (Nat.le_refl _) _).grown hgr (by simp) (fun k e => by cases e; exact Nat.le_refl _)
  have HO := Lib.hid hown
  clear hown hgr hnil
  go_wp2
  go_ret
  exact ⟨_, rfl, HO.out, hbl⟩

def newest (l : List (Int × List UInt8)) (i : Int) : Option (List UInt8) := l.foldl (fun acc p => if p.1 = i then some p.2 else acc) none
theorem newest_succ {l : List (Int × List UInt8)} {i : Int} {k : Nat} {p : Int × List UInt8} (h : l[k]? = some p) : newest (l.take (k + 1)) i = if p.1 = i then some p.2 else newest (l.take k) i := by
  have hk : k < l.length := (List.getElem?_eq_some_iff.1 h).1
  have hp : l[k] = p := (List.getElem?_eq_some_iff.1 h).2
  unfold newest
  rw [List.take_succ_eq_append_getElem hk, List.foldl_append, hp]
  rfl
def Dev.read (d : Dev) (i : Int) : List UInt8 × Int :=
  if d.has i = false then ([], 1) else if d.off = true then ([], 4) else match newest d.waits i with
    | some bs => (bs, 0)
    | none => if (d.last i).2 = true then ([], 3) else ((d.last i).1, 0)
theorem sec_at (p : List UInt8 × Bool) (j : Nat) (v : Value) (hj : (cellsB p.1)[j]? = some v) : (secCells p)[j]? = some v := by
  unfold secCells
  rw [List.getElem?_append_left (List.getElem?_eq_some_iff.1 hj).1]; exact hj
theorem sec_torn (p : List UInt8 × Bool) (hp : p.1.length = 256) : (secCells p).toArray[256]? = some (.bool p.2) := by
  simp only [List.getElem?_toArray, secCells]
  rw [List.getElem?_append_right (by rw [cellsB_length]; omega), cellsB_length, hp]; rfl
theorem secCells_one (p : List UInt8 × Bool) : ∀ u ∈ secCells p, u.oneCell' = true := by
  intro u hu
  rcases List.mem_append.1 hu with hu | hu
  · exact oneCell_cellsB _ u hu
  · rw [List.mem_singleton.1 hu]; rfl
theorem last_look {B : Nat} {w : World} {mv : Value} {f : Int → List UInt8 × Bool} {N : Nat} (h : LastIs B w mv f N) (i : Int) (hi : 0 ≤ i ∧ i < 4097) : (Instr.lookup 71 mv (.int .i64 i) false).run Try.prog w = .ok (secV (f i)) w := by
  have hz : (zeroValue 94).run Try.prog w = .ok (secV (zeros, false)) w := by kernel_rfl
  have hkey := Maps.keyOf_int_mk (k := 3) Try.underlying3 (a := i) (WalkArith.wf_i64 (by omega))
  rcases h with ⟨rfl, h0⟩ | ⟨mb, D, rfl, _, ho, _, hat⟩
  · rw [h0 i]; exact Maps.look_nil false keyed3 Try.underlying71 hz hkey
  · obtain ⟨v, ps, hrun, hv⟩ := ho.lookup keyed3 Try.underlying71 hz (secRd_mk _) hkey
    rw [hat i] at hv
    rw [hrun, secRd_inv hv]
theorem zero68 (w : World) : (zeroValue 94).run Try.prog w = .ok (.agg (secCells (zeros, false)).toArray) w := by kernel_rfl
theorem read_end {d : Dev} {i : Int} {r : List UInt8 × Int} (hr : d.read i = r) {w w' : World} {v : Value} (ho : OwnB w.heap.size w' v r.1) (hb : Below w.heap.size w w') :
    ∃ v', Ending.returned (.tuple #[v, .int .i64 r.2]) = .returned (.tuple #[v', .int .i64 (d.read i).2]) ∧ OwnB w.heap.size w' v' (d.read i).1 ∧ Below w.heap.size w w' := by
  rw [hr]; exact ⟨v, rfl, ho, hb⟩
theorem ownB_nil (base : Nat) (w : World) : OwnB base w (.slice none 0 0) [] := World.ownsRow_nil _ _ _ _

set_option maxHeartbeats 400000 in
theorem read_nil (w : World) (i : Int) : Calls Try.prog 37 #[.pointer none, .int .i64 i] w fun e w' => e = .returned (.tuple #[.slice none 0 0, .int .i64 1]) ∧ w = w' := by
  go_enter Try.func37, Try.ntmps37
  go_wp2_with (go_at_call 49; refine (has_nil _ _).mono ?_; rintro e w' ⟨rfl, rfl⟩)
  go_ret2
  exact ⟨rfl, rfl⟩

set_option maxHeartbeats 400000 in
set_option maxRecDepth 10000 in
theorem read_any {B : Nat} {w : World} {db : Nat} {d : Dev} {N : Nat} (h : DevAt B w db d N) (i : Int) (hlen : d.waits.length < 1000000) :
    Calls Try.prog 37 #[.pointer (some ⟨db, 0, none⟩), .int .i64 i] w fun e w' => ∃ v, e = .returned (.tuple #[v, .int .i64 (d.read i).2]) ∧ OwnB w.heap.size w' v (d.read i).1 ∧ Below w.heap.size w w' := by
  have hc := has_any h i
  obtain ⟨mv, sv, -, c1, c2, c3, -, -, -, hl, hrow⟩ := h.cells
  by_cases hh : d.has i = true
  · rw [hh] at hc
    have HC := Lib.hid hc
    by_cases ho : d.off = true
    · have HR : Hid (d.read i = ([], 4)) := by unfold Dev.read; rw [if_neg (by simp [hh]), if_pos ho]; exact rfl
      rw [ho] at c3
      clear hc hh ho hl hrow
      go_enter Try.func37, Try.ntmps37
      go_wp2_with fail
      refine HC.out.mono ?_
      rintro e w' ⟨rfl, rfl⟩
      go_wp2
      go_ret2
      exact read_end HR.out (ownB_nil _ _) (Below.refl _ _)
    · have ho' : d.off = false := by simpa using ho
      rw [ho'] at c3
      have HI : Hid (0 ≤ i ∧ i < d.size) := by simpa [Dev.has, Hid] using hh
      have HR : Hid (d.read i = match newest d.waits i with | some bs => (bs, 0) | none => if (d.last i).2 = true then ([], 3) else ((d.last i).1, 0)) := by
        show d.read i = _
        unfold Dev.read; rw [if_neg (by simp [hh]), if_neg (by simp [ho'])]
      obtain ⟨sa, cap, rfl⟩ := ownsRow_slice hrow
      clear hc hh ho ho'
      go_enter Try.func37, Try.ntmps37
      go_wp2_with fail
      refine HC.out.mono ?_
      rintro e w' ⟨rfl, rfl⟩
      go_wp2
      go_loop [6] (fun iv => ∃ k : Nat, k ≤ d.waits.length ∧ iv = .int .i64 ((k : Int) - 1) ∧ newest d.waits i = newest (d.waits.take k) i) (fun iv => (intOf iv + 1).toNat)
      case atStart => exact ⟨d.waits.length, Nat.le_refl _, rfl, by rw [List.take_of_length_le (Nat.le_refl _)]⟩
      case round =>
        obtain ⟨k, hk, rfl, hnew⟩ := hrel
        rcases k with _ | m
        · have hn0 : newest d.waits i = none := by rw [hnew]; rfl
          have HR2 : Hid (d.read i = if (d.last i).2 = true then ([], 3) else ((d.last i).1, 0)) := by show d.read i = _; rw [HR.out, hn0]
          clear hnew hn0
          have hll := h.ok.last i
          have hmem := HI.out
          have hsz := h.ok.size
          have HLK := Lib.hid (last_look hl i ⟨hmem.1, by omega⟩)
          generalize hq : d.last i = q at *
          have HQ := Lib.hid hq
          have hl0 : (secCells (zeros, false)).toArray.size = (secCells q).toArray.size := by rw [secCells_size _ zeros_length, secCells_size _ hll]
          have HZ2 := Lib.hid hl0
          have HZ3 := Lib.hid (all_oneCell_toArray (secCells_one q))
          have HZ5 : Hid ((Try.prog.info? 94).map (·.size) = some (secCells q).toArray.size) := by rw [secCells_size _ hll]; exact sz68
          clear hq hl hrow hl0 hmem
          by_cases ht : q.2 = true
          · have HR3 : Hid (d.read i = ([], 3)) := by show _ = _; rw [HR2.out, if_pos ht]
            have HT := Lib.hid ht
            clear ht
            go_wp2_with (first
              | (with_reducible refine wpList_lookup_eq rfl 71 (.tmp 48) (.tmp 49) false rfl mv (.int .i64 i) (secV q) rfl rfl HLK.out ?_)
              | (with_reducible refine wpList_alloc_row rfl 94 rfl (secCells (zeros, false)).toArray (zero68 _) ?_; intro w2 hg2 hb2 hs2)
              | (with_reducible refine wpList_store_row rfl 94 (.tmp 7) (.tmp 50) rfl w.heap.size 94 (secCells (zeros, false)).toArray (secCells q).toArray rfl rfl hg2 HZ5.out HZ2.out HZ3.out ?_; intro w3 hg3 hgr3 hs3; have hb3 := Below.grown hb2 hgr3 (Nat.le_of_lt hs2) (fun k e => by cases e; exact Nat.le_refl _); have c0 := cell_row hg3 256 (v := .bool true) (by rw [← HT.out]; exact sec_torn q hll); have HG3 := Lib.hid hg3; clear hg3 hg2))
            go_ret2
            exact read_end HR3.out (ownB_nil _ _) hb3
          · have ht' : q.2 = false := by simpa using ht
            have HR3 : Hid (d.read i = (q.1, 0)) := by show _ = _; rw [HR2.out, if_neg ht]
            have HT := Lib.hid ht'
            clear ht ht'
            go_wp2_with (first
              | (with_reducible refine wpList_lookup_eq rfl 71 (.tmp 48) (.tmp 49) false rfl mv (.int .i64 i) (secV q) rfl rfl HLK.out ?_)
              | (with_reducible refine wpList_alloc_row rfl 94 rfl (secCells (zeros, false)).toArray (zero68 _) ?_; intro w2 hg2 hb2 hs2)
              | (with_reducible refine wpList_store_row rfl 94 (.tmp 7) (.tmp 50) rfl w.heap.size 94 (secCells (zeros, false)).toArray (secCells q).toArray rfl rfl hg2 HZ5.out HZ2.out HZ3.out ?_; intro w3 hg3 hgr3 hs3; have hb3 := Below.grown hb2 hgr3 (Nat.le_of_lt hs2) (fun k e => by cases e; exact Nat.le_refl _); have c0 := cell_row hg3 256 (v := .bool false) (by rw [← HT.out]; exact sec_torn q hll); have HG3 := Lib.hid hg3; clear hg3 hg2))
            refine (cloneF_any (w := w3) ⟨w.heap.size, 0, none⟩ 256 256 q.1 hll (fun j v hj => by rw [Addr.add_mid]; exact cell_row HG3.out _ (by simpa using sec_at q j v hj)) (by omega)).mono ?_
            rintro e w4 ⟨v, rfl, hown, hbl⟩
            have hsz3 : w.heap.size ≤ w3.heap.size := hb3.size
            have HO := Lib.hid (ownsRow_base hown (base' := w.heap.size) (fun k e => Nat.le_trans hsz3 (hown.lt k e).1))
            have hb4 := hb3.trans (hbl.mono hsz3)
            clear hown
            go_wp2
            go_ret2
            exact read_end HR3.out HO.out hb4
        · obtain ⟨p, hp⟩ : ∃ p, d.waits[m]? = some p := ⟨_, List.getElem?_eq_getElem (by omega)⟩
          obtain ⟨g, cap', cur, hsv, hg, hcur⟩ := row_at hrow h.ok.len hp
          simp only [Value.slice.injEq] at hsv
          obtain ⟨rfl, -, rfl⟩ := hsv
          have hca := cell_row hg (m * 257) (v := .int .i64 p.1) (by simpa using hcur 0 _ rfl)
          have hnx := newest_succ (i := i) hp
          rw [← hnew] at hnx
          have e1 : (((m + 1 : Nat) : Int) - 1) = (m : Int) := by omega
          rw [e1]
          have HP := Lib.hid hp
          have HG := Lib.hid hg
          have HCUR := Lib.hid hcur
          have HNX := Lib.hid hnx
          clear hp hg hcur hnx hnew e1 hl hrow
          have hpl : p.2.length = 256 := h.ok.len p (List.mem_of_getElem? HP.out)
          by_cases hpi : p.1 = i
          · have hpi' : (p.1 == i) = true := by simpa using hpi
            have HPI := Lib.hid hpi
            clear hpi
            have hcl := cloneF_any (w := w) ⟨g, m * 257 + 1, none⟩ 256 256 p.2 hpl (fun j v hj => by rw [Addr.add_mid]; exact cell_row HG.out _ (by rw [Nat.add_assoc]; exact HCUR.out _ _ (by have := wr_bytes p j v hj; simpa using this))) (by omega)
            have HCL := Lib.hid hcl
            clear hcl
            go_wp2_with fail
            refine HCL.out.mono ?_
            rintro e w1 ⟨v, rfl, hown, hbl⟩
            have HO := Lib.hid hown
            clear hown
            go_wp2
            go_ret2
            exact read_end (by rw [HR.out, HNX.out, if_pos HPI.out]) HO.out hbl
          · have hpi' : (p.1 == i) = false := by simpa using hpi
            go_wp2
            go_round
            case rel => exact ⟨m, by omega, by go_num, by rw [HNX.out, if_neg hpi]⟩
            case measure => simp [intOf]
  · have hh' : d.has i = false := by simpa using hh
    have HR : Hid (d.read i = ([], 1)) := by unfold Dev.read; rw [if_pos hh']; exact rfl
    rw [hh'] at hc
    have HC := Lib.hid hc
    clear hc hh hh' hl hrow
    go_enter Try.func37, Try.ntmps37
    go_wp2_with fail
    refine HC.out.mono ?_
    rintro e w' ⟨rfl, rfl⟩
    go_wp2
    go_ret2
    exact read_end HR.out (ownB_nil _ _) (Below.refl _ _)
end Go.Proofs.Ytbgefdigmdfalaa

/- A log as it lies in memory, and the contracts of wal's small calls. No statement of the seat is proved here. -/
namespace Go.Proofs.Ytbgefdigmdfalaa
set_option maxRecDepth 20000
open Go.RowKit

structure Wl where
  first : Nat
  size : Nat
  tail : Nat
  next : Nat
  epoch : Nat
/-- What a log keeps to. -/
structure Wl.Ok (l : Wl) : Prop where
  fs : l.first + l.size ≤ 4096
  two : 2 ≤ l.size
  tn : l.tail ≤ l.next
  room : l.next ≤ l.tail + l.size
  tail : l.tail ≤ 1125899906850000
  epoch : l.epoch ≤ 1125899906850000
def Wl.room (l : Wl) : Nat := l.size - (l.next - l.tail)
def Wl.at (l : Wl) (seq : Nat) : Nat := l.first + seq % l.size
/-- THE LOG l AT BLOCK lb OF w, over the device at block db. -/
def WlAt (w : World) (lb db : Nat) (l : Wl) : Prop :=
  w.heap[lb]? = some (.cells #[.pointer (some ⟨db, 0, none⟩), .int .i64 (l.first : Nat), .int .i64 (l.size : Nat), .int .i64 (l.tail : Nat), .int .i64 (l.next : Nat), .int .i64 (l.epoch : Nat)] 80 (0, 0))
theorem WlAt.below {w w' : World} {lb db : Nat} {l : Wl} (h : WlAt w lb db l) (hb : Below w.heap.size w w') : WlAt w' lb db l := (hb.block lb (lt_of_heap h)).trans h
theorem FK_log (cs : Array Value) : FK (.cells cs 80 (0, 0)) = false := rfl
theorem WlAt.fr {B : Nat} {w w' : World} {lb db : Nat} {l : Wl} (h : WlAt w lb db l) (hf : Fr FK B w w') : WlAt w' lb db l := hf.keep _ _ h (.inr (FK_log _))
set_option maxHeartbeats 400000 in
theorem next_any {w : World} {lb db : Nat} {l : Wl} (h : WlAt w lb db l) : Calls Try.prog 14 #[.pointer (some ⟨lb, 0, none⟩)] w fun e w' => e = .returned (.int .i64 (l.next : Nat)) ∧ w = w' := by
  have c4 : w.cell? ⟨lb, 4, none⟩ = some (.int .i64 (l.next : Nat)) := cell_row h 4 rfl
  go_enter Try.func14, Try.ntmps14
  go_wp2
  go_ret
  exact ⟨rfl, rfl⟩
set_option maxHeartbeats 400000 in
theorem tail_any {w : World} {lb db : Nat} {l : Wl} (h : WlAt w lb db l) : Calls Try.prog 22 #[.pointer (some ⟨lb, 0, none⟩)] w fun e w' => e = .returned (.int .i64 (l.tail : Nat)) ∧ w = w' := by
  have c3 : w.cell? ⟨lb, 3, none⟩ = some (.int .i64 (l.tail : Nat)) := cell_row h 3 rfl
  go_enter Try.func22, Try.ntmps22
  go_wp2
  go_ret
  exact ⟨rfl, rfl⟩
set_option maxHeartbeats 800000 in
theorem room_any {w : World} {lb db : Nat} {l : Wl} (h : WlAt w lb db l) (ok : l.Ok) : Calls Try.prog 15 #[.pointer (some ⟨lb, 0, none⟩)] w fun e w' => e = .returned (.int .i64 (l.room : Nat)) ∧ Below w.heap.size w w' := by
  obtain ⟨o1, o2, o3, o4, o5, o6⟩ := ok
  have c2 : w.cell? ⟨lb, 2, none⟩ = some (.int .i64 (l.size : Nat)) := cell_row h 2 rfl
  have c3 : w.cell? ⟨lb, 3, none⟩ = some (.int .i64 (l.tail : Nat)) := cell_row h 3 rfl
  have c4 : w.cell? ⟨lb, 4, none⟩ = some (.int .i64 (l.next : Nat)) := cell_row h 4 rfl
  have hr : ((l.room : Nat) : Int) = (l.size : Int) - ((l.next : Int) - (l.tail : Int)) := by unfold Wl.room; omega
  have HR := Lib.hid hr
  have bd := (Below.refl w.heap.size w).drew
  clear hr
  generalize l.room = r at HR ⊢
  generalize l.size = sz at *
  generalize l.tail = tl at *
  generalize l.next = nx at *
  go_enter Try.func15, Try.ntmps15
  go_wp2_with fail
  go_region
  go_wp2
  go_ret
  exact ⟨by rw [HR.out]; rfl, bd⟩
set_option maxHeartbeats 800000 in
theorem at_any {w : World} {lb db : Nat} {l : Wl} (h : WlAt w lb db l) (ok : l.Ok) (seq : Nat) : Calls Try.prog 58 #[.pointer (some ⟨lb, 0, none⟩), .int .i64 (seq : Nat)] w fun e w' => e = .returned (.int .i64 (l.at seq : Nat)) ∧ Below w.heap.size w w' := by
  obtain ⟨o1, o2, o3, o4, o5, o6⟩ := ok
  have c1 : w.cell? ⟨lb, 1, none⟩ = some (.int .i64 (l.first : Nat)) := cell_row h 1 rfl
  have c2 : w.cell? ⟨lb, 2, none⟩ = some (.int .i64 (l.size : Nat)) := cell_row h 2 rfl
  have hm : seq % l.size < l.size := Nat.mod_lt _ (by omega)
  have hr : ((l.at seq : Nat) : Int) = (l.first : Int) + (seq : Int) % (l.size : Int) := by unfold Wl.at; omega
  have hr2 : (seq : Int) % (l.size : Int) = ((seq % l.size : Nat) : Int) := by omega
  have HR := Lib.hid hr
  have HR2 := Lib.hid hr2
  have bd := (Below.refl w.heap.size w).drew
  have hz : ¬ (l.size : Int) = 0 := by omega
  clear hr hr2
  generalize l.at seq = r at HR ⊢
  generalize seq % l.size = q at hm HR2
  generalize l.size = sz at *
  generalize l.first = fi at *
  go_enter Try.func58, Try.ntmps58
  go_wp2_with fail
  go_region
  go_wp2
  go_ret
  refine ⟨?_, bd⟩
  have e : wrap64 ((fi : Int) + (seq : Int) % (sz : Int)) = (r : Int) := by
    have h1 := HR.out
    rw [HR2.out] at h1 ⊢
    unfold wrap64; omega
  show Ending.returned (.int .i64 (wrap64 ((fi : Int) + (seq : Int) % (sz : Int)))) = _
  rw [e]
def trimE (l : Wl) (t : Int) : Int := if t < l.tail ∨ (l.next : Int) < t then 1 else 0
def Wl.trim (l : Wl) (t : Int) : Wl := if t < l.tail ∨ (l.next : Int) < t then l else { l with tail := t.toNat }
set_option maxHeartbeats 800000 in
theorem trim_any {w : World} {lb db : Nat} {l : Wl} (h : WlAt w lb db l) (t : Int) : Calls Try.prog 17 #[.pointer (some ⟨lb, 0, none⟩), .int .i64 t] w fun e w' => e = .returned (.int .i64 (trimE l t)) ∧ WlAt w' lb db (l.trim t) ∧ (∀ k, k ≠ lb → w'.heap[k]? = w.heap[k]?) ∧ Below lb w w' := by
  have c3 : w.cell? ⟨lb, 3, none⟩ = some (.int .i64 (l.tail : Nat)) := cell_row h 3 rfl
  have c4 : w.cell? ⟨lb, 4, none⟩ = some (.int .i64 (l.next : Nat)) := cell_row h 4 rfl
  have f3 := free_row h 3
  by_cases h1 : t < l.tail
  · have e1 : trimE l t = 1 := if_pos (.inl h1)
    have e2 : l.trim t = l := if_pos (.inl h1)
    rw [e1, e2]
    clear e1 e2
    go_enter Try.func17, Try.ntmps17
    go_wp2
    go_ret
    exact ⟨rfl, h, fun _ _ => rfl, Below.refl _ _⟩
  · by_cases h2 : (l.next : Int) < t
    · have e1 : trimE l t = 1 := if_pos (.inr h2)
      have e2 : l.trim t = l := if_pos (.inr h2)
      rw [e1, e2]
      clear e1 e2
      go_enter Try.func17, Try.ntmps17
      go_wp2
      go_ret
      exact ⟨rfl, h, fun _ _ => rfl, Below.refl _ _⟩
    · have e1 : trimE l t = 0 := if_neg (by omega)
      have e2 : l.trim t = { l with tail := t.toNat } := if_neg (by omega)
      rw [e1, e2]
      have ht : ((t.toNat : Nat) : Int) = t := by omega
      have hs : WlAt (w.setCell ⟨lb, 3, none⟩ (.int .i64 t)) lb db { l with tail := t.toNat } := by
        have := Go.heap_setCell_same w lb 3 _ _ (.int .i64 t) h
        unfold WlAt
        simp only [ht]
        exact this
      have FIN := Lib.hid (And.intro hs (And.intro (fun (k : Nat) (hk : k ≠ lb) => Below.heap_setCell w ⟨lb, 3, none⟩ (.int .i64 t) k hk) ((Below.refl lb w).setCell (p := ⟨lb, 3, none⟩) (Nat.le_refl _) (.int .i64 t))))
      clear e1 e2 hs ht h
      go_enter Try.func17, Try.ntmps17
      go_wp2
      go_ret
      exact ⟨rfl, FIN.out⟩
set_option maxHeartbeats 400000 in
theorem counts_any (z : Int) (w : World) : Calls Try.prog 36 #[.int .i64 z] w fun e w' => e = .returned (.bool (decide (0 ≤ z ∧ z ≤ 1125899906842624))) ∧ w = w' := by
  by_cases h1 : 0 ≤ z
  · by_cases h2 : z ≤ 1125899906842624
    · rw [decide_eq_true ⟨h1, h2⟩]
      go_enter Try.func36, Try.ntmps36
      go_wp2
      go_ret
      exact ⟨rfl, rfl⟩
    · rw [decide_eq_false (fun h => h2 h.2)]
      go_enter Try.func36, Try.ntmps36
      go_wp2
      go_ret
      exact ⟨rfl, rfl⟩
  · rw [decide_eq_false (fun h => h1 h.1)]
    go_enter Try.func36, Try.ntmps36
    go_wp2
    go_ret
    exact ⟨rfl, rfl⟩
end Go.Proofs.Ytbgefdigmdfalaa

/- The contracts of the log's write and read of one record. No statement of the seat is proved here. -/
namespace Go.Proofs.Ytbgefdigmdfalaa
set_option maxRecDepth 20000
open Go.RowKit

def wlWrite (d : Dev) (l : Wl) (r : Lg) : Int × Dev := d.write (l.at r.seq.toNat : Nat) (sectB (logI r))
theorem FK_rec (cs : Array Value) : FK (.cells cs 87 (0, 0)) = false := rfl
theorem log_len_w {r : Lg} (h : logOk r = true) : (sectB (logI r)).length = 256 := (sect_un (by rw [logI_len]; have := logOk_size h; omega)).2.2
set_option maxRecDepth 20000 in
set_option maxHeartbeats 1600000 in
theorem wlWrite_any {B : Nat} {w : World} {lb db : Nat} {l : Wl} {d : Dev} {N : Nat} (hd : DevAt B w db d N) (h : WlAt w lb db l) (ok : l.Ok) (hlen : d.waits.length < 1000000) (hB : B ≤ w.heap.size) (r : Lg) (hr : r.ok) (hro : logOk r = true) :
    Calls Try.prog 41 #[.pointer (some ⟨lb, 0, none⟩), logVal r] w fun e w' => e = .returned (.int .i64 (wlWrite d l r).1) ∧ DevAt B w' db (wlWrite d l r).2 N ∧ WlAt w' lb db l ∧ Fr FK B w w' := by
  have hsq : ((r.seq.toNat : Nat) : Int) = r.seq := by
    unfold logOk at hro
    simp only [decide_eq_true_eq] at hro
    omega
  have hlen6 := log_len_w hro
  have hen := encodeLog_any r hr (w.alloc (.cells #[.int .i64 r.kind, .int .i64 r.epoch, .int .i64 r.seq, .int .i64 r.tx, .int .i64 r.index, .int .i64 r.count, .int .i64 r.page, .string r.data] 87))
  have e1 : elogE r = 0 := by unfold elogE; rw [hro]; rfl
  have e2 : elogR r = sectB (logI r) := by unfold elogR; rw [hro]; rfl
  rw [e1, e2] at hen
  have ba := below_new w (.cells #[.int .i64 r.kind, .int .i64 r.epoch, .int .i64 r.seq, .int .i64 r.tx, .int .i64 r.index, .int .i64 r.count, .int .i64 r.page, .string r.data] 87)
  have ga := heap_alloc_new w (.cells #[.int .i64 r.kind, .int .i64 r.epoch, .int .i64 r.seq, .int .i64 r.tx, .int .i64 r.index, .int .i64 r.count, .int .i64 r.page, .string r.data] 87)
  have HSQ := Lib.hid hsq
  clear e1 e2 hsq hro hr
  unfold wlWrite
  generalize sectB (logI r) = bs at hen hlen6
  obtain ⟨a, b, c, dd, e, f, g, s⟩ := r
  simp only at HSQ ga
  generalize c.toNat = sq at HSQ
  obtain rfl : c = (sq : Int) := HSQ.out.symm
  go_enter Try.func41, Try.ntmps41
  go_wp2_with fail
  refine Calls.mono hen ?_
  rintro x w1 ⟨v1, rfl, o1, b1⟩
  have bb1 := ba.trans (b1.mono ba.size)
  have g1 := (b1.block w.heap.size (by simp)).trans ga
  have h1 := h.below bb1
  have d1 := hd.below bb1
  have s2 : w1.cell? ⟨w.heap.size, 2, none⟩ = some (.int .i64 (sq : Nat)) := cell_row g1 2 rfl
  have hw1 : w.heap.size < w1.heap.size := lt_of_heap g1
  have p0 : w1.cell? ⟨lb, 0, none⟩ = some (.pointer (some ⟨db, 0, none⟩)) := cell_row h1 0 rfl
  have hlb : lb < w1.heap.size := lt_of_heap h1
  have HBY := o1.bytes (by rw [hlen6]; unfold maxLen; omega)
  obtain ⟨ao1, m1, cap1, hv1, hm1⟩ := o1.form'
  subst hv1
  have Fr1 : Fr FK B w w1 := Fr.of_below bb1
  clear hen b1 ba ga HSQ hd h
  go_wp2_with fail
  have hS : Fr FK B w1 w1.drew := (Fr.refl _ _ _).drew
  have hSb : Below w1.heap.size w1 w1.drew := (Below.refl _ _).drew
  refine wp_region_held_drew (S := fun w' => Fr FK B w1 w') mixed hS (fun _ => ?_)
  show wpAnyH _ _ _ _ _ 11 (Array.replicate 11 false) _ _
  refine wpAnyH_take_d 0 (some 15) (.pointer (some ⟨lb, 0, none⟩)) rfl (by kernel_rfl) (by kernel_rfl) (by kernel_rfl) (by kernel_rfl) rfl (fun _ _ _ h => h) (fun _ _ => by kernel_rfl) (by exact hS) ?_
  simp only [Act.put, List.setIfInBounds_toArray, List.set_cons_succ, List.set_cons_zero]
  refine wpAnyH_take_d 1 (some 16) (.pointer (some ⟨lb, 0, none⟩)) rfl (by kernel_rfl) (by kernel_rfl) (by kernel_rfl) (by kernel_rfl) rfl (fun _ _ _ h => h) (fun _ _ => by kernel_rfl) (by exact hS) ?_
  simp only [Act.put, List.setIfInBounds_toArray, List.set_cons_succ, List.set_cons_zero]
  refine wpAnyH_take_d 2 (some 17) (.pointer (some ⟨lb, 0, none⟩)) rfl (by kernel_rfl) (by kernel_rfl) (by kernel_rfl) (by kernel_rfl) rfl (fun _ _ _ h => h) (fun _ _ => by kernel_rfl) (by exact hS) ?_
  simp only [Act.put, List.setIfInBounds_toArray, List.set_cons_succ, List.set_cons_zero]
  refine wpAnyH_take_d 3 (some 18) (.pointer (some ⟨db, 0, none⟩)) rfl (by kernel_rfl) (by kernel_rfl) (by kernel_rfl) (by kernel_rfl) rfl (fun _ _ _ h => h) (fun w' h => exec_load_cell rfl rfl (cell_row (h.keep _ _ h1 (.inr (FK_log _))) 0 rfl) Try.underlying26 rfl) (by exact hS) ?_
  simp only [Act.put, List.setIfInBounds_toArray, List.set_cons_succ, List.set_cons_zero]
  refine wpAnyH_take_d 4 (some 19) (.pointer (some ⟨lb, 0, none⟩)) rfl (by kernel_rfl) (by kernel_rfl) (by kernel_rfl) (by kernel_rfl) rfl (fun _ _ _ h => h) (fun _ _ => by kernel_rfl) (by exact hS) ?_
  simp only [Act.put, List.setIfInBounds_toArray, List.set_cons_succ, List.set_cons_zero]
  refine wpAnyH_take_d 5 (some 20) (.pointer (some ⟨w.heap.size, 2, none⟩)) rfl (by kernel_rfl) (by kernel_rfl) (by kernel_rfl) (by kernel_rfl) rfl (fun _ _ _ h => h) (fun _ _ => by kernel_rfl) (by exact hS) ?_
  simp only [Act.put, List.setIfInBounds_toArray, List.set_cons_succ, List.set_cons_zero]
  refine wpAnyH_take_d 6 (some 21) (.int .i64 (sq : Nat)) rfl (by kernel_rfl) (by kernel_rfl) (by kernel_rfl) (by kernel_rfl) rfl (fun _ _ _ h => h) (fun w' h => exec_load_cell rfl rfl (cell_row (h.keep _ _ g1 (.inr (FK_rec _))) 2 rfl) Try.underlying3 rfl) (by exact hS) ?_
  simp only [Act.put, List.setIfInBounds_toArray, List.set_cons_succ, List.set_cons_zero]
  refine wpAnyH_take_d 8 (some 23) (.slice ao1 m1 cap1) rfl (by kernel_rfl) (by kernel_rfl) (by kernel_rfl) (by kernel_rfl) rfl (fun _ _ _ h => h) (fun _ _ => by kernel_rfl) (by exact hS) ?_
  simp only [Act.put, List.setIfInBounds_toArray, List.set_cons_succ, List.set_cons_zero]
  generalize w1.drew = w2 at hS hSb ⊢
  refine wpAnyH_call 7 (some 22) 58 #[.pointer (some ⟨lb, 0, none⟩), .int .i64 (sq : Nat)] rfl (by kernel_rfl) (by kernel_rfl) rfl (by kernel_rfl) (at_any (h1.below hSb) ok sq) ?_
  rintro x w3 ⟨rfl, b3⟩
  have hSb3 := hSb.trans (b3.mono hSb.size)
  have hS : Fr FK B w1 w3 := Fr.of_below hSb3
  refine ⟨_, rfl, hS, ?_⟩
  simp only [Act.put, List.setIfInBounds_toArray, List.set_cons_succ, List.set_cons_zero]
  have hwr := write_any (d1.below hSb3) (l.at sq : Nat) (HBY.below hSb3) hlen (Nat.le_trans hB (Nat.le_trans bb1.size hSb3.size))
  refine wpAnyH_call 9 (some 24) 29 #[.pointer (some ⟨db, 0, none⟩), .int .i64 (l.at sq : Nat), .slice ao1 m1 cap1] rfl (by kernel_rfl) (by kernel_rfl) rfl (by kernel_rfl) hwr ?_
  rintro x w4 ⟨rfl, d4, f4⟩
  have hS : Fr FK B w1 w4 := hS.trans f4
  refine ⟨_, rfl, hS, ?_⟩
  simp only [Act.put, List.setIfInBounds_toArray, List.set_cons_succ, List.set_cons_zero]
  refine wpAnyH_take_d 10 (some 4) (.int .i64 (d.write (l.at sq : Nat) bs).1) rfl (by kernel_rfl) (by kernel_rfl) (by kernel_rfl) (by kernel_rfl) rfl (fun _ _ _ h => h) (fun _ _ => by kernel_rfl) (by exact hS) ?_
  simp only [Act.put, List.setIfInBounds_toArray, List.set_cons_succ, List.set_cons_zero]
  refine wpAnyH_done (by kernel_rfl) ?_ _
  have FIN := Lib.hid (And.intro d4 (And.intro (h1.fr hS) (Fr1.trans hS)))
  clear d4 hS f4 hwr HBY h1 d1 g1 s2 p0
  go_wp2
  go_ret
  exact ⟨rfl, FIN.out⟩
/-- the record that stands where seq has its place, as it is read -/
def wlRec (d : Dev) (l : Wl) (seq : Nat) : Lg × Bool :=
  if (d.read (l.at seq : Nat)).2 ≠ 0 then (lgNone, false) else (logV (d.read (l.at seq : Nat)).1, decide (logE (d.read (l.at seq : Nat)).1 = 0))
set_option maxRecDepth 20000 in
set_option maxHeartbeats 1600000 in
theorem wlRead_any {B : Nat} {w : World} {lb db : Nat} {l : Wl} {d : Dev} {N : Nat} (hd : DevAt B w db d N) (h : WlAt w lb db l) (ok : l.Ok) (hlen : d.waits.length < 1000000) (seq : Nat) :
    Calls Try.prog 54 #[.pointer (some ⟨lb, 0, none⟩), .int .i64 (seq : Nat)] w fun e w' => e = .returned (.tuple #[logVal (wlRec d l seq).1, .bool (wlRec d l seq).2]) ∧ Below w.heap.size w w' := by
  have B0 := below_new w (.cells #[.int .i64 0, .int .i64 0, .int .i64 0, .int .i64 0, .int .i64 0, .int .i64 0, .int .i64 0, .string ⟨#[]⟩] 87)
  have g0 := heap_alloc_new w (.cells #[.int .i64 0, .int .i64 0, .int .i64 0, .int .i64 0, .int .i64 0, .int .i64 0, .int .i64 0, .string ⟨#[]⟩] 87)
  have hb0 : ∀ w, (Instr.build 87 #[]).run Try.prog w = .ok (.agg #[.int .i64 0, .int .i64 0, .int .i64 0, .int .i64 0, .int .i64 0, .int .i64 0, .int .i64 0, .string ⟨#[]⟩]) w := fun w => run_build w 87 _ _ (by kernel_rfl)
  have h1 := h.below B0
  have d1 := hd.below B0
  clear h hd
  go_enter Try.func54, Try.ntmps54
  go_wp2_with fail
  generalize hwa : w.alloc (.cells #[.int .i64 0, .int .i64 0, .int .i64 0, .int .i64 0, .int .i64 0, .int .i64 0, .int .i64 0, .string ⟨#[]⟩] 87) = wa at B0 g0 h1 d1 ⊢
  have hS : Below wa.heap.size wa wa.drew := (Below.refl _ _).drew
  have hlb := lt_of_heap h1
  refine wp_region_held_drew (S := fun w' => Below wa.heap.size wa w') mixed hS (fun _ => ?_)
  show wpAnyH _ _ _ _ _ 13 (Array.replicate 13 false) _ _
  refine wpAnyH_take_d 0 (some 10) (.pointer (some ⟨lb, 0, none⟩)) rfl (by kernel_rfl) (by kernel_rfl) (by kernel_rfl) (by kernel_rfl) rfl (fun _ _ _ h => h) (fun _ _ => by kernel_rfl) (by exact hS) ?_
  simp only [Act.put, List.setIfInBounds_toArray, List.set_cons_succ, List.set_cons_zero]
  refine wpAnyH_take_d 1 (some 11) (.pointer (some ⟨lb, 0, none⟩)) rfl (by kernel_rfl) (by kernel_rfl) (by kernel_rfl) (by kernel_rfl) rfl (fun _ _ _ h => h) (fun _ _ => by kernel_rfl) (by exact hS) ?_
  simp only [Act.put, List.setIfInBounds_toArray, List.set_cons_succ, List.set_cons_zero]
  refine wpAnyH_take_d 2 (some 12) (.pointer (some ⟨lb, 0, none⟩)) rfl (by kernel_rfl) (by kernel_rfl) (by kernel_rfl) (by kernel_rfl) rfl (fun _ _ _ h => h) (fun _ _ => by kernel_rfl) (by exact hS) ?_
  simp only [Act.put, List.setIfInBounds_toArray, List.set_cons_succ, List.set_cons_zero]
  refine wpAnyH_take_d 3 (some 13) (.pointer (some ⟨db, 0, none⟩)) rfl (by kernel_rfl) (by kernel_rfl) (by kernel_rfl) (by kernel_rfl) rfl (fun _ _ _ h => h) (fun w' h => exec_load_cell rfl rfl (cell_row (h1.below h) 0 rfl) Try.underlying26 rfl) (by exact hS) ?_
  simp only [Act.put, List.setIfInBounds_toArray, List.set_cons_succ, List.set_cons_zero]
  refine wpAnyH_take_d 4 (some 14) (.pointer (some ⟨lb, 0, none⟩)) rfl (by kernel_rfl) (by kernel_rfl) (by kernel_rfl) (by kernel_rfl) rfl (fun _ _ _ h => h) (fun _ _ => by kernel_rfl) (by exact hS) ?_
  simp only [Act.put, List.setIfInBounds_toArray, List.set_cons_succ, List.set_cons_zero]
  refine wpAnyH_take_d 5 (some 15) (.int .i64 (seq : Nat)) rfl (by kernel_rfl) (by kernel_rfl) (by kernel_rfl) (by kernel_rfl) rfl (fun _ _ _ h => h) (fun _ _ => by kernel_rfl) (by exact hS) ?_
  simp only [Act.put, List.setIfInBounds_toArray, List.set_cons_succ, List.set_cons_zero]
  generalize wa.drew = w2 at hS ⊢
  refine wpAnyH_call 6 (some 16) 58 #[.pointer (some ⟨lb, 0, none⟩), .int .i64 (seq : Nat)] rfl (by kernel_rfl) (by kernel_rfl) rfl (by kernel_rfl) (at_any (h1.below hS) ok seq) ?_
  rintro x w3 ⟨rfl, b3⟩
  have hS : Below wa.heap.size wa w3 := hS.trans (b3.mono hS.size)
  refine ⟨_, rfl, hS, ?_⟩
  simp only [Act.put, List.setIfInBounds_toArray, List.set_cons_succ, List.set_cons_zero]
  refine wpAnyH_call 7 (some 17) 37 #[.pointer (some ⟨db, 0, none⟩), .int .i64 (l.at seq : Nat)] rfl (by kernel_rfl) (by kernel_rfl) rfl (by kernel_rfl) (read_any (d1.below hS) (l.at seq : Nat) hlen) ?_
  rintro x w4 ⟨v4, rfl, o4, b4⟩
  have hS : Below wa.heap.size wa w4 := hS.trans (b4.mono hS.size)
  refine ⟨_, rfl, hS, ?_⟩
  simp only [Act.put, List.setIfInBounds_toArray, List.set_cons_succ, List.set_cons_zero]
  obtain ⟨ao4, m4, cap4, hv4, hm4⟩ := o4.form'
  subst hv4
  have hdef : wlRec d l seq = if (d.read (l.at seq : Nat)).2 ≠ 0 then (lgNone, false) else (logV (d.read (l.at seq : Nat)).1, decide (logE (d.read (l.at seq : Nat)).1 = 0)) := rfl
  generalize d.read (l.at seq : Nat) = rd at o4 hdef hm4 ⊢
  obtain ⟨rb, re⟩ := rd
  simp only at o4 hdef hm4 ⊢
  refine wpAnyH_take_d 8 (some 9) (.tuple #[.slice ao4 m4 cap4, .int .i64 re]) rfl (by kernel_rfl) (by kernel_rfl) (by kernel_rfl) (by kernel_rfl) rfl (fun _ _ _ h => h) (fun _ _ => by kernel_rfl) (by exact hS) ?_
  simp only [Act.put, List.setIfInBounds_toArray, List.set_cons_succ, List.set_cons_zero]
  refine wpAnyH_take_d 9 (some 18) (.slice ao4 m4 cap4) rfl (by kernel_rfl) (by kernel_rfl) (by kernel_rfl) (by kernel_rfl) rfl (fun _ _ _ h => h) (fun _ _ => by kernel_rfl) (by exact hS) ?_
  simp only [Act.put, List.setIfInBounds_toArray, List.set_cons_succ, List.set_cons_zero]
  refine wpAnyH_take_d 10 (some 19) (.int .i64 re) rfl (by kernel_rfl) (by kernel_rfl) (by kernel_rfl) (by kernel_rfl) rfl (fun _ _ _ h => h) (fun _ _ => by kernel_rfl) (by exact hS) ?_
  simp only [Act.put, List.setIfInBounds_toArray, List.set_cons_succ, List.set_cons_zero]
  refine wpAnyH_take_d 11 (some 6) (.slice ao4 m4 cap4) rfl (by kernel_rfl) (by kernel_rfl) (by kernel_rfl) (by kernel_rfl) rfl (fun _ _ _ h => h) (fun _ _ => by kernel_rfl) (by exact hS) ?_
  simp only [Act.put, List.setIfInBounds_toArray, List.set_cons_succ, List.set_cons_zero]
  refine wpAnyH_take_d 12 (some 7) (.int .i64 re) rfl (by kernel_rfl) (by kernel_rfl) (by kernel_rfl) (by kernel_rfl) rfl (fun _ _ _ h => h) (fun _ _ => by kernel_rfl) (by exact hS) ?_
  simp only [Act.put, List.setIfInBounds_toArray, List.set_cons_succ, List.set_cons_zero]
  refine wpAnyH_done (by kernel_rfl) ?_ _
  have BW := B0.trans (hS.mono B0.size)
  have gW := (hS.block w.heap.size (lt_of_heap g0)).trans g0
  by_cases e0 : re = 0
  · subst e0
    have hd2 : wlRec d l seq = (logV rb, decide (logE rb = 0)) := by rw [hdef]; simp
    have hdl := decodeLog_any o4.at o4.cap
    have HD := Lib.hid hd2
    generalize hlv : logV rb = r at hdl HD
    generalize hle : logE rb = E at hdl HD
    clear hdef hd2 hlv hle o4 hm4 d1 h1
    go_wp2_with fail
    refine Calls.mono hdl ?_
    rintro x w5 ⟨rfl, b5⟩
    have gW := (b5.block w.heap.size (lt_of_heap gW)).trans gW
    have BW := BW.trans (b5.mono BW.size)
    have b6 := below_new w5 (.cells #[.int .i64 r.kind, .int .i64 r.epoch, .int .i64 r.seq, .int .i64 r.tx, .int .i64 r.index, .int .i64 r.count, .int .i64 r.page, .string r.data] 87)
    have g6 := heap_alloc_new w5 (.cells #[.int .i64 r.kind, .int .i64 r.epoch, .int .i64 r.seq, .int .i64 r.tx, .int .i64 r.index, .int .i64 r.count, .int .i64 r.page, .string r.data] 87)
    have gW := (b6.block w.heap.size (lt_of_heap gW)).trans gW
    have BW := BW.trans (b6.mono BW.size)
    have K1 : StoreOk 87 #[.int .i64 0, .int .i64 0, .int .i64 0, .int .i64 0, .int .i64 0, .int .i64 0, .int .i64 0, .string ⟨#[]⟩] #[.int .i64 r.kind, .int .i64 r.epoch, .int .i64 r.seq, .int .i64 r.tx, .int .i64 r.index, .int .i64 r.count, .int .i64 r.page, .string r.data] := ⟨by kernel_rfl, rfl, by simp [Value.oneCell']⟩
    have q0 : (w5.alloc (.cells #[.int .i64 r.kind, .int .i64 r.epoch, .int .i64 r.seq, .int .i64 r.tx, .int .i64 r.index, .int .i64 r.count, .int .i64 r.page, .string r.data] 87)).cell? ⟨w5.heap.size, 0, none⟩ = some (.int .i64 r.kind) := cell_row g6 0 rfl
    have q1 : (w5.alloc (.cells #[.int .i64 r.kind, .int .i64 r.epoch, .int .i64 r.seq, .int .i64 r.tx, .int .i64 r.index, .int .i64 r.count, .int .i64 r.page, .string r.data] 87)).cell? ⟨w5.heap.size, 1, none⟩ = some (.int .i64 r.epoch) := cell_row g6 1 rfl
    have q2 : (w5.alloc (.cells #[.int .i64 r.kind, .int .i64 r.epoch, .int .i64 r.seq, .int .i64 r.tx, .int .i64 r.index, .int .i64 r.count, .int .i64 r.page, .string r.data] 87)).cell? ⟨w5.heap.size, 2, none⟩ = some (.int .i64 r.seq) := cell_row g6 2 rfl
    have q3 : (w5.alloc (.cells #[.int .i64 r.kind, .int .i64 r.epoch, .int .i64 r.seq, .int .i64 r.tx, .int .i64 r.index, .int .i64 r.count, .int .i64 r.page, .string r.data] 87)).cell? ⟨w5.heap.size, 3, none⟩ = some (.int .i64 r.tx) := cell_row g6 3 rfl
    have q4 : (w5.alloc (.cells #[.int .i64 r.kind, .int .i64 r.epoch, .int .i64 r.seq, .int .i64 r.tx, .int .i64 r.index, .int .i64 r.count, .int .i64 r.page, .string r.data] 87)).cell? ⟨w5.heap.size, 4, none⟩ = some (.int .i64 r.index) := cell_row g6 4 rfl
    have q5 : (w5.alloc (.cells #[.int .i64 r.kind, .int .i64 r.epoch, .int .i64 r.seq, .int .i64 r.tx, .int .i64 r.index, .int .i64 r.count, .int .i64 r.page, .string r.data] 87)).cell? ⟨w5.heap.size, 5, none⟩ = some (.int .i64 r.count) := cell_row g6 5 rfl
    have q6 : (w5.alloc (.cells #[.int .i64 r.kind, .int .i64 r.epoch, .int .i64 r.seq, .int .i64 r.tx, .int .i64 r.index, .int .i64 r.count, .int .i64 r.page, .string r.data] 87)).cell? ⟨w5.heap.size, 6, none⟩ = some (.int .i64 r.page) := cell_row g6 6 rfl
    have q7 : (w5.alloc (.cells #[.int .i64 r.kind, .int .i64 r.epoch, .int .i64 r.seq, .int .i64 r.tx, .int .i64 r.index, .int .i64 r.count, .int .i64 r.page, .string r.data] 87)).cell? ⟨w5.heap.size, 7, none⟩ = some (.string r.data) := cell_row g6 7 rfl
    clear hdl b5 b6
    go_wp2_with (with_reducible refine wpList_store_row2 rfl 87 (.tmp 4) (.tmp 28) rfl w.heap.size #[.int .i64 r.kind, .int .i64 r.epoch, .int .i64 r.seq, .int .i64 r.tx, .int .i64 r.index, .int .i64 r.count, .int .i64 r.page, .string r.data] rfl rfl 87 #[.int .i64 0, .int .i64 0, .int .i64 0, .int .i64 0, .int .i64 0, .int .i64 0, .int .i64 0, .string ⟨#[]⟩] gW K1 ?_)
    have gR := setRow_heap _ w.heap.size _ #[.int .i64 r.kind, .int .i64 r.epoch, .int .i64 r.seq, .int .i64 r.tx, .int .i64 r.index, .int .i64 r.count, .int .i64 r.page, .string r.data] _ _ gW
    have BR := below_setRow BW (Nat.le_refl _) #[.int .i64 r.kind, .int .i64 r.epoch, .int .i64 r.seq, .int .i64 r.tx, .int .i64 r.index, .int .i64 r.count, .int .i64 r.page, .string r.data]
    generalize (w5.alloc (.cells #[.int .i64 r.kind, .int .i64 r.epoch, .int .i64 r.seq, .int .i64 r.tx, .int .i64 r.index, .int .i64 r.count, .int .i64 r.page, .string r.data] 87)).setRow w.heap.size #[.int .i64 r.kind, .int .i64 r.epoch, .int .i64 r.seq, .int .i64 r.tx, .int .i64 r.index, .int .i64 r.count, .int .i64 r.page, .string r.data] = w7 at gR BR ⊢
    have s0 : w7.cell? ⟨w.heap.size, 0, none⟩ = some (.int .i64 r.kind) := cell_row gR 0 rfl
    have s1 : w7.cell? ⟨w.heap.size, 1, none⟩ = some (.int .i64 r.epoch) := cell_row gR 1 rfl
    have s2 : w7.cell? ⟨w.heap.size, 2, none⟩ = some (.int .i64 r.seq) := cell_row gR 2 rfl
    have s3 : w7.cell? ⟨w.heap.size, 3, none⟩ = some (.int .i64 r.tx) := cell_row gR 3 rfl
    have s4 : w7.cell? ⟨w.heap.size, 4, none⟩ = some (.int .i64 r.index) := cell_row gR 4 rfl
    have s5 : w7.cell? ⟨w.heap.size, 5, none⟩ = some (.int .i64 r.count) := cell_row gR 5 rfl
    have s6 : w7.cell? ⟨w.heap.size, 6, none⟩ = some (.int .i64 r.page) := cell_row gR 6 rfl
    have s7 : w7.cell? ⟨w.heap.size, 7, none⟩ = some (.string r.data) := cell_row gR 7 rfl
    go_wp2
    exact bodyPost_ret (v := .tuple #[.agg #[.int .i64 r.kind, .int .i64 r.epoch, .int .i64 r.seq, .int .i64 r.tx, .int .i64 r.index, .int .i64 r.count, .int .i64 r.page, .string r.data], .bool (E == 0)]) (by simp [results, Try.results54, go_sem, s0, s1, s2, s3, s4, s5, s6, s7]) rfl ⟨by rw [HD.out]; simp only [Ending.returned.injEq]; congr 4, BR⟩
  · have hd2 : wlRec d l seq = (lgNone, false) := by rw [hdef, if_pos e0]
    have HD := Lib.hid hd2
    have hq : (re != 0) = true := by simpa using e0
    have K0 : StoreOk 87 #[.int .i64 0, .int .i64 0, .int .i64 0, .int .i64 0, .int .i64 0, .int .i64 0, .int .i64 0, .string ⟨#[]⟩] #[.int .i64 0, .int .i64 0, .int .i64 0, .int .i64 0, .int .i64 0, .int .i64 0, .int .i64 0, .string ⟨#[]⟩] := ⟨by kernel_rfl, rfl, by simp [Value.oneCell']⟩
    clear hdef hd2 o4 hm4 d1 h1 e0
    go_wp2_with (with_reducible refine wpList_store_row2 rfl 87 (.tmp 4) (.tmp 22) rfl w.heap.size #[.int .i64 0, .int .i64 0, .int .i64 0, .int .i64 0, .int .i64 0, .int .i64 0, .int .i64 0, .string ⟨#[]⟩] rfl rfl 87 #[.int .i64 0, .int .i64 0, .int .i64 0, .int .i64 0, .int .i64 0, .int .i64 0, .int .i64 0, .string ⟨#[]⟩] gW K0 ?_)
    have gR := setRow_heap _ w.heap.size _ #[.int .i64 0, .int .i64 0, .int .i64 0, .int .i64 0, .int .i64 0, .int .i64 0, .int .i64 0, .string ⟨#[]⟩] _ _ gW
    have BR := below_setRow BW (Nat.le_refl _) #[.int .i64 0, .int .i64 0, .int .i64 0, .int .i64 0, .int .i64 0, .int .i64 0, .int .i64 0, .string ⟨#[]⟩]
    generalize w4.setRow w.heap.size #[.int .i64 0, .int .i64 0, .int .i64 0, .int .i64 0, .int .i64 0, .int .i64 0, .int .i64 0, .string ⟨#[]⟩] = w7 at gR BR ⊢
    have s0 : w7.cell? ⟨w.heap.size, 0, none⟩ = some (.int .i64 0) := cell_row gR 0 rfl
    have s1 : w7.cell? ⟨w.heap.size, 1, none⟩ = some (.int .i64 0) := cell_row gR 1 rfl
    have s2 : w7.cell? ⟨w.heap.size, 2, none⟩ = some (.int .i64 0) := cell_row gR 2 rfl
    have s3 : w7.cell? ⟨w.heap.size, 3, none⟩ = some (.int .i64 0) := cell_row gR 3 rfl
    have s4 : w7.cell? ⟨w.heap.size, 4, none⟩ = some (.int .i64 0) := cell_row gR 4 rfl
    have s5 : w7.cell? ⟨w.heap.size, 5, none⟩ = some (.int .i64 0) := cell_row gR 5 rfl
    have s6 : w7.cell? ⟨w.heap.size, 6, none⟩ = some (.int .i64 0) := cell_row gR 6 rfl
    have s7 : w7.cell? ⟨w.heap.size, 7, none⟩ = some (.string ⟨#[]⟩) := cell_row gR 7 rfl
    go_wp2
    exact bodyPost_ret (v := .tuple #[.agg #[.int .i64 0, .int .i64 0, .int .i64 0, .int .i64 0, .int .i64 0, .int .i64 0, .int .i64 0, .string ⟨#[]⟩], .bool false]) (by simp [results, Try.results54, go_sem, s0, s1, s2, s3, s4, s5, s6, s7]) rfl ⟨by rw [HD.out]; rfl, BR⟩
end Go.Proofs.Ytbgefdigmdfalaa

/- Images in memory; the contracts of wal's formed and wanted. No statement of the seat is proved here. -/
namespace Go.Proofs.Ytbgefdigmdfalaa
set_option maxRecDepth 20000
open Go.RowKit

structure Im where
  p : Int
  d : ByteArray
def Im.ok (x : Im) : Prop := inI x.p ∧ x.d.size ≤ 140737488355328
def Im.none : Im := ⟨0, ByteArray.empty⟩
def imAt (l : List Im) (i : Nat) : Im := l.getD i .none
theorem imAt_ok {l : List Im} (h : ∀ x ∈ l, x.ok) {i : Nat} (hi : i < l.length) : (imAt l i).ok := by
  unfold imAt; rw [List.getD_eq_getElem?_getD, List.getElem?_eq_getElem hi]; exact h _ (List.getElem_mem hi)
theorem imAt_mem {l : List Im} {i : Nat} (hi : i < l.length) : imAt l i ∈ l := by
  unfold imAt; rw [List.getD_eq_getElem?_getD, List.getElem?_eq_getElem hi]; exact List.getElem_mem hi
theorem mem_imAt {l : List Im} {x : Im} (h : x ∈ l) : ∃ i, i < l.length ∧ imAt l i = x := by
  obtain ⟨i, hi, rfl⟩ := List.mem_iff_getElem.1 h
  exact ⟨i, hi, by unfold imAt; rw [List.getD_eq_getElem?_getD, List.getElem?_eq_getElem hi]; rfl⟩
/-- A slice of images that reads as l in w, its block below B. -/
def ImgsAt (B : Nat) (w : World) (v : Value) (l : List Im) : Prop :=
  ∃ ao cap, v = .slice ao l.length cap ∧ l.length ≤ cap ∧ l.length ≤ 9223372036854775807 ∧ (∀ x ∈ l, x.ok) ∧
    (0 < l.length → ∃ b off, ao = some ⟨b, off, none⟩ ∧ b < B ∧ ∀ i, i < l.length → w.cell? ⟨b, off + i * 2, none⟩ = some (.int .i64 (imAt l i).p) ∧ w.cell? ⟨b, off + i * 2 + 1, none⟩ = some (.string (imAt l i).d))
theorem ImgsAt.below {B : Nat} {w w' : World} {v : Value} {l : List Im} (h : ImgsAt B w v l) (hb : Below B w w') : ImgsAt B w' v l := by
  obtain ⟨ao, cap, hv, h1, h2, h3, h4⟩ := h
  refine ⟨ao, cap, hv, h1, h2, h3, fun h0 => ?_⟩
  obtain ⟨b, off, e, hB, hc⟩ := h4 h0
  refine ⟨b, off, e, hB, fun i hi => ?_⟩
  obtain ⟨c1, c2⟩ := hc i hi
  exact ⟨(hb.cell hB).trans c1, (hb.cell hB).trans c2⟩
theorem ImgsAt.more {B B' : Nat} {w : World} {v : Value} {l : List Im} (h : ImgsAt B w v l) (hB : B ≤ B') : ImgsAt B' w v l := by
  obtain ⟨ao, cap, hv, h1, h2, h3, h4⟩ := h
  refine ⟨ao, cap, hv, h1, h2, h3, fun h0 => ?_⟩
  obtain ⟨b, off, e, hb, hc⟩ := h4 h0
  exact ⟨b, off, e, Nat.lt_of_lt_of_le hb hB, hc⟩
theorem ImgsAt.form' {B : Nat} {w : World} {v : Value} {l : List Im} (h : ImgsAt B w v l) : ∃ ao m cap, v = .slice ao m cap ∧ Hid (m = l.length) := by
  obtain ⟨ao, cap, hv, _⟩ := h
  exact ⟨ao, _, cap, hv, Lib.hid rfl⟩
def cellsM (l : List Im) : List Value := l.flatMap fun x => [.int .i64 x.p, .string x.d]
theorem cellsM_length (l : List Im) : (cellsM l).length = l.length * 2 := by
  induction l with
  | nil => rfl
  | cons x r ih => simp only [cellsM, List.flatMap_cons, List.length_append, List.length_cons, List.length_nil] at *; omega
theorem cellsM_one (l : List Im) : ∀ u ∈ cellsM l, u.oneCell' = true := by
  intro u hu
  simp only [cellsM, List.mem_flatMap] at hu
  obtain ⟨x, _, hx⟩ := hu
  simp only [List.mem_cons, List.not_mem_nil, or_false] at hx
  rcases hx with rfl | rfl <;> rfl
theorem cellsM_append (l m : List Im) : cellsM (l ++ m) = cellsM l ++ cellsM m := by simp [cellsM]
theorem cellsM_get (l : List Im) : ∀ (i : Nat), i < l.length → (cellsM l)[i * 2]? = some (.int .i64 (imAt l i).p) ∧ (cellsM l)[i * 2 + 1]? = some (.string (imAt l i).d) := by
  induction l with
  | nil => intro i hi; simp at hi
  | cons x r ih =>
    intro i hi
    have e : cellsM (x :: r) = [.int .i64 x.p, .string x.d] ++ cellsM r := by simp [cellsM]
    cases i with
    | zero => rw [e]; exact ⟨rfl, rfl⟩
    | succ j =>
      have h := ih j (by simpa using hi)
      have ea : imAt (x :: r) (j + 1) = imAt r j := rfl
      rw [e, ea]
      refine ⟨?_, ?_⟩
      · rw [List.getElem?_append_right (by simp; omega)]; rw [← h.1]; congr 1; simp; omega
      · rw [List.getElem?_append_right (by simp; omega)]; rw [← h.2]; congr 1; simp; omega
/-- A slice of images of the call's own. -/
def OwnM (base : Nat) (w : World) (v : Value) (l : List Im) : Prop := w.ownsRow base 50 2 v l.length (cellsM l)
theorem OwnM.nil (base : Nat) (w : World) : OwnM base w (.slice none 0 0) [] := World.ownsRow_nil w base 50 2
theorem OwnM.alloc {base : Nat} {w : World} {v : Value} {l : List Im} (h : OwnM base w v l) (o : Obj) : OwnM base (w.alloc o) v l := World.ownsRow.alloc h o
theorem OwnM.below {base : Nat} {w w' : World} {v : Value} {l : List Im} (h : OwnM base w v l) (hb : Below w.heap.size w w') : OwnM base w' v l :=
  ownsRow_of_row h (fun k _ hk => (hb.block k (lt_of_heap hk)).trans hk)
theorem OwnM.base {b b' : Nat} {w : World} {v : Value} {l : List Im} (h : OwnM b w v l) (hb : b' ≤ b) : OwnM b' w v l :=
  ownsRow_base h (fun k hk => Nat.le_trans hb (World.ownsRow.lt h k hk).1)
theorem OwnM.form {base : Nat} {w : World} {v : Value} {l : List Im} (h : OwnM base w v l) : ∃ ao cap, v = .slice ao l.length cap ∧ l.length ≤ cap ∧ l.length ≤ maxLen := by
  rcases h.2 with ⟨h1, h2⟩ | ⟨g, cap, cur, hv, hb, hg, hn, hm, hs, htake⟩
  · exact ⟨none, 0, by rw [h1, h2], by omega, by rw [h2]; exact Nat.zero_le _⟩
  · exact ⟨_, cap, hv, hn, Nat.le_trans hn hm⟩
theorem OwnM.form' {base : Nat} {w : World} {v : Value} {l : List Im} (h : OwnM base w v l) : ∃ ao m cap, v = .slice ao m cap ∧ Hid (m = l.length) := by
  obtain ⟨ao, cap, hv, _, _⟩ := h.form
  exact ⟨ao, _, cap, hv, Lib.hid rfl⟩
theorem OwnM.imgs {base : Nat} {w : World} {v : Value} {l : List Im} (h : OwnM base w v l) (hok : ∀ x ∈ l, x.ok) : ImgsAt w.heap.size w v l := by
  obtain ⟨ao, cap, hv, h1, h2⟩ := h.form
  refine ⟨ao, cap, hv, h1, by unfold maxLen at h2; omega, hok, fun h0 => ?_⟩
  obtain ⟨g, cap', hv', hb, hlt⟩ := World.ownsRow.form h h0
  have hc := World.ownsRow.cells h (g := g) (by rw [hv']; rfl)
  rw [hv] at hv'
  have ha : ao = some ⟨g, 0, none⟩ := by injection hv'
  refine ⟨g, 0, ha, hlt, fun i hi => ?_⟩
  obtain ⟨c1, c2⟩ := cellsM_get l i hi
  have e : ∀ j u, (cellsM l)[j]? = some u → w.cell? ⟨g, 0 + j, none⟩ = some u := fun j u hu => by have := hc j u hu; rwa [Addr.add_mid] at this
  exact ⟨e _ _ c1, by rw [Nat.add_assoc]; exact e _ _ c2⟩
theorem infoImg : (Try.prog.info? 50).map (fun i => (i.zero, i.size, i.bytes)) = some (some (.agg #[.int .i64 0, .string ByteArray.empty]), 2, 24) := by kernel_rfl
theorem infoImg' : ∃ i, Try.prog.info? 50 = some i ∧ i.zero = some (.agg #[.int .i64 0, .string ByteArray.empty]) ∧ i.size = 2 ∧ i.bytes = 24 := by
  have h := infoImg
  cases hq : Try.prog.info? 50 with
  | none => rw [hq] at h; simp at h
  | some i => rw [hq] at h; simp at h; exact ⟨i, rfl, h.1, h.2.1, h.2.2⟩
/-- append onto images of one's own: from a slice that reads as images -/
theorem own_append_imgs {base : Nat} {w : World} {v : Value} {l : List Im} (h : OwnM base w v l) {B : Nat} {x : Value} {m : List Im} (hx : ImgsAt B w x m) (hlen : (l.length + m.length) * 24 ≤ 140737488355328) (hb : base ≤ w.heap.size) (ty : TypeId) :
    ∃ v' w', (Builtin.append_ #[44, 44] ty #[v, x]).run Try.prog w = .ok v' w' ∧ OwnM base w' v' (l ++ m) ∧ Below base w w' ∧ w.heap.size ≤ w'.heap.size := by
  obtain ⟨i, hi, hi0, hi1, hi2⟩ := infoImg'
  obtain ⟨bo, c, hxv, hxc0, hxl, hxo, hxc⟩ := hx
  subst hxv
  by_cases h0 : 0 < m.length
  · obtain ⟨b', off', rfl, hB, hat⟩ := hxc h0
    obtain ⟨v', w', hr, ho, hgr, -, -⟩ := run_append_own_at (P := Try.prog) w base 44 ty 50 i _ 2 24 Try.underlying44 hi hi0 hi1 hi2 rfl (by decide) v l.length (cellsM l) h ⟨b', off', none⟩ m.length c (cellsM m) (cellsM_length m) (fun j u hu => by
        have hj : j < m.length * 2 := by have := (List.getElem?_eq_some_iff.1 hu).1; rwa [cellsM_length] at this
        rw [Addr.add_mid]
        obtain ⟨q1, q2⟩ := hat (j / 2) (by omega)
        obtain ⟨p1, p2⟩ := cellsM_get m (j / 2) (by omega)
        have hj3 : j % 2 = 0 ∨ j % 2 = 1 := by omega
        rcases hj3 with e | e
        · have ej : j = j / 2 * 2 := by omega
          rw [ej] at hu ⊢
          rw [p1] at hu; rw [← hu]
          exact q1
        · have ej : j = j / 2 * 2 + 1 := by omega
          rw [ej] at hu ⊢
          rw [p2] at hu; rw [← hu, ← Nat.add_assoc]
          exact q2) (cellsM_one m) (by unfold maxLen; omega) (by omega) hb
    refine ⟨v', w', hr, ?_, (Below.refl _ _).grown hgr hb (fun k hk => (World.ownsRow.lt h k hk).1), hgr.size⟩
    unfold OwnM
    rw [List.length_append, cellsM_append]
    exact ho
  · have hcs : m = [] := List.eq_nil_of_length_eq_zero (by omega)
    subst hcs
    obtain ⟨ao, cap, hv, hc1, _⟩ := h.form
    subst hv
    refine ⟨_, w, run_append_none w 44 ty 50 Try.underlying44 i hi ao bo l.length cap c hc1, by rw [List.append_nil]; exact h, Below.refl _ _, Nat.le_refl _⟩
theorem build_imgs_one (w : World) (x : Im) : (Instr.buildSlice 44 1 #[(0, .agg #[.int .i64 x.p, .string x.d])]).run Try.prog w = .ok (.slice (some ⟨w.heap.size, 0, none⟩) 1 1) (w.alloc (.cells #[.int .i64 x.p, .string x.d] 50)) := by
  obtain ⟨i, hi, hi0, hi1, hi2⟩ := infoImg'
  exact run_buildSlice_one w 44 50 i _ [.int .i64 x.p, .string x.d] Try.underlying44 hi hi0 hi1 (by simp) (by simp)
theorem imgs_one (w : World) (x : Im) (hx : x.ok) : ImgsAt (w.alloc (.cells #[.int .i64 x.p, .string x.d] 50)).heap.size (w.alloc (.cells #[.int .i64 x.p, .string x.d] 50)) (.slice (some ⟨w.heap.size, 0, none⟩) 1 1) [x] := by
  refine ⟨_, 1, rfl, Nat.le_refl _, by simp, fun y hy => ?_, fun _ => ⟨w.heap.size, 0, rfl, by simp, fun i hi => ?_⟩⟩
  · rw [List.mem_singleton.1 hy]; exact hx
  · have : i = 0 := by simpa using hi
    subst this
    exact ⟨cell_new w _ _ 0 _ rfl, cell_new w _ _ 1 _ rfl⟩


def imOk (x : Im) : Bool := decide (0 ≤ x.p ∧ x.d.size ≤ 160)
def imsOk (l : List Im) : Bool := l.all imOk
theorem imsOk_false {l : List Im} {i : Nat} (hi : i < l.length) (h : imOk (imAt l i) = false) : imsOk l = false := by
  unfold imsOk; rw [List.all_eq_false]; exact ⟨_, imAt_mem hi, by simpa using h⟩
theorem imsOk_true {l : List Im} (h : ∀ i, i < l.length → imOk (imAt l i) = true) : imsOk l = true := by
  unfold imsOk; rw [List.all_eq_true]; intro x hx; obtain ⟨i, hi, rfl⟩ := mem_imAt hx; exact h i hi
set_option maxHeartbeats 800000 in
theorem wformed_any {w : World} {v : Value} {l : List Im} (h : ImgsAt w.heap.size w v l) : Calls Try.prog 40 #[v] w fun e w' => e = .returned (.bool (imsOk l)) ∧ Below w.heap.size w w' := by
  obtain ⟨ao, cap, rfl, h1, h2, h3, h4⟩ := h
  have H3 := Lib.hid h3
  clear h3
  obtain ⟨m, hm⟩ : ∃ m, l.length = m := ⟨_, rfl⟩
  rw [hm] at h1 h2 h4 ⊢
  have HM := Lib.hid hm
  clear hm
  go_enter Try.func40, Try.ntmps40
  go_wp2
  go_loopw [7] (fun iv wr => ∃ k : Nat, k ≤ m ∧ iv = .int .i64 k ∧ Hid (∀ j, j < k → imOk (imAt l j) = true) ∧ Below w.heap.size w wr) (fun iv _ => m - (intOf iv).toNat)
  case atStart => exact ⟨0, Nat.zero_le _, rfl, Lib.hid (fun j hj => by omega), Below.refl _ _⟩
  case round =>
    obtain ⟨k, hk, rfl, hf, hb⟩ := hrel
    by_cases hlt : k < m
    · have hlt' : k < l.length := by rw [HM.out]; exact hlt
      obtain ⟨b, off, rfl, hB, hc⟩ := h4 (by omega)
      obtain ⟨d1, d2⟩ := hc k hlt
      have d1' := (hb.cell (p := ⟨b, off + k * 2, none⟩) hB).trans d1
      have d2' := (hb.cell (p := ⟨b, off + k * 2 + 1, none⟩) hB).trans d2
      have hok := imAt_ok H3.out hlt'
      have HBA := hb.alloc hb.size (.cells #[.int .i64 (imAt l k).p, .string (imAt l k).d] 50)
      have hfd : imOk (imAt l k) = decide (0 ≤ (imAt l k).p ∧ (imAt l k).d.size ≤ 160) := rfl
      generalize hx : imAt l k = x at d1' d2' hok HBA hfd
      obtain ⟨xp, xd⟩ := x
      obtain ⟨o1, o2⟩ := hok
      simp only at d1' d2' o1 o2 HBA hfd
      have hfe : imOk (imAt l k) = decide (0 ≤ xp ∧ xd.size ≤ 160) := by rw [hx]; exact hfd
      have hfe := Lib.hid hfe
      clear hx hfd
      by_cases c1 : 0 ≤ xp
      · have c1' : ¬ xp < 0 := by omega
        by_cases c2 : xd.size ≤ 160
        · have hfq : imOk (imAt l k) = true := by rw [hfe.out]; exact decide_eq_true ⟨c1, c2⟩
          have HF : Hid (∀ j, j < k + 1 → imOk (imAt l j) = true) := Lib.hid (snoc_true (p := fun j => imOk (imAt l j)) hf.out hfq)
          clear hf h4 hc d1 d2 hfq
          go_wp2
          go_roundw
          case rel => exact ⟨k + 1, by omega, by go_num, HF, HBA⟩
          case measure => simp [intOf]; omega
        · have HF := Lib.hid (imsOk_false hlt' (by rw [hfe.out]; exact decide_eq_false (fun h => c2 h.2)))
          clear hf h4 hc d1 d2
          go_wp2
          go_ret
          exact ⟨by rw [HF.out]; rfl, HBA⟩
      · have HF := Lib.hid (imsOk_false hlt' (by rw [hfe.out]; exact decide_eq_false (fun h => c1 h.1)))
        clear hf h4 hc d1 d2
        go_wp2
        go_ret
        exact ⟨by rw [HF.out]; rfl, HBA⟩
    · have ht := Lib.hid (imsOk_true (l := l) (fun i hi => hf.out i (by rw [HM.out] at hi; omega)))
      clear hf h4
      go_wp2
      go_ret
      exact ⟨by rw [ht.out]; rfl, hb⟩
end Go.Proofs.Ytbgefdigmdfalaa

/- The contract of wal's wanted. No statement of the seat is proved here. -/
namespace Go.Proofs.Ytbgefdigmdfalaa
set_option maxRecDepth 20000
open Go.RowKit

def wantR (e tx : Nat) (i : Nat) (l : List Im) : Lg := if i < l.length then ⟨1, e, ((tx + i : Nat) : Int), tx, i, l.length, (imAt l i).p, (imAt l i).d⟩ else ⟨2, e, ((tx + i : Nat) : Int), tx, i, l.length, 0, ByteArray.empty⟩
set_option maxRecDepth 20000 in
set_option maxHeartbeats 1600000 in
theorem wanted_any {w : World} {v : Value} {l : List Im} (h : ImgsAt w.heap.size w v l) (hl : l.length ≤ 4096) (e tx i : Nat) (_ : e ≤ 1125899906850000) (ht : tx ≤ 1125899906860000) (hi : i ≤ 4096) : Calls Try.prog 42 #[.int .i64 (e : Nat), .int .i64 (tx : Nat), .int .i64 (i : Nat), v] w fun x w' => x = .returned (logVal (wantR e tx i l)) ∧ Below w.heap.size w w' := by
  obtain ⟨ao, cap, rfl, h1, h2, h3, h4⟩ := h
  obtain ⟨m, hm⟩ : ∃ m, l.length = m := ⟨_, rfl⟩
  rw [hm] at h1 h2 h4 hl ⊢
  have HM := Lib.hid hm
  clear hm
  have Z := below_new w (.cells #[.int .i64 0, .int .i64 0, .int .i64 0, .int .i64 0, .int .i64 0, .int .i64 0, .int .i64 0, .string ⟨#[]⟩] 87)
  have hsum : IntKind.i64.wrap ((tx : Int) + (i : Int)) = ((tx + i : Nat) : Int) := by rw [IntKind.wrap_i64]; omega
  by_cases hlt : i < m
  · have hlt' : i < l.length := by rw [HM.out]; exact hlt
    obtain ⟨b, off, rfl, hB, hc⟩ := h4 (by omega)
    obtain ⟨d1, d2⟩ := hc i hlt
    have HR : Hid (wantR e tx i l = ⟨1, e, ((tx + i : Nat) : Int), tx, i, m, (imAt l i).p, (imAt l i).d⟩) := Lib.hid (by unfold wantR; rw [if_pos hlt', HM.out])
    have B1x := Z.alloc Z.size (.cells #[.int .i64 2, .int .i64 (e : Nat), .int .i64 ((tx : Int) + (i : Int)), .int .i64 (tx : Nat), .int .i64 (i : Nat), .int .i64 (m : Nat), .int .i64 0, .string ⟨#[]⟩] 87)
    have c1_1 := (B1x.cell (p := ⟨b, off + i * 2, none⟩) hB).trans d1
    have c2_1 := (B1x.cell (p := ⟨b, off + i * 2 + 1, none⟩) hB).trans d2
    have B2x := Z.alloc Z.size (.cells #[.int .i64 2, .int .i64 (e : Nat), .int .i64 ((tx : Int) + (i : Int)), .int .i64 (tx : Nat), .int .i64 (i : Nat), .int .i64 (m : Nat), .int .i64 0, .string (imAt l i).d] 87)
    have c1_2 := (B2x.cell (p := ⟨b, off + i * 2, none⟩) hB).trans d1
    have c2_2 := (B2x.cell (p := ⟨b, off + i * 2 + 1, none⟩) hB).trans d2
    have B3x := Z.alloc Z.size (.cells #[.int .i64 2, .int .i64 (e : Nat), .int .i64 ((tx : Int) + (i : Int)), .int .i64 (tx : Nat), .int .i64 (i : Nat), .int .i64 (m : Nat), .int .i64 (imAt l i).p, .string ⟨#[]⟩] 87)
    have c1_3 := (B3x.cell (p := ⟨b, off + i * 2, none⟩) hB).trans d1
    have c2_3 := (B3x.cell (p := ⟨b, off + i * 2 + 1, none⟩) hB).trans d2
    have B4x := Z.alloc Z.size (.cells #[.int .i64 2, .int .i64 (e : Nat), .int .i64 ((tx : Int) + (i : Int)), .int .i64 (tx : Nat), .int .i64 (i : Nat), .int .i64 (m : Nat), .int .i64 (imAt l i).p, .string (imAt l i).d] 87)
    have c1_4 := (B4x.cell (p := ⟨b, off + i * 2, none⟩) hB).trans d1
    have c2_4 := (B4x.cell (p := ⟨b, off + i * 2 + 1, none⟩) hB).trans d2
    have B5x := Z.alloc Z.size (.cells #[.int .i64 1, .int .i64 (e : Nat), .int .i64 ((tx : Int) + (i : Int)), .int .i64 (tx : Nat), .int .i64 (i : Nat), .int .i64 (m : Nat), .int .i64 0, .string ⟨#[]⟩] 87)
    have c1_5 := (B5x.cell (p := ⟨b, off + i * 2, none⟩) hB).trans d1
    have c2_5 := (B5x.cell (p := ⟨b, off + i * 2 + 1, none⟩) hB).trans d2
    have B6x := Z.alloc Z.size (.cells #[.int .i64 1, .int .i64 (e : Nat), .int .i64 ((tx : Int) + (i : Int)), .int .i64 (tx : Nat), .int .i64 (i : Nat), .int .i64 (m : Nat), .int .i64 0, .string (imAt l i).d] 87)
    have c1_6 := (B6x.cell (p := ⟨b, off + i * 2, none⟩) hB).trans d1
    have c2_6 := (B6x.cell (p := ⟨b, off + i * 2 + 1, none⟩) hB).trans d2
    have B7x := Z.alloc Z.size (.cells #[.int .i64 1, .int .i64 (e : Nat), .int .i64 ((tx : Int) + (i : Int)), .int .i64 (tx : Nat), .int .i64 (i : Nat), .int .i64 (m : Nat), .int .i64 (imAt l i).p, .string ⟨#[]⟩] 87)
    have c1_7 := (B7x.cell (p := ⟨b, off + i * 2, none⟩) hB).trans d1
    have c2_7 := (B7x.cell (p := ⟨b, off + i * 2 + 1, none⟩) hB).trans d2
    have B8x := Z.alloc Z.size (.cells #[.int .i64 1, .int .i64 (e : Nat), .int .i64 ((tx : Int) + (i : Int)), .int .i64 (tx : Nat), .int .i64 (i : Nat), .int .i64 (m : Nat), .int .i64 (imAt l i).p, .string (imAt l i).d] 87)
    have c1_8 := (B8x.cell (p := ⟨b, off + i * 2, none⟩) hB).trans d1
    have c2_8 := (B8x.cell (p := ⟨b, off + i * 2 + 1, none⟩) hB).trans d2
    have hbw : b ≠ w.heap.size := by omega
    have hbw1 : b ≠ w.heap.size + 1 := by omega
    generalize (imAt l i).p = xp at *
    generalize (imAt l i).d = xd at *
    clear d1 d2 hc h4 h3
    go_enter Try.func42, Try.ntmps42
    go_wp2_with fail
    go_region
    have BF := (below_new w (.cells #[.int .i64 1, .int .i64 (e : Nat), .int .i64 ((tx : Int) + (i : Int)), .int .i64 (tx : Nat), .int .i64 (i : Nat), .int .i64 (m : Nat), .int .i64 xp, .string xd] 87)).alloc (by simp) (.cells #[.int .i64 1, .int .i64 (e : Nat), .int .i64 ((tx : Int) + (i : Int)), .int .i64 (tx : Nat), .int .i64 (i : Nat), .int .i64 (m : Nat), .int .i64 xp, .string xd] 87)
    have BD := BF.drew
    go_wp2
    exact bodyPost_ret (v := .agg #[.int .i64 1, .int .i64 (e : Nat), .int .i64 ((tx : Int) + (i : Int)), .int .i64 (tx : Nat), .int .i64 (i : Nat), .int .i64 (m : Nat), .int .i64 xp, .string xd]) (by simp [results, Try.results42, go_sem]) rfl ⟨by rw [HR.out]; simp, BD⟩
  · have HR : Hid (wantR e tx i l = ⟨2, e, ((tx + i : Nat) : Int), tx, i, m, 0, ByteArray.empty⟩) := Lib.hid (by unfold wantR; rw [if_neg (by rw [HM.out]; exact hlt), HM.out])
    have BF := (below_new w (.cells #[.int .i64 2, .int .i64 (e : Nat), .int .i64 ((tx : Int) + (i : Int)), .int .i64 (tx : Nat), .int .i64 (i : Nat), .int .i64 (m : Nat), .int .i64 0, .string ⟨#[]⟩] 87)).alloc (by simp) (.cells #[.int .i64 2, .int .i64 (e : Nat), .int .i64 ((tx : Int) + (i : Int)), .int .i64 (tx : Nat), .int .i64 (i : Nat), .int .i64 (m : Nat), .int .i64 0, .string ⟨#[]⟩] 87)
    clear h3 h4
    go_enter Try.func42, Try.ntmps42
    go_wp2
    exact bodyPost_ret (v := .agg #[.int .i64 2, .int .i64 (e : Nat), .int .i64 ((tx : Int) + (i : Int)), .int .i64 (tx : Nat), .int .i64 (i : Nat), .int .i64 (m : Nat), .int .i64 0, .string ⟨#[]⟩]) (by simp [results, Try.results42, go_sem]) rfl ⟨by rw [HR.out]; first | rfl | simp, BF⟩
end Go.Proofs.Ytbgefdigmdfalaa

/- The contract of wal's follows. No statement of the seat is proved here. -/
namespace Go.Proofs.Ytbgefdigmdfalaa
set_option maxRecDepth 20000
open Go.RowKit

/-- is this the record i of the transaction that begins with the record tx, which is head? -/
def folB (r hd : Lg) (tx i : Nat) : Bool := decide (r.kind = (if (i : Int) = hd.count then 2 else 1) ∧ r.epoch = hd.epoch ∧ r.seq = ((tx + i : Nat) : Int) ∧ r.tx = (tx : Int) ∧ r.index = (i : Int) ∧ r.count = hd.count)
set_option maxRecDepth 20000 in
set_option maxHeartbeats 1600000 in
theorem follows_any (w : World) (r hd : Lg) (tx i : Nat) (ht : tx ≤ 1125899906860000) (hi : i ≤ 4096) : Calls Try.prog 64 #[logVal r, logVal hd, .int .i64 (tx : Nat), .int .i64 (i : Nat)] w fun x w' => x = .returned (.bool (folB r hd tx i)) ∧ Below w.heap.size w w' := by
  obtain ⟨k, e, s, t, x, c, p, d⟩ := r
  obtain ⟨k', e', s', t', x', c', p', d'⟩ := hd
  have hsum : IntKind.i64.wrap ((tx : Int) + (i : Int)) = ((tx + i : Nat) : Int) := by rw [IntKind.wrap_i64]; omega
  unfold logVal
  simp only
  go_enter Try.func64, Try.ntmps64
  go_wp2_with fail
  all_goals go_ret
  all_goals (refine ⟨?_, (below_new w _).alloc (by simp) _⟩)
  all_goals (simp only [Ending.returned.injEq, folB])
  all_goals simp_all
  all_goals exact (Bool.eq_iff_iff.2 (by simp))
end Go.Proofs.Ytbgefdigmdfalaa
