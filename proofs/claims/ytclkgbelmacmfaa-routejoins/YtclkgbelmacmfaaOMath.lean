/- Names and paths as lists of bytes: plain mathematics. No statement of the seat is proved here. -/
import Derived.Test.YtclkgbelmacmfaaRows
import Derived.Lib.Bytealg
import Derived.Lib.Strings
namespace Go.Proofs.Ytclkgbelmacmfaa
set_option maxRecDepth 20000

abbrev BL := List UInt8
def txt (l : BL) : ByteArray := ⟨l.toArray⟩
def bl (s : ByteArray) : BL := s.data.toList
theorem txt_bl (s : ByteArray) : txt (bl s) = s := rfl
theorem bl_txt (l : BL) : bl (txt l) = l := rfl
theorem bl_inj {s t : ByteArray} (h : bl s = bl t) : s = t := by rw [← txt_bl s, ← txt_bl t, h]
theorem bl_len (s : ByteArray) : (bl s).length = s.size := rfl
theorem txt_size (l : BL) : (txt l).size = l.length := rfl
def okB (b : UInt8) : Bool := decide (33 ≤ b.toNat) && decide (b.toNat ≤ 126) && !(b == 47)
def nmL (l : BL) : Bool := decide (1 ≤ l.length) && decide (l.length ≤ 16) && !(l == [46]) && !(l == [46, 46]) && l.all okB
def nm (s : ByteArray) : Bool := nmL (bl s)
theorem nmL_len {l : BL} (h : nmL l = true) : 1 ≤ l.length ∧ l.length ≤ 16 ∧ ∀ b ∈ l, okB b = true := by
  unfold nmL at h
  simp only [Bool.and_eq_true, decide_eq_true_eq, List.all_eq_true] at h
  exact ⟨h.1.1.1.1, h.1.1.1.2, h.2⟩
theorem okB_ne {b : UInt8} (h : okB b = true) : (!(b == 47)) = true := by
  unfold okB at h
  simp only [Bool.and_eq_true] at h
  exact h.2
def seg (t : BL) : BL := t.takeWhile (fun b => !(b == 47))
def past (t : BL) : BL := t.dropWhile (fun b => !(b == 47))
theorem seg_past (t : BL) : seg t ++ past t = t := List.takeWhile_append_dropWhile ..
theorem past_len (t : BL) : (past t).length ≤ t.length := by
  have := congrArg List.length (seg_past t)
  rw [List.length_append] at this; omega
def joinL (ns : List ByteArray) : BL := ns.flatMap (fun m => 47 :: bl m)
theorem joinL_nil : joinL [] = [] := rfl
theorem joinL_cons (m : ByteArray) (r : List ByteArray) : joinL (m :: r) = 47 :: (bl m ++ joinL r) := rfl
theorem joinL_snoc (r : List ByteArray) (m : ByteArray) : joinL (r ++ [m]) = joinL r ++ (47 :: bl m) := by simp [joinL]
theorem seg_join {m : BL} (hm : nmL m = true) (r : List ByteArray) : seg (m ++ joinL r) = m ∧ past (m ++ joinL r) = joinL r := by
  have h := (nmL_len hm).2.2
  have e1 : seg (joinL r) = [] ∧ past (joinL r) = joinL r := by
    cases r with
    | nil => exact ⟨rfl, rfl⟩
    | cons a r => rw [joinL_cons]; exact ⟨rfl, rfl⟩
  unfold seg past at *
  rw [List.takeWhile_append_of_pos (fun b hb => okB_ne (h b hb)), List.dropWhile_append_of_pos (fun b hb => okB_ne (h b hb)), e1.1, List.append_nil]
  exact ⟨rfl, e1.2⟩
def parseF : Nat → BL → List ByteArray → Option (List ByteArray)
  | 0, _, _ => none
  | _ + 1, [], acc => if acc.isEmpty then none else some acc
  | n + 1, c :: t, acc => if c == 47 && !(acc.length == 10) && nmL (seg t) then parseF n (past t) (acc ++ [txt (seg t)]) else none
theorem parseF_iff : ∀ (n : Nat) (r : BL) (acc ns : List ByteArray), r.length < n → acc.length ≤ 10 →
    (parseF n r acc = some ns ↔ ∃ ms, ns = acc ++ ms ∧ ns ≠ [] ∧ r = joinL ms ∧ (∀ m ∈ ms, nm m = true) ∧ ns.length ≤ 10)
  | 0, r, acc, ns, h, _ => absurd h (Nat.not_lt_zero _)
  | n + 1, [], acc, ns, h, ha => by
    unfold parseF
    constructor
    · intro h
      cases acc with
      | nil => simp at h
      | cons a r => simp at h; subst h; exact ⟨[], by simp, by simp, rfl, by simp, ha⟩
    · rintro ⟨ms, rfl, h1, h2, -, -⟩
      cases ms with
      | nil =>
        rw [List.append_nil] at h1 ⊢
        cases acc with
        | nil => exact absurd rfl h1
        | cons a r => rfl
      | cons a r => rw [joinL_cons] at h2; cases h2
  | n + 1, c :: t, acc, ns, h, ha => by
    have hl : (past t).length < n := by have := past_len t; simp at h; omega
    unfold parseF
    constructor
    · intro hp
      split at hp
      · rename_i hc
        simp only [Bool.and_eq_true, Bool.not_eq_true', beq_eq_false_iff_ne, ne_eq, beq_iff_eq] at hc
        obtain ⟨⟨rfl, h10⟩, hm⟩ := hc
        obtain ⟨ms, rfl, h1, h2, h3, h4⟩ := (parseF_iff n (past t) (acc ++ [txt (seg t)]) ns hl (by rw [List.length_append, List.length_singleton]; omega)).1 hp
        refine ⟨txt (seg t) :: ms, by simp, h1, ?_, fun m hmm => ?_, h4⟩
        · rw [joinL_cons, bl_txt, ← h2, seg_past]
        · rcases List.mem_cons.1 hmm with rfl | hmm
          · exact hm
          · exact h3 m hmm
      · cases hp
    · rintro ⟨ms, rfl, h1, h2, h3, h4⟩
      cases ms with
      | nil => rw [joinL_nil] at h2; cases h2
      | cons m r =>
        rw [joinL_cons] at h2
        injection h2 with e1 e2
        subst e1
        have hm : nmL (bl m) = true := h3 m (List.mem_cons_self ..)
        obtain ⟨s1, s2⟩ := seg_join hm r
        rw [e2, s1, s2]
        simp only [List.length_append, List.length_cons] at h4
        have h10 : (acc.length == 10) = false := by rw [beq_eq_false_iff_ne]; omega
        rw [h10, hm]
        simp only [beq_self_eq_true, Bool.not_false, Bool.and_self, if_true]
        refine (parseF_iff n (joinL r) _ _ (by rw [← s2, ← e2]; exact hl) (by simp; omega)).2 ⟨r, by rw [txt_bl]; simp, h1, rfl, fun x hx => h3 x (List.mem_cons_of_mem _ hx), by simp; omega⟩
def parse (p : BL) : Option (List ByteArray) := if p = [47] then some [] else parseF (p.length + 1) p []
def okNs (ns : List ByteArray) : Bool := decide (ns.length ≤ 10) && ns.all nm
theorem okNs_iff {ns : List ByteArray} : okNs ns = true ↔ ns.length ≤ 10 ∧ ∀ m ∈ ns, nm m = true := by
  unfold okNs; simp only [Bool.and_eq_true, decide_eq_true_eq, List.all_eq_true]
def pathL (ns : List ByteArray) : BL := if ns.isEmpty then [47] else joinL ns
theorem parse_iff {p : BL} {ns : List ByteArray} : parse p = some ns ↔ okNs ns = true ∧ p = pathL ns := by
  unfold parse pathL
  rw [okNs_iff]
  by_cases hp : p = [47]
  · rw [if_pos hp]
    constructor
    · intro h; injection h with h; subst h; exact ⟨⟨by simp, by simp⟩, hp⟩
    · rintro ⟨⟨_, h3⟩, h2⟩
      cases ns with
      | nil => rfl
      | cons m r =>
        rw [hp] at h2
        simp [joinL_cons] at h2
        have := (nmL_len (h3 m (List.mem_cons_self ..))).1
        rw [h2.1] at this; simp at this
  · rw [if_neg hp, parseF_iff _ _ _ _ (by omega) (by simp)]
    constructor
    · rintro ⟨ms, hms, h1, h2, h3, h4⟩
      rw [List.nil_append] at hms
      subst hms
      refine ⟨⟨h4, h3⟩, ?_⟩
      cases ns with
      | nil => exact absurd rfl h1
      | cons m r => exact h2
    · rintro ⟨⟨h4, h3⟩, h2⟩
      cases ns with
      | nil => exact absurd h2 hp
      | cons m r => exact ⟨_, rfl, by simp, h2, h3, h4⟩
theorem parse_path {ns : List ByteArray} (h : okNs ns = true) : parse (pathL ns) = some ns := parse_iff.2 ⟨h, rfl⟩
theorem parse_step (n : Nat) (c : UInt8) (t : BL) (acc : List ByteArray) : parseF (n + 1) (c :: t) acc = if c == 47 && !(acc.length == 10) && nmL (seg t) then parseF n (past t) (acc ++ [txt (seg t)]) else none := rfl

/-- what the calls answer -/
def nsOf (p : ByteArray) : List ByteArray := (parse (bl p)).getD []
def erOf (p : ByteArray) : Int := if (parse (bl p)).isSome then 0 else 6
def joE (ns : List ByteArray) : Int := if okNs ns then 0 else 6
def joS (ns : List ByteArray) : ByteArray := if okNs ns then txt (pathL ns) else ByteArray.empty
def paE (p : ByteArray) : Int := if (nsOf p).isEmpty then 6 else 0
def paUp (p : ByteArray) : ByteArray := if (nsOf p).isEmpty then ByteArray.empty else txt (pathL (nsOf p).dropLast)
def paNm (p : ByteArray) : ByteArray := (nsOf p).getLastD ByteArray.empty
def unE (p a : ByteArray) : Int := if (parse (bl p)).isSome && (parse (bl a)).isSome then 0 else 6
def isUnder (l m : List ByteArray) : Bool := decide (m.length < l.length) && decide (l.take m.length = m)
def unB (p a : ByteArray) : Bool := (parse (bl p)).isSome && (parse (bl a)).isSome && isUnder (nsOf p) (nsOf a)
theorem erOf_cases (p : ByteArray) : (erOf p = 0 ∧ parse (bl p) = some (nsOf p) ∧ okNs (nsOf p) = true ∧ p = txt (pathL (nsOf p))) ∨ (erOf p = 6 ∧ parse (bl p) = none ∧ nsOf p = []) := by
  unfold erOf nsOf
  cases h : parse (bl p) with
  | none => exact .inr ⟨rfl, rfl, rfl⟩
  | some ns =>
    obtain ⟨h1, h2⟩ := parse_iff.1 h
    exact .inl ⟨rfl, rfl, h1, by simp only [Option.getD_some]; rw [← h2]; rfl⟩
theorem okNs_take {ns : List ByteArray} (h : okNs ns = true) (k : Nat) : okNs (ns.take k) = true := by
  rw [okNs_iff] at *
  exact ⟨by rw [List.length_take]; omega, fun m hm => h.2 m (List.mem_of_mem_take hm)⟩
theorem okNs_dropLast {ns : List ByteArray} (h : okNs ns = true) : okNs ns.dropLast = true := by
  rw [List.dropLast_eq_take]; exact okNs_take h _
theorem nsOf_ok (p : ByteArray) : okNs (nsOf p) = true := by
  rcases erOf_cases p with ⟨_, _, h, _⟩ | ⟨_, _, h⟩
  · exact h
  · rw [h]; rfl
end Go.Proofs.Ytclkgbelmacmfaa
