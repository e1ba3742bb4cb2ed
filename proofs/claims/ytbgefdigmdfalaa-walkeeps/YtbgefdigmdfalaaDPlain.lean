/- Plain facts on the device: what is read behind writes, flushes and crashes. No statement of the seat is proved here. -/
import Derived.Test.YtbgefdigmdfalaaJ2
namespace Go.Proofs.Ytbgefdigmdfalaa
set_option maxRecDepth 20000

theorem newest_append (l : List (Int × List UInt8)) (p : Int × List UInt8) (i : Int) : newest (l ++ [p]) i = if p.1 = i then some p.2 else newest l i := by
  unfold newest; rw [List.foldl_append]; rfl
theorem newest_none {l : List (Int × List UInt8)} {i : Int} (h : ∀ p ∈ l, p.1 ≠ i) : newest l i = none := by
  unfold newest
  suffices ∀ (l : List (Int × List UInt8)) (acc : Option (List UInt8)), (∀ p ∈ l, p.1 ≠ i) → l.foldl (fun acc p => if p.1 = i then some p.2 else acc) acc = acc from this l none h
  intro l
  induction l with
  | nil => intro acc _; rfl
  | cons p l ih =>
    intro acc hl
    rw [List.foldl_cons, if_neg (hl p (by simp))]
    exact ih acc (fun q hq => hl q (by simp [hq]))
/-- What lasts behind the first k writes of a flush. -/
theorem flush_last (d : Dev) (i : Int) : ∀ k, k ≤ d.waits.length → (d.apply flushF k).last i = match newest (d.waits.take k) i with | some bs => (bs, false) | none => d.last i
  | 0, _ => rfl
  | k + 1, h => by
    obtain ⟨p, hp⟩ : ∃ p, d.waits[k]? = some p := ⟨_, List.getElem?_eq_getElem (by omega)⟩
    rw [apply_flush hp, newest_succ hp]
    show upd (d.apply flushF k).last p.1 (p.2, false) i = _
    unfold upd
    by_cases e : i = p.1
    · rw [if_pos e, if_pos e.symm]
    · rw [if_neg e, if_neg (Ne.symm e)]; exact flush_last d i k (by omega)
theorem flushed_last (d : Dev) (i : Int) : d.flushed.last i = match newest d.waits i with | some bs => (bs, false) | none => d.last i := by
  have := flush_last d i d.waits.length (Nat.le_refl _)
  rw [List.take_of_length_le (Nat.le_refl _)] at this
  exact this
theorem flushed_same (d : Dev) : d.flushed.waits = [] ∧ d.flushed.size = d.size ∧ d.flushed.off = d.off ∧ d.flushed.armed = d.armed ∧ d.flushed.left = d.left := by
  have := apply_same d flushF d.waits.length
  exact ⟨rfl, this.2.1, this.2.2.1, this.2.2.2.1, this.2.2.2.2⟩
/-- A flush changes nothing that is read. -/
theorem flushed_read (d : Dev) (i : Int) : d.flushed.read i = d.read i := by
  obtain ⟨h1, h2, h3, _, _⟩ := flushed_same d
  unfold Dev.read
  have hh : d.flushed.has i = d.has i := by unfold Dev.has; rw [h2]
  rw [hh, h3, h1, flushed_last]
  cases newest d.waits i with
  | none => rfl
  | some bs => rfl
theorem crash_same (d : Dev) (zs : List Int) : (d.crash zs).waits = [] ∧ (d.crash zs).size = d.size ∧ (d.crash zs).off = false ∧ (d.crash zs).armed = false ∧ (d.crash zs).left = 0 :=
  ⟨rfl, (apply_same d (crashF zs) d.waits.length).2.1, rfl, rfl, rfl⟩
theorem spend_free {d : Dev} (h1 : d.off = false) (h2 : d.armed = false) : d.spend = (true, d) := by
  unfold Dev.spend; rw [if_neg (by simp [h1]), if_pos (by simp [h2])]
theorem has_true {d : Dev} {i : Int} (h : 0 ≤ i ∧ i < d.size) : d.has i = true := by simp [Dev.has, h]
theorem has_false {d : Dev} {i : Int} (h : ¬ (0 ≤ i ∧ i < d.size)) : d.has i = false := by simp [Dev.has]; intro _; omega
theorem write_free {d : Dev} (h1 : d.off = false) (h2 : d.armed = false) {i : Int} (hi : 0 ≤ i ∧ i < d.size) {bs : List UInt8} (hb : bs.length = 256) : d.write i bs = (0, { d with waits := d.waits ++ [(i, bs)] }) := by
  unfold Dev.write
  rw [if_neg (by rw [has_true hi]; simp [hb]), spend_free h1 h2, if_neg (by simp)]
theorem flush_free {d : Dev} (h1 : d.off = false) (h2 : d.armed = false) : d.flush = (0, d.flushed) := by
  unfold Dev.flush
  rw [spend_free h1 h2, if_neg (by simp)]
theorem read_free {d : Dev} (h1 : d.off = false) {i : Int} (hi : 0 ≤ i ∧ i < d.size) : d.read i = match newest d.waits i with | some bs => (bs, 0) | none => if (d.last i).2 = true then ([], 3) else ((d.last i).1, 0) := by
  unfold Dev.read
  rw [if_neg (by rw [has_true hi]; simp), if_neg (by simp [h1])]
  rfl
end Go.Proofs.Ytbgefdigmdfalaa
