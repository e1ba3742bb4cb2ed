/- Runs of single operations, for drawn regions (flash's seat). No statement of the seat is proved here. -/
import Derived.Test.YtfdabkcbefhdaaaRows
import Derived.Laws.Strings
import Derived.Test.YtfdabkcbefhdaaaHeld
import Derived.Deep.MidRow
namespace Go.Proofs.Ytfdabkcbefhdaaa
set_option maxRecDepth 20000
open Go.RowKit
section
variable {P : Program} {w w1 : World} {ρ : Operand → Value} {o : Oper} {t t' e : TypeId} {x y : Operand}
theorem ex_row {d : TypeDesc} {b of : Nat} {cs : List Value} (ho : o.op = .load t x) (hx : ρ x = .pointer (some ⟨b, of, none⟩)) (hc : w.rangeAt b of cs) (hu : P.underlying t = some d) (hd : d.isRow = true) (hi : (P.info? t).map (·.size) = some cs.length) : (execOp ρ o).run P w = .ok (.value (.agg cs.toArray)) w := by
  have hr := run_loadAt_mid (P := P) w b of t cs d hc hu hd hi
  unfold execOp
  simp only [ho, hx, Sem.run_bind, hr, Result.andThen_ok, Sem.run_pure]
theorem ex_index {ix : Operand} {b of len cap k : Nat} (s : Nat) (ho : o.op = .indexAddr t x ix) (hx : ρ x = .slice (some ⟨b, of, none⟩) len cap) (hi : ρ ix = .int .i64 k) (hk : k < len)
    (hu : P.underlying t = some (.slice e)) (hs : (P.info? e).map (·.size) = some s) : (execOp ρ o).run P w = .ok (.value (.pointer (some ⟨b, of + k * s, none⟩))) w := by
  cases hq : P.info? e with
  | none => simp [hq] at hs
  | some i =>
    have h1 : i.size = s := by simpa [hq] using hs
    have e2 : (⟨b, of, none⟩ : Addr).add (k * s) = ⟨b, of + k * s, none⟩ := by unfold Addr.add; split <;> simp_all
    unfold execOp
    simp [ho, hx, hi, Instr.indexAt, asIntOf, run_underlying hu, hk, sizeOf, typeInfo, hq, h1, e2]
theorem ex_index1 {ix : Operand} {b of len cap k : Nat} (ho : o.op = .indexAddr t x ix) (hx : ρ x = .slice (some ⟨b, of, none⟩) len cap) (hi : ρ ix = .int .i64 k) (hk : k < len)
    (hu : P.underlying t = some (.slice e)) (hs : (P.info? e).map (·.size) = some 1) : (execOp ρ o).run P w = .ok (.value (.pointer (some ⟨b, of + k, none⟩))) w := by
  have := ex_index (w := w) 1 ho hx hi hk hu hs
  rwa [Nat.mul_one] at this
theorem ex_bin {op : BinOp} {a b r : Value} (ho : o.op = .binOp op t x y t') (hx : ρ x = a) (hy : ρ y = b) (hg : (eqGuard op t x y a b).run P w = .ok () w) (h : (binOp op t a b).run P w = .ok r w1) : (execOp ρ o).run P w = .ok (.value r) w1 := by
  unfold execOp
  simp only [ho, hx, hy, Sem.run_bind, hg, Result.andThen_ok, h]; rfl
section
variable {k : IntKind} {a b : Int} {c : Bool}
theorem ex_eq (ho : o.op = .binOp .eql t x y t') (hx : ρ x = .int k a) (hy : ρ y = .int k b) (h : (a == b) = c) : (execOp ρ o).run P w = .ok (.value (.bool c)) w := by
  subst h; exact ex_bin ho hx hy (by simp [eqGuard]) (by simp [go_sem])
theorem ex_ne (ho : o.op = .binOp .neq t x y t') (hx : ρ x = .int k a) (hy : ρ y = .int k b) (h : (a != b) = c) : (execOp ρ o).run P w = .ok (.value (.bool c)) w := by
  subst h; exact ex_bin ho hx hy (by simp [eqGuard]) (by simp [go_sem])
theorem ex_lt (ho : o.op = .binOp .lss t x y t') (hx : ρ x = .int k a) (hy : ρ y = .int k b) (h : decide (a < b) = c) : (execOp ρ o).run P w = .ok (.value (.bool c)) w := by
  subst h; exact ex_bin ho hx hy (by simp [eqGuard]) (by simp [go_sem])
theorem ex_gt (ho : o.op = .binOp .gtr t x y t') (hx : ρ x = .int k a) (hy : ρ y = .int k b) (h : decide (b < a) = c) : (execOp ρ o).run P w = .ok (.value (.bool c)) w := by
  subst h; exact ex_bin ho hx hy (by simp [eqGuard]) (by simp [go_sem])
theorem ex_ge (ho : o.op = .binOp .geq t x y t') (hx : ρ x = .int k a) (hy : ρ y = .int k b) (h : decide (b ≤ a) = c) : (execOp ρ o).run P w = .ok (.value (.bool c)) w := by
  subst h; exact ex_bin ho hx hy (by simp [eqGuard]) (by simp [go_sem])
theorem ex_le (ho : o.op = .binOp .leq t x y t') (hx : ρ x = .int k a) (hy : ρ y = .int k b) (h : decide (a ≤ b) = c) : (execOp ρ o).run P w = .ok (.value (.bool c)) w := by
  subst h; exact ex_bin ho hx hy (by simp [eqGuard]) (by simp [go_sem])
theorem ex_sub {c : Int} (ho : o.op = .binOp .sub t x y t') (hx : ρ x = .int .i64 a) (hy : ρ y = .int .i64 b) (h : IntKind.i64.wrap (a - b) = c) : (execOp ρ o).run P w = .ok (.value (.int .i64 c)) w := by
  subst h; exact ex_bin ho hx hy (by simp [eqGuard]) (by simp [go_sem])
theorem ex_add {c : Int} (ho : o.op = .binOp .add t x y t') (hx : ρ x = .int .i64 a) (hy : ρ y = .int .i64 b) (h : IntKind.i64.wrap (a + b) = c) : (execOp ρ o).run P w = .ok (.value (.int .i64 c)) w := by
  subst h; exact ex_bin ho hx hy (by simp [eqGuard]) (by simp [go_sem])
end
section
variable {r s : ByteArray} {b : Bool}
theorem ex_seq (ho : o.op = .binOp .eql t x y t') (hx : ρ x = .string r) (hy : ρ y = .string s) (hb : (r.toList == s.toList) = b) : (execOp ρ o).run P w = .ok (.value (.bool b)) w := by
  subst hb; exact ex_bin ho hx hy (by simp [eqGuard]) (by simp [binOp, Op.stringOp])
theorem ex_sne (ho : o.op = .binOp .neq t x y t') (hx : ρ x = .string r) (hy : ρ y = .string s) (hb : (!(r.toList == s.toList)) = b) : (execOp ρ o).run P w = .ok (.value (.bool b)) w := by
  subst hb; exact ex_bin ho hx hy (by simp [eqGuard]) (by simp [binOp, Op.stringOp])
theorem ex_slt (ho : o.op = .binOp .lss t x y t') (hx : ρ x = .string r) (hy : ρ y = .string s) (hb : Op.bytesLess r.toList s.toList = b) : (execOp ρ o).run P w = .ok (.value (.bool b)) w := by
  subst hb; exact ex_bin ho hx hy (by simp [eqGuard]) (by simp [binOp, Op.stringOp])
theorem ex_sge (ho : o.op = .binOp .geq t x y t') (hx : ρ x = .string r) (hy : ρ y = .string s) (hb : (!(Op.bytesLess r.toList s.toList)) = b) : (execOp ρ o).run P w = .ok (.value (.bool b)) w := by
  subst hb; exact ex_bin ho hx hy (by simp [eqGuard]) (by simp [binOp, Op.stringOp])
theorem ex_sle (ho : o.op = .binOp .leq t x y t') (hx : ρ x = .string r) (hy : ρ y = .string s) (hb : (Op.bytesLess r.toList s.toList || r.toList == s.toList) = b) : (execOp ρ o).run P w = .ok (.value (.bool b)) w := by
  subst hb; exact ex_bin ho hx hy (by simp [eqGuard]) (by simp [binOp, Op.stringOp])
end
theorem ex_app {u : TypeId} {v0 v1 v : Value} (ho : o.op = .call { callee := .builtin .append, args := #[x, y], argTypes := #[t, u] }) (hs : ρ x = v0) (hx : ρ y = v1) (hrun : (Builtin.append_ #[t, u] o.type #[v0, v1]).run P w = .ok v w1) : (execOp ρ o).run P w = .ok (.value v) w1 := by
  unfold execOp
  simp only [ho, resolve, invoke, builtin, Sem.run_bind, Sem.run_pure, Result.andThen_ok, List.map_toArray, List.map_cons, List.map_nil, hs, hx, hrun]
theorem ex_len {a : Option Addr} {n c : Nat} (ho : o.op = .call { callee := .builtin .len, args := #[x], argTypes := #[t] }) (hx : ρ x = .slice a n c) (hu : P.underlying t = some (.slice e)) : (execOp ρ o).run P w = .ok (.value (.int .i64 n)) w := by
  unfold execOp
  simp [ho, resolve, invoke, builtin, hx, Builtin.len_, run_underlying hu, Result.andThen]
  rfl
theorem ex_slen {s : ByteArray} (ho : o.op = .call { callee := .builtin .len, args := #[x], argTypes := #[t] }) (hx : ρ x = .string s) (hu : P.underlying t = some .string) : (execOp ρ o).run P w = .ok (.value (.int .i64 s.size)) w := by
  unfold execOp
  simp [ho, resolve, invoke, builtin, hx, Builtin.len_, run_underlying hu, Result.andThen]
  rfl
end
/-- a byte of a text told as bytes -/
theorem ex_sidx {w : World} {ρ : Operand → Value} {o : Oper} {x y : Operand} {s : ByteArray} {bs : List UInt8} (hs : s = ⟨bs.toArray⟩) {i : Nat} {u : UInt8} (ho : o.op = .index 9 x y) (hx : ρ x = .string s) (hy : ρ y = .int .i64 (i : Nat)) (h : bs[i]? = some u) : (execOp ρ o).run Try.prog w = .ok (.value (.int .u8 (u.toNat : Nat))) w := by
  subst hs
  obtain ⟨hlt, hu⟩ := List.getElem?_eq_some_iff.1 h
  have hl : i < (⟨bs.toArray⟩ : ByteArray).size := by show i < bs.toArray.size; simpa using hlt
  have e : (⟨bs.toArray⟩ : ByteArray)[i]'hl = u := by rw [← hu]; show bs.toArray[i]'_ = _; simp
  unfold execOp
  simp [ho, hx, hy, go_sem, e]
  omega
end Go.Proofs.Ytfdabkcbefhdaaa
