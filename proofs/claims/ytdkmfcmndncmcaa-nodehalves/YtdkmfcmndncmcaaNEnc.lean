/- The contracts of appendText and Encode. No statement of the seat is proved here. -/
import Derived.Test.YtdkmfcmndncmcaaNBytes
namespace Go.Proofs.Ytdkmfcmndncmcaa
set_option maxRecDepth 20000
open Go.RowKit

set_option maxHeartbeats 800000 in
theorem appendText_any {base : Nat} {w : World} {v : Value} {bs : List UInt8} (h : OwnB base w v bs) (s : ByteArray) (hs : s.size ≤ 255) (hb : base ≤ w.heap.size) (hl : bs.length ≤ 1000000) :
    Calls Try.prog 37 #[v, .string s] w (OwnRetG v base w (bs ++ txtB s)) := by
  have hx : IntKind.u8.wrap (s.size : Int) = ((UInt8.ofNat s.size).toNat : Int) := by rw [IntKind.wrap_u8, UInt8.toNat_ofNat']; omega
  have hw : IntKind.u8.wrap (s.size : Int) = (s.size : Int) := by rw [IntKind.wrap_u8]; omega
  obtain ⟨v1, w1, hr1, o1, b1, s1, g1⟩ := own_append (h.alloc (.cells #[.int .u8 (s.size : Int)] 5)) (bytes_one' w (UInt8.ofNat s.size) (s.size : Int) (by rw [← hx, hw]) w.heap.size rfl) (by simp; omega) (by simp; omega) 67
  obtain ⟨v2, w2, hr2, o2, b2, s2, g2⟩ := own_append_str o1 s (by simp; omega) (by simp at s1; omega) 67
  have e : bs ++ [UInt8.ofNat s.size] ++ s.data.toList = bs ++ txtB s := by simp [txtB]
  rw [e] at o2
  have gg : KeepV v w w2 := KeepV.of (((GrV.refl v w).alloc (.cells #[.int .u8 (s.size : Int)] 5)).trans g1) g2
  have sz : w.heap.size ≤ w2.heap.size := by simp at s1; omega
  have bb : Below base w w2 := (((Below.refl _ _).alloc hb _).trans b1).trans b2
  obtain ⟨ao, m, cap, rfl, hm⟩ := h.form'
  obtain ⟨ao1, m1, c1, rfl, hm1⟩ := o1.form'
  obtain ⟨ao2, m2, c2, rfl, hm2⟩ := o2.form'
  have HR1 := Lib.hid hr1
  have HR2 := Lib.hid hr2
  have HO := Lib.hid o2
  clear h hr1 hr2 o1 o2 b1 b2 s1 s2 g1 g2 hx e hm hm1 hm2
  go_enter Try.func37, Try.ntmps37
  go_wp2_with (first
    | (with_reducible refine wpList_append_own rfl (.tmp 5) (.tmp 9) 67 67 rfl (.slice ao m cap) (.slice (some ⟨w.heap.size, 0, none⟩) 1 1) (.slice ao1 m1 c1) rfl rfl HR1.out ?_)
    | (with_reducible refine wpList_append_own rfl (.tmp 10) (.tmp 11) 67 9 rfl (.slice ao1 m1 c1) (.string s) (.slice ao2 m2 c2) rfl rfl HR2.out ?_))
  go_ret
  exact ⟨_, rfl, HO.out, bb, sz, gg⟩
end Go.Proofs.Ytdkmfcmndncmcaa
