/- The contract of the laws' own known. No statement of the seat is proved here. -/
import Derived.Test.YtmkomhdlcbimoaaRArgs
namespace Go.Proofs.Ytmkomhdlcbimoaa
set_option maxRecDepth 20000
open Go.RowKit

theorem sect_super_len (g e t : Int) : (sectB (superI g e t)).length = 256 := (sect_un (by rw [superI_len]; omega)).2.2
set_option maxRecDepth 20000 in
set_option maxHeartbeats 1600000 in
theorem known_any (w : World) : Calls Try.prog 10 #[] w fun e w' => e = .returned (.bool true) ∧ Below w.heap.size w w' := by
  have hb : ∀ w, (Instr.build 23 #[(0, .int .i64 3), (1, .int .i64 2), (2, .int .i64 7)]).run Try.prog w = .ok (.agg #[.int .i64 3, .int .i64 2, .int .i64 7]) w := fun w => run_build w 23 _ _ (by kernel_rfl)
  have he := encodeSuper_any 3 2 7 ⟨by decide, by decide⟩ ⟨by decide, by decide⟩ ⟨by decide, by decide⟩ w
  have hok : superOk 3 2 7 = true := by decide
  have e1 : esupE 3 2 7 = 0 := by unfold esupE; rw [hok]; rfl
  have e2 : esupR 3 2 7 = sectB (superI 3 2 7) := by unfold esupR; rw [hok]; rfl
  rw [e1, e2] at he
  have hs := super_sect hok ⟨by decide, by decide⟩ ⟨by decide, by decide⟩ ⟨by decide, by decide⟩
  have hlen := sect_super_len 3 2 7
  clear e1 e2 hok
  go_enter Try.func10, Try.ntmps10
  go_wp2_with fail
  refine Calls.mono he ?_
  rintro e w1 ⟨v1, rfl, h1, b1⟩
  have hd := decodeSuper_any h1.at h1.cap
  rw [hs.1, hs.2.1, hs.2.2.1, hs.2.2.2.1] at hd
  obtain ⟨ao, cap, hv, _, _⟩ := h1.form
  rw [hlen] at hv
  subst hv
  clear he hs h1 hlen
  go_wp2_with fail
  refine Calls.mono hd ?_
  rintro e w2 ⟨rfl, b2⟩
  have B2 := b1.trans (b2.mono b1.size)
  clear hd
  go_wp2
  go_ret
  exact ⟨rfl, B2.alloc B2.size _⟩
end Go.Proofs.Ytmkomhdlcbimoaa
