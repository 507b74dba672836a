/- Layer 9: what works for the laws; the document's 'works'. -/
import Derived.Test.YtadlkfdjdjaakaaDoorCkProg
set_option maxRecDepth 100000
namespace Go.Proofs.YtadlkfdjdjaakaaDoor
open Go.RowKit Go.Sort
namespace Ck
open Bit Dsk Ob Dig
set_option linter.unusedVariables false

theorem works_enc : enc [(100, 0)] = ([1, 1, 1, 128, 0, 0, 0, 0, 0, 0, 0, 100, 0, 0, 0, 0, 0, 0, 0, 0], 0) := by decide +kernel
theorem works_encR : encR [(100, 0)] = .returned (.tuple #[.string ⟨#[1, 1, 1, 128, 0, 0, 0, 0, 0, 0, 0, 100, 0, 0, 0, 0, 0, 0, 0, 0]⟩, .int .i64 0]) := by unfold encR; rw [works_enc]; rfl
theorem works_in : ∀ p ∈ ([(100, 0)] : List Pt), PtIn p := fun p hp => by
  rw [List.mem_singleton.1 hp]; exact ⟨by unfold Tm.In; decide, by decide⟩
set_option maxHeartbeats 3200000 in
theorem works_true (w : World) (hT : Tab w) : Calls Tryd.prog 12 #[] w fun e w' => e = .returned (.bool true) ∧ New0 w w' := by
  have hal : New0 w (w.alloc (.cells #[.int .i64 100, .int .u64 0] 36 (0, 0))) := (Upon.refl _ w).alloc _
  have hv := view_one (y := 0) (cell_new w (.cells #[.int .i64 100, .int .u64 0] 36 (0, 0)))
  have HE := encode_any _ _ _ _ hv works_in (hT.new hal)
  rw [works_encR] at HE
  replace HE := Lib.hid HE
  have HD := Lib.hid (fun w hT => decode_any w ⟨#[1, 1, 1, 128, 0, 0, 0, 0, 0, 0, 0, 100, 0, 0, 0, 0, 0, 0, 0, 0]⟩ (by decide) hT)
  have hback := Lib.hid (fun l e (h : Dec [1, 1, 1, 128, 0, 0, 0, 0, 0, 0, 0, 100, 0, 0, 0, 0, 0, 0, 0, 0] l e) => h.back works_in works_enc)
  replace hal := Lib.hid hal
  replace hT := Lib.hid hT
  clear hv
  go_enter Tryd.func12, Tryd.ntmps12
  go_wp2_with fail
  refine HE.out.mono ?_
  rintro e w2 ⟨rfl, hu2⟩
  have hu := Lib.hid (hal.out.trans hu2)
  clear HE hal hu2
  go_wp2_with fail
  refine (HD.out _ (hT.out.new hu.out)).mono ?_
  rintro e w3 ⟨v, l, x, rfl, hdec, hv3, hu3⟩
  obtain ⟨rfl, rfl⟩ := hback.out _ _ hdec
  obtain ⟨A, c, rfl, hc1, hc2, hA⟩ := hv3
  obtain ⟨b, off, rfl, -, hcells⟩ := hA (by decide)
  obtain ⟨k0, k1⟩ := hcells 0 (by decide)
  replace k0 : w3.cell? ⟨b, off, none⟩ = some (.int .i64 100) := k0
  replace k1 : w3.cell? ⟨b, off + 1, none⟩ = some (.int .u64 0) := k1
  have hend := Lib.hid (hu.out.trans hu3)
  clear HD hback hT hu hu3 hcells hA hdec
  go_wp2_with fail
  go_ret
  exact ⟨rfl, hend.out⟩
end Ck
end Go.Proofs.YtadlkfdjdjaakaaDoor
