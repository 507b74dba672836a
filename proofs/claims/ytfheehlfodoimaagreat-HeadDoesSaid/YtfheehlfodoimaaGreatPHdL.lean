/- Parts, put together: HdSerL, HdProgL. -/
import Derived.Test.YtfheehlfodoimaaGreatPHd5
import Derived.Test.YtfheehlfodoimaaGreatHdProg

/- The program's head (layer 13): Last. -/
section
set_option maxRecDepth 100000
namespace Go.Proofs.YtfheehlfodoimaaGreat
open Go.RowKit Go.Sort
namespace Hd
open Bit Dsk Ob Dig Go.Proofs.YtfheehlfodoimaaGreat.Nm
set_option linter.unusedVariables false
section
variable {A R : Nat → Prop} {p b : Nat} {N : Nms} {bs : List Nat} {rs : List RR} {h : H}
set_option maxHeartbeats 1600000 in
theorem hlast_any (w : World) (hh : HeadP w A R p b N bs rs h) (hs : Srt h) (T : Nat → Prop) (v : Value) (l : List Lb.Pr) (hv : Lb.View w T v l) (hsm : Lb.Sml l) :
    Calls Tryz.prog 29 #[.pointer (some ⟨p, 0, none⟩), v] w fun e w' => e = .returned (.tuple #[.int .i64 (last h l).1, .bool (last h l).2]) ∧ New0 w w' := by
  have HK := Lib.hid (keyOf_any w T v l hv hsm)
  have HL := Lib.hid (fun w1 (hu : New0 w w1) => lastOf_any w1 (hh.new hu) hs l (keyV (keyP l)) rfl (by rw [keyV_size]; exact keyP_few l))
  obtain ⟨a, c, rfl, -, -⟩ := Rw.View.shape hv
  clear hv hsm hh hs
  go_enter Tryz.func29, Tryz.ntmps29
  go_wp2_with fail
  refine HK.out.mono ?_
  rintro e w2 ⟨rfl, hu⟩
  have HL2 := Lib.hid (HL.out w2 hu)
  replace hu := Lib.hid hu
  clear HK HL
  go_wp2_with fail
  refine HL2.out.mono ?_
  rintro e w3 ⟨rfl, rfl⟩
  clear HL2
  go_wp2
  go_ret2
  exact ⟨rfl, hu.out⟩
end
end Hd
end Go.Proofs.YtfheehlfodoimaaGreat
end

/- Layer 13: the program's Last over the object (HeadDoes alone reaches it). -/
section
set_option maxRecDepth 100000
namespace Go.Proofs.YtfheehlfodoimaaGreat
open Go.RowKit Go.Sort
namespace Hd
open Bit Dsk Ob Dig Go.Proofs.YtfheehlfodoimaaGreat.Nm
set_option linter.unusedVariables false
theorem plast_any (w : World) {S : Nat → Prop} {p : Nat} {h : H} (hh : IsPH p h w S) (hs : Srt h) (T : Nat → Prop) (v : Value) (l : List Lb.Pr) (hv : Lb.View w T v l) (hsm : Lb.Sml l) (hll : l.length * 32 ≤ 140737488351232) :
    Calls Tryz.prog 29 #[.pointer (some ⟨p, 0, none⟩), v] w fun e w' => e = .returned (.tuple #[.int .i64 (last h l).1, .bool (last h l).2]) ∧ New0 w w' :=
  let ⟨⟨_, _, _, _, _, _, h1, _⟩, _, _⟩ := hh
  hlast_any w h1 hs T v l hv hsm
end Hd
end Go.Proofs.YtfheehlfodoimaaGreat
end
