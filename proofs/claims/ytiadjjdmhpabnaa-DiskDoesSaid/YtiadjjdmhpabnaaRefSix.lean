/- The document's own disk (layer 4): kept. -/
import Derived.Test.YtiadjjdmhpabnaaRefFive
namespace Go.Proofs.Ytiadjjdmhpabnaa
open Go.RowKit
namespace Dsk
open Go.Maps

set_option maxHeartbeats 1600000 in
set_option maxRecDepth 100000 in
theorem refkept_any (ks : List Int) (db i m : Nat) (v : Value) (hm : m ≤ 1000000000000000) (w : World) (hk : KeepAt w v ks db) :
    Calls Try.prog 50 #[v, .int .i64 (i : Int), .int .i64 (m : Int)] w (Ans (.int .i64 (kept1 (ks.drop i) m : Int)) w) := by
  obtain ⟨a, c, rfl, h1, h2, h3⟩ := hk
  unfold maxLen at h2
  by_cases hil : i < ks.length
  · obtain ⟨o, rfl, hc⟩ := h3 (by intro e; rw [e] at hil; simp at hil)
    obtain ⟨x, hx⟩ : ∃ x, ks[i]? = some x := ⟨_, List.getElem?_eq_getElem hil⟩
    have hx0 : w.cell? ⟨db, o + i, none⟩ = some (.int .i64 x) := (hc i x hx).1
    have hdr : ks.drop i = x :: ks.drop (i + 1) := by
      rw [List.drop_eq_getElem_cons hil]
      rw [List.getElem?_eq_getElem hil] at hx
      rw [Option.some.inj hx]
    have hcx : IntKind.u64.wrap x = x % 18446744073709551616 := by rw [IntKind.wrap_u64]
    have hcm : IntKind.u64.wrap ((m : Int) + 1) = (m : Int) + 1 := by rw [IntKind.wrap_u64]; omega
    have hnn : 0 ≤ x % 18446744073709551616 := Int.emod_nonneg _ (by decide)
    have hlt : x % 18446744073709551616 < 18446744073709551616 := Int.emod_lt_of_pos _ (by decide)
    have hval := kept1_cons x (ks.drop (i + 1)) m (by omega)
    have hle := kept1_le (x :: ks.drop (i + 1)) m
    have HV := Lib.hid hval
    have HWR := Lib.hid (show wrap64 (kept1 (x :: ks.drop (i + 1)) m : Int) = (kept1 (x :: ks.drop (i + 1)) m : Int) from IntWalk.wrap64_in _ (by omega))
    rw [hdr]
    clear hval hdr hx hc h3
    go_enter Try.func50, Try.ntmps50
    go_wp2
    go_ret
    refine ⟨?_, rfl⟩
    have e := HWR.out
    rw [HV.out] at e ⊢
    exact congrArg (fun n => Ending.returned (.int .i64 n)) e
  · have e : ks.drop i = [] := List.drop_eq_nil_of_le (by omega)
    rw [e]
    clear e h3
    go_enter Try.func50, Try.ntmps50
    go_wp2
    go_ret
    exact ⟨rfl, rfl⟩
end Dsk
end Go.Proofs.Ytiadjjdmhpabnaa
