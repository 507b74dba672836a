/- Layer 9: the law ChunkWrites. -/
import Derived.Test.YtadlkfdjdjaakaaDoorCkLaw2
set_option maxRecDepth 100000
namespace Go.Proofs.YtadlkfdjdjaakaaDoor
open Go.RowKit Go.Sort
namespace Ck
open Bit Dsk Ob Dig
set_option linter.unusedVariables false

theorem same_yes (w : World) (S S' : Nat → Prop) (v1 v2 : Value) (l : List Pt) (h1 : View w S v1 l) (h2 : View w S' v2 l) :
    Calls Tryd.prog 11 #[v1, v2] w fun e w' => e = .returned (.bool true) ∧ ∃ n, w' = w.drewN n :=
  (same_any w S S' v1 v2 l l h1 h2).mono fun e w' ⟨he, hw⟩ => ⟨by rw [he]; simp, hw⟩
theorem quiet2 {P : Program} {f : FuncId} {args : Array Value} {w : World} {v : Value} (h : ∀ m, Calls P f args (w.drewN m) fun e w' => e = .returned v ∧ ∃ k, w' = (w.drewN m).drewN k) (n x : Nat) :
    Calls P f args (w.drewN (n + x)) fun e w'' => e = .returned v ∧ ∃ k, w'' = w.drewN (n + k) :=
  (h (n + x)).mono fun _ _ ⟨he, k, hk⟩ => ⟨he, x + k, by rw [hk, World.drewN_drewN, Nat.add_assoc]⟩
theorem nparts_le {l : List Pt} (h : l.length ≤ 500) : nparts l ≤ 8 := by unfold nparts; omega
set_option maxHeartbeats 6400000 in
theorem writes_new (w : World) (v : Value) (hv : IsPts v w) (hT : Tab w) :
    Calls Tryd.prog 3 #[v] w (Fin w) := by
  obtain ⟨l, hv, hin⟩ := hv
  replace hT := Lib.hid hT
  have hvh := Lib.hid hv
  obtain ⟨A, c, rfl, hc1, hc2, -⟩ := hv
  replace hin := Lib.hid hin
  by_cases h5 : 500 < l.length
  · have d5 : decide ((500 : Int) < (l.length : Int)) = true := decide_eq_true (by omega)
    go_enter Tryd.func3, Tryd.ntmps3
    go_wp2_with fail
    go_ret
    exact ⟨rfl, Upon.refl _ _⟩
  · have d5 : decide ((500 : Int) < (l.length : Int)) = false := decide_eq_false (by omega)
    obtain ⟨E, hE⟩ : ∃ E : ByteArray, (⟨(enc l).1.toArray⟩ : ByteArray) = E := ⟨_, rfl⟩
    obtain ⟨k, hk⟩ : ∃ k : Nat, (enc l).2 = k := ⟨_, rfl⟩
    have hR : encR l = .returned (.tuple #[.string E, .int .i64 (k : Int)]) := by unfold encR; rw [hE, hk]
    replace hR := Lib.hid hR
    clear hE hk
    have hnp := nparts_le (l := l) (by omega)
    go_enter Tryd.func3, Tryd.ntmps3
    go_wp2_with (at_builtin; refine wpList_copy_pts rfl _ _ rfl _ l All rfl rfl hvh.out (by omega) ?_)
    intro A2 c2 w3 hv3 hc3 hu3
    have HE := encode_any w3 All _ l hv3 hin.out (hT.out.new hu3)
    rw [hR.out] at HE
    replace HE := Lib.hid HE
    replace hv3 := Lib.hid hv3
    replace hu3 := Lib.hid hu3
    go_wp2_with fail
    refine HE.out.mono ?_
    rintro e w4 ⟨rfl, hu4⟩
    have hw4 := Lib.hid (hu3.out.trans hu4)
    have hv4 := Lib.hid (hv3.out.new hu4)
    clear HE hu4 hv3 hu3
    have HF := refenc_any w4 All _ l (hvh.out.new hw4.out) hin.out
    rw [hR.out] at HF
    replace HF := Lib.hid HF
    go_wp2_with fail
    refine HF.out.mono ?_
    rintro e w5 ⟨rfl, hu5⟩
    have hw5 := Lib.hid (hw4.out.trans hu5)
    have hv5 := Lib.hid (hv4.out.new hu5)
    have HG := Lib.hid (split_any w5 All _ l hv5.out (by omega))
    clear HF hu5 hw4 hv4 hR
    go_wp2_with fail
    refine HG.out.mono ?_
    rintro e w6 ⟨u1, rfl, hp6, hu6⟩
    have hw6 := Lib.hid (hw5.out.trans hu6)
    have hv6 := Lib.hid (hv5.out.new hu6)
    replace hp6 := Lib.hid hp6
    have HH := Lib.hid (refsplit_any w6 All _ l (hvh.out.new hw6.out) (by omega))
    clear HG hu6 hw5 hv5
    go_wp2_with fail
    refine HH.out.mono ?_
    rintro e w7 ⟨u2, rfl, hp7, hu7⟩
    have hw7 := Lib.hid (hw6.out.trans hu7)
    have hv7 := hv6.out.new hu7
    have hq7 := Lib.hid (hp6.out.new hu7)
    replace hp7 := Lib.hid hp7
    have HS := Lib.hid (same_yes w7 All All _ _ l hv7 (hvh.out.new hw7.out))
    clear HH hu7 hw6 hv6 hp6 hv7 hvh
    obtain ⟨A3, c3, rfl, -, -, hA3⟩ := hq7.out
    obtain ⟨A4, c4, rfl, -, -, hA4⟩ := hp7.out
    replace hA3 := Lib.hid hA3
    replace hA4 := Lib.hid hA4
    clear hq7 hp7
    go_wp2_with fail
    refine HS.out.mono ?_
    rintro e w8 ⟨rfl, n8, rfl⟩
    clear HS
    go_wp2_with fail
    go_loopw [10] (fun ov wr => ∃ j n : Nat, ov = .int .i64 (j : Int) ∧ j ≤ nparts l ∧ wr = w7.drewN n) (fun ov _ => nparts l - (intOf ov).toNat)
    case atStart => exact ⟨0, n8, rfl, Nat.zero_le _, rfl⟩
    case round =>
      obtain ⟨j, n, rfl, hj, rfl⟩ := hrel
      by_cases hlt : j < nparts l
      · obtain ⟨b3, o3, rfl, k3⟩ := hA3.out (by omega)
        obtain ⟨b4, o4, rfl, k4⟩ := hA4.out (by omega)
        obtain ⟨x3, c3', hx3⟩ := k3 j hlt
        obtain ⟨x4, c4', hx4⟩ := k4 j hlt
        have HS := Lib.hid (fun m => same_yes (w7.drewN m) All All _ _ (part l j) hx3.drew hx4.drew)
        clear k3 k4 hx3 hx4 hA3 hA4
        go_wp2_with fail
        go_quiet ((go_at_call 11; exact quiet2 HS.out _ _))
        go_wp2_with fail
        go_roundw
        case rel => exact ⟨j + 1, n + nq, by go_num, hlt, rfl⟩
        case measure => simp [intOf]; omega
      · clear hA3 hA4
        go_wp2_with fail
        go_ret
        exact ⟨rfl, hw7.out.trans (upon_drewN _ _ _)⟩
end Ck
end Go.Proofs.YtadlkfdjdjaakaaDoor
