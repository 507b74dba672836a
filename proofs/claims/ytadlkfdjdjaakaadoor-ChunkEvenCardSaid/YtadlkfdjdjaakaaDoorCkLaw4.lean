/- Layer 9: the law ChunkSplits. -/
import Derived.Test.YtadlkfdjdjaakaaDoorCkLaw3
set_option maxRecDepth 100000
namespace Go.Proofs.YtadlkfdjdjaakaaDoor
open Go.RowKit Go.Sort
namespace Ck
open Bit Dsk Ob Dig
set_option linter.unusedVariables false

/-- All so far. -/
structure Sofar (w5 wr : World) (u : Value) (l : List Pt) (j : Nat) : Prop where
  own : OwnPts wr u (l.take (64 * j))
  mine : ∀ g, u.ownBlock = some g → w5.heap.size ≤ g
  new : New0 w5 wr
theorem Sofar.start (w : World) (l : List Pt) : Sofar w w (.slice none 0 0) l 0 := ⟨by rw [Nat.mul_zero, List.take_zero]; exact OwnPts.nil w, fun g h => (by cases h), Upon.refl _ _⟩
theorem Sofar.calm {w5 wr w' : World} {u : Value} {l : List Pt} {j : Nat} (h : Sofar w5 wr u l j) (hu : New0 wr w') : Sofar w5 w' u l j := ⟨h.own.new hu, h.mine, h.new.trans hu⟩
theorem Sofar.step {w5 wr w' : World} {u u' : Value} {l : List Pt} {j : Nat} (h : Sofar w5 wr u l j) (hown : OwnPts w' u' (l.take (64 * j) ++ part l j)) (hg : wr.grownBy w' u.ownBlock) (hb : u'.ownBlock = u.ownBlock ∨ u'.ownBlock = some wr.heap.size) : Sofar w5 w' u' l (j + 1) := by
  refine ⟨by rw [← parts_join]; exact hown, fun g hk => ?_, h.new.grown hg (fun k hk => .inr (h.mine k hk))⟩
  rcases hb with hb | hb
  · exact h.mine g (by rw [← hb]; exact hk)
  · rw [hk] at hb
    have : g = wr.heap.size := by simpa using hb
    have := h.new.size
    omega
set_option maxHeartbeats 6400000 in
theorem splits_new (w : World) (v : Value) (hv : IsPts v w) (hT : Tab w) :
    Calls Tryd.prog 5 #[v] w (Fin w) := by
  obtain ⟨l, hv, hin⟩ := hv
  have HW := Lib.hid (works_true w hT)
  replace hT := Lib.hid hT
  have hvh := Lib.hid hv
  obtain ⟨A, c, rfl, hc1, hc2, hA⟩ := hv
  replace hA := Lib.hid hA
  replace hin := Lib.hid hin
  by_cases h5 : 500 < l.length
  · have d5 : decide ((500 : Int) < (l.length : Int)) = true := decide_eq_true (by omega)
    go_enter Tryd.func5, Tryd.ntmps5
    go_wp2_with fail
    refine HW.out.mono ?_
    rintro e w2 ⟨rfl, hu2⟩
    replace hu2 := Lib.hid hu2
    clear HW
    go_wp2_with fail
    go_ret
    exact ⟨rfl, hu2.out⟩
  · have d5 : decide ((500 : Int) < (l.length : Int)) = false := decide_eq_false (by omega)
    have hnp := nparts_le (l := l) (by omega)
    go_enter Tryd.func5, Tryd.ntmps5
    go_wp2_with fail
    refine HW.out.mono ?_
    rintro e w2 ⟨rfl, hu2⟩
    have hv2 := Lib.hid (hvh.out.new hu2)
    replace hu2 := Lib.hid hu2
    clear HW
    go_wp2_with fail
    go_loopw [3] (fun ov wr => ∃ j n : Nat, ov = .int .i64 ((j + 1 : Nat) : Int) ∧ j ≤ l.length ∧ Hid (Rises l (min (j + 1) l.length)) ∧ wr = w2.drewN n) (fun ov _ => l.length + 1 - (intOf ov).toNat)
    case atStart => exact ⟨0, 0, rfl, Nat.zero_le _, Lib.hid (Rises.le (Rises.one l) (by omega)), rfl⟩
    case round =>
      obtain ⟨j, n, rfl, hj, hr, rfl⟩ := hrel
      by_cases hlt : j + 1 < l.length
      · obtain ⟨b, off, rfl, -, hcells⟩ := hA.out (by omega)
        obtain ⟨c0, -⟩ := hcells (j + 1) hlt
        obtain ⟨b0, -⟩ := hcells j (by omega)
        obtain ⟨x, hx⟩ : ∃ x, l[j + 1].1 = x := ⟨_, rfl⟩
        obtain ⟨z, hz⟩ : ∃ z, l[j].1 = z := ⟨_, rfl⟩
        rw [hx] at c0
        rw [hz] at b0
        have hT1 : Hid (T l (j + 1) = x) := Lib.hid ((T_get hlt).trans hx)
        have hT0 : Hid (T l j = z) := Lib.hid ((T_get (by omega)).trans hz)
        have r0 := New0.cell hu2.out c0
        have r1 := New0.cell hu2.out b0
        clear hx hz hcells c0 b0
        by_cases hle : x ≤ z
        · have dx : decide (x ≤ z) = true := decide_eq_true hle
          clear hr hv2 hvh hA
          go_wp2_with fail
          go_quiet (fail)
          go_wp2_with fail
          go_ret
          exact ⟨rfl, (hu2.out.trans (upon_drewN _ w2 n)).trans (upon_drewN _ _ nq)⟩
        · have dx : decide (x ≤ z) = false := decide_eq_false hle
          have hn : Hid (Rises l (min (j + 1 + 1) l.length)) := Lib.hid (by
            rw [show min (j + 1 + 1) l.length = j + 2 by omega]
            have := hr.out
            rw [show min (j + 1) l.length = j + 1 by omega] at this
            exact this.next (by rw [hT0.out, hT1.out]; omega))
          clear hr hv2 hvh hA hle
          go_wp2_with fail
          go_quiet (fail)
          go_wp2_with fail
          go_roundw
          case rel => exact ⟨j + 1, n + nq, by go_num, by omega, hn, rfl⟩
          case measure => simp [intOf]; omega
      · have hrise : Hid (Rises l l.length) := Lib.hid (by have := hr.out; rwa [show min (j + 1) l.length = l.length by omega] at this)
        have hv3 := Lib.hid (hv2.out.drew (n := n))
        have hu3 : Hid (New0 w (w2.drewN n)) := Lib.hid (hu2.out.trans (upon_drewN _ w2 n))
        clear hr hv2 hA hu2
        generalize w2.drewN n = w3 at *
        go_wp2_with (at_builtin; refine wpList_copy_pts rfl _ _ rfl _ l All rfl rfl hv3.out (by omega) ?_)
        intro A2 c2 w4 hv4 hc4 hu4
        have hu4' := Lib.hid (hu3.out.trans hu4)
        have HG := Lib.hid (split_any w4 All _ l hv4 (by omega))
        have hl4 := Lib.hid (hvh.out.new hu4'.out)
        clear hv3 hu3 hu4 hv4
        go_wp2_with fail
        refine HG.out.mono ?_
        rintro e w5 ⟨u5, rfl, hp5, hu5⟩
        have hu5' := Lib.hid (hu4'.out.trans hu5)
        have hl5 := Lib.hid (hl4.out.new hu5)
        clear HG hu4' hl4 hu5 hvh
        replace hp5 := Lib.hid hp5
        obtain ⟨A5, c5, rfl, -, -, hA5⟩ := hp5.out
        replace hA5 := Lib.hid hA5
        go_wp2_with fail
        go_loopw [4, 6] (fun u ov wr => ∃ j : Nat, ov = .int .i64 (j : Int) ∧ j ≤ nparts l ∧ Hid (Sofar w5 wr u l j)) (fun _ ov _ => nparts l - (intOf ov).toNat)
        case atStart => exact ⟨0, rfl, Nat.zero_le _, Lib.hid (Sofar.start w5 l)⟩
        case round =>
          obtain ⟨i, rfl, hi, hs⟩ := hrel
          by_cases hlt : i < nparts l
          · obtain ⟨b5, o5, rfl, k5⟩ := hA5.out (by omega)
            obtain ⟨x5, cx5, hx5⟩ := k5 i hlt
            have hpl := part_len hlt
            have hin' := Lib.hid (part_in hin.out i)
            have hpr := part_rises hrise.out i
            have henc := enc_ok hpl.1 hpl.2 hpr
            have hcs := code_size hpl.2
            have hR := encR_yes henc
            have hTr := Lib.hid (hT.out.new (hu5'.out.trans hs.out.new))
            obtain ⟨hpl1, hpl2⟩ := hpl
            have hxr := hx5.new hs.out.new
            have r0 := New0.cell hs.out.new cx5
            have r1 : (wr.alloc (.cells #[] 36 (0, 0))).cell? ⟨b5, o5 + i, none⟩ = some x5 := New0.cell ((Upon.refl (fun _ => False) wr).alloc _) r0
            have hsz : (⟨(code (part l i)).toArray⟩ : ByteArray).size ≤ 140737488355328 := by
              show (code (part l i)).toArray.size ≤ _; rw [List.size_toArray]; omega
            have hback := Lib.hid (fun l' e (h : Dec (⟨(code (part l i)).toArray⟩ : ByteArray).data.toList l' e) => Dec.back h hin'.out (show enc (part l i) = ((⟨(code (part l i)).toArray⟩ : ByteArray).data.toList, 0) from henc))
            have HD := Lib.hid (fun w hT => decode_any w ⟨(code (part l i)).toArray⟩ hsz hT)
            have HE := Lib.hid (fun (w : World) (v : Value) hv hT => (encode_any w All v (part l i) hv hin'.out hT).mono (R' := fun e w' => e = .returned (.tuple #[.string ⟨(code (part l i)).toArray⟩, .int .i64 0]) ∧ New0 w w') fun e w' ⟨he, hw⟩ => ⟨he.trans hR, hw⟩)
            clear henc hpr hcs hR hsz k5 hx5 cx5 hA5
            generalize (⟨(code (part l i)).toArray⟩ : ByteArray) = t at *
            go_wp2_with (at_builtin; refine wpList_copy_pts rfl _ _ rfl _ (part l i) All rfl rfl hxr (by omega) ?_)
            intro A6 c6 w6 hv6 hc6 hu6
            have HE6 := Lib.hid (HE.out w6 _ hv6 (hTr.out.new hu6))
            have hn6 := Lib.hid hu6
            have q0 := Lib.hid (fun (w' : World) (h : New0 wr w') => New0.cell h r0)
            have hxq := Lib.hid (fun (w' : World) (h : New0 wr w') => hxr.new h)
            clear HE hv6 hu6 r0 r1 hxr
            go_wp2_with fail
            refine HE6.out.mono ?_
            rintro e w7 ⟨rfl, hu7⟩
            have hn7 := Lib.hid (hn6.out.trans hu7)
            clear HE6 hn6 hu7
            go_wp2_with fail
            refine (HD.out _ (hTr.out.new hn7.out)).mono ?_
            rintro e w8 ⟨x8, l8, f8, rfl, hdec, hx8, hu8⟩
            obtain ⟨rfl, rfl⟩ := hback.out _ _ hdec
            have hn8 := Lib.hid (hn7.out.trans hu8)
            have HS := Lib.hid (same_yes w8 All All _ _ (part l i) hx8 (hxq.out _ hn8.out))
            have r8 := q0.out _ hn8.out
            clear HD hback hn7 hu8 hdec hx8 hTr
            go_wp2_with fail
            refine HS.out.mono ?_
            rintro e w9 ⟨rfl, n9, rfl⟩
            have hn9 : Hid (New0 wr (w8.drewN n9)) := Lib.hid (hn8.out.trans (upon_drewN _ w8 n9))
            have r9 := q0.out _ hn9.out
            have hx9 := hxq.out _ hn9.out
            have hs9 := Lib.hid (hs.out.calm hn9.out)
            clear HS hn8 q0 hxq hs
            generalize w8.drewN n9 = w9 at *
            have htl : (l.take (64 * i)).length ≤ 500 := by rw [List.length_take]; omega
            go_wp2_with (at_builtin; refine wpList_append_pts rfl _ _ rfl _ _ (l.take (64 * i)) (part l i) All rfl rfl hs9.out.own hx9 (by omega) ?_)
            intro u' w10 hown hg hb
            have hs10 := Lib.hid (hs9.out.step hown hg hb)
            clear hown hg hb hs9 r9 r8 hx9
            go_wp2_with fail
            go_roundw
            case rel => exact ⟨i + 1, by go_num, hlt, hs10⟩
            case measure => simp [intOf]; omega
          · obtain rfl : i = nparts l := by omega
            have hown : OwnPts wr u4 l := by have := hs.out.own; rwa [parts_all] at this
            have hN := Lib.hid (hu5'.out.trans hs.out.new)
            have HS := Lib.hid (same_yes wr _ All _ _ l hown.view (hl5.out.new hs.out.new))
            clear hs hA5 hown hl5
            go_wp2_with fail
            refine HS.out.mono ?_
            rintro e w9 ⟨rfl, n9, rfl⟩
            have hN9 : Hid (New0 w (wr.drewN n9)) := Lib.hid (hN.out.trans (upon_drewN _ wr n9))
            clear HS
            go_wp2_with fail
            go_ret
            exact ⟨rfl, hN9.out⟩
end Ck
end Go.Proofs.YtadlkfdjdjaakaaDoor
