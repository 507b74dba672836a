/- Layer 11: works. -/
import Derived.Test.YtckphnemnbejmaaMtLaw1
set_option maxRecDepth 100000
namespace Go.Proofs.Ytckphnemnbejmaa
open Go.RowKit Go.Sort
namespace Mt
open Bit Dsk Ob Dig Lb
set_option linter.unusedVariables false

abbrev bA : ByteArray := { data := #[97] }
abbrev bB : ByteArray := { data := #[98] }
abbrev b1 : ByteArray := { data := #[49] }
abbrev b2 : ByteArray := { data := #[50] }
abbrev bX : ByteArray := { data := #[120] }
abbrev lM : List M := [(1, bA, b1), (2, bB, b2)]
abbrev pA : List Lb.Pr := [(bA, b1)]
abbrev pAB : List Lb.Pr := [(bA, b1), (bB, b2)]
abbrev lAny : List M := [(4, bB, ByteArray.empty)]
theorem chkM : chk lM = 0 := by decide +kernel
theorem isA : is lM pA = true := by decide +kernel
theorem isAB : is lM pAB = false := by decide +kernel
theorem isAny : is lAny pAB = true := by decide +kernel
theorem bndM : Bnd lM := fun m hm => by
  rcases List.mem_cons.1 hm with rfl | hm
  · exact ⟨by decide, by decide, by decide, by decide⟩
  · rw [List.mem_singleton.1 hm]; exact ⟨by decide, by decide, by decide, by decide⟩
theorem bndAny : Bnd lAny := fun m hm => by
  rw [List.mem_singleton.1 hm]; exact ⟨by decide, by decide, by decide, by decide⟩
theorem view_M (w : World) : View (w.alloc (.cells #[.int .i64 1, .string bA, .string b1, .int .i64 2, .string bB, .string b2] 37 (0, 0))) All (.slice (some ⟨w.heap.size, 0, none⟩) 2 2) lM := by
  have h := cell_new w (.cells #[.int .i64 1, .string bA, .string b1, .int .i64 2, .string bB, .string b2] 37 (0, 0))
  refine Mt.view_of (l := lM) (c := 2) (by decide) (by unfold maxLen; decide) trivial fun i hi => ?_
  match i, hi with
  | 0, _ => exact ⟨by rw [Lib.cell_of_heap h]; rfl, by rw [Lib.cell_of_heap h]; rfl, by rw [Lib.cell_of_heap h]; rfl⟩
  | 1, _ => exact ⟨by rw [Lib.cell_of_heap h]; rfl, by rw [Lib.cell_of_heap h]; rfl, by rw [Lib.cell_of_heap h]; rfl⟩
theorem view_AB (w : World) : Lb.View (w.alloc (.cells #[.string bA, .string b1, .string bB, .string b2] 40 (0, 0))) All (.slice (some ⟨w.heap.size, 0, none⟩) 2 2) pAB := by
  have h := cell_new w (.cells #[.string bA, .string b1, .string bB, .string b2] 40 (0, 0))
  refine Lb.view_of (l := pAB) (c := 2) (by decide) (by unfold maxLen; decide) trivial fun i hi => ?_
  match i, hi with
  | 0, _ => exact ⟨by rw [Lib.cell_of_heap h]; rfl, by rw [Lib.cell_of_heap h]; rfl⟩
  | 1, _ => exact ⟨by rw [Lib.cell_of_heap h]; rfl, by rw [Lib.cell_of_heap h]; rfl⟩
/-- What is written, with more behind it, is got again. -/
theorem get_enc {l : List M} (h : chk l = 0) {es x : ByteArray} (he : es = ⟨(encB l).toArray⟩) : got (es ++ x).data.toList = (l, es.size, 0) := by
  have e : (es ++ x).data.toList = encB l ++ x.data.toList := by
    rw [ByteArray.data_append, Array.toList_append, he]
  have hsz : es.size = (encB l).length := by rw [he]; show (encB l).toArray.size = _; simp
  rw [e, got_ok (tk_enc h _), List.length_append, hsz]
  simp
set_option maxHeartbeats 3200000 in
theorem works_true (W : World) : Calls Try.prog 18 #[] W fun e W' => e = .returned (.bool true) ∧ New0 W W' := by
  obtain ⟨w1, hw1⟩ : ∃ w1, W.alloc (.cells #[.int .i64 1, .string bA, .string b1, .int .i64 2, .string bB, .string b2] 37 (0, 0)) = w1 := ⟨_, rfl⟩
  obtain ⟨w2, hw2⟩ : ∃ w2, w1.alloc (.cells #[.string bA, .string b1] 40 (0, 0)) = w2 := ⟨_, rfl⟩
  obtain ⟨w3, hw3⟩ : ∃ w3, w2.alloc (.cells #[.string bA, .string b1, .string bB, .string b2] 40 (0, 0)) = w3 := ⟨_, rfl⟩
  have hM := view_M W
  rw [hw1] at hM
  have hA := Lb.view_one (cell_new w1 (.cells #[.string bA, .string b1] 40 (0, 0)))
  rw [hw2] at hA
  have hAB := view_AB w2
  rw [hw3] at hAB
  have u1 : New0 W w1 := by rw [← hw1]; exact (Upon.refl _ W).alloc _
  have u2 : New0 w1 w2 := by rw [← hw2]; exact (Upon.refl _ w1).alloc _
  have u3 : New0 w2 w3 := by rw [← hw3]; exact (Upon.refl _ w2).alloc _
  have e1 : w1.heap.size = W.heap.size + 1 := by rw [← hw1]; simp
  have e2 : w2.heap.size = W.heap.size + 1 + 1 := by rw [← hw2]; simp [e1]
  replace hM := hM.new (u2.trans u3)
  replace hA := hA.new u3
  rw [e1] at hA
  rw [e2] at hAB
  have hu0 := Lib.hid ((u1.trans u2).trans u3)
  obtain ⟨es, hes⟩ : ∃ es : ByteArray, es = ⟨(encB lM).toArray⟩ := ⟨_, rfl⟩
  have hesz : es.size ≤ 1000 := by
    have := encB_len chkM
    rw [hes]
    show (encB lM).toArray.size ≤ 1000
    simpa using this
  have HE := Lib.hid (by have := enc_any w3 All _ lM hM bndM; rw [encR_ok chkM, ← hes] at this; exact this)
  have hadd := fun W => run_string_add_sum (P := Try.prog) W es bX (by have : bX.size = 1 := rfl; omega)
  have HG := Lib.hid (fun w => by have := gete_any w (es ++ bX) (by rw [ByteArray.size_append]; have : bX.size = 1 := rfl; omega); unfold GetE at this; rw [get_enc chkM hes] at this; exact this)
  have HA := Lib.hid (fun w (hu : New0 w3 w) => by have := is_any w All All _ _ lM pA (Rw.View.new hM hu) bndM (Rw.View.new hA hu); rw [isA] at this; exact this)
  have HB := Lib.hid (fun w (hu : New0 w3 w) => by have := is_any w All All _ _ lM pAB (Rw.View.new hM hu) bndM (Rw.View.new hAB hu); rw [isAB] at this; exact this)
  have HY := Lib.hid (fun w u (hu : New0 w3 w) (hv : View w All u lAny) => by have := is_any w All All _ _ lAny pAB hv bndAny (Rw.View.new hAB hu); rw [isAny] at this; exact this)
  have HS := Lib.hid (fun w u (hu : New0 w3 w) (hv : View w All u lM) => by have := same_any w All All u _ lM lM hv (Rw.View.new hM hu); rw [decide_eq_true rfl] at this; exact this)
  have hw : Hid (((W.alloc (.cells #[.int .i64 1, .string bA, .string b1, .int .i64 2, .string bB, .string b2] 37 (0, 0))).alloc (.cells #[.string bA, .string b1] 40 (0, 0))).alloc (.cells #[.string bA, .string b1, .string bB, .string b2] 40 (0, 0)) = w3) := Lib.hid (by rw [hw1, hw2, hw3])
  clear hM hA hAB u1 u2 u3 e1 e2 hw1 hw2 hw3 hes hesz
  go_enter Try.func18, Try.ntmps18
  go_wp2_with fail
  rw [hw.out]
  refine HE.out.mono ?_
  rintro e w4 ⟨rfl, hu4⟩
  replace hu4 := Lib.hid hu4
  clear HE hw
  go_wp2_with fail
  refine (HG.out _).mono ?_
  rintro e w5 ⟨v, rfl, hv, hu⟩
  have hu5 := Lib.hid (hu4.out.trans hu)
  replace hv := Lib.hid hv
  clear HG hu hu4
  go_wp2_with fail
  refine (HA.out _ hu5.out).mono ?_
  rintro e w6 ⟨rfl, hu⟩
  have hu6 := Lib.hid (hu5.out.trans hu)
  have hv6 := Lib.hid (Rw.View.new hv.out hu)
  clear HA hu hu5 hv
  go_wp2_with fail
  refine (HB.out _ hu6.out).mono ?_
  rintro e w7 ⟨rfl, hu⟩
  have hu7 := Lib.hid ((hu6.out.trans hu).alloc (.cells #[.int .i64 4, .string bB, .string ByteArray.empty] 37 (0, 0)))
  have hv7 := Lib.hid (Rw.View.new (Rw.View.new hv6.out hu) ((Upon.refl _ w7).alloc (.cells #[.int .i64 4, .string bB, .string ByteArray.empty] 37 (0, 0))))
  have hY := Lib.hid (HY.out _ _ hu7.out (Mt.view_two w7 4 bB ByteArray.empty))
  clear HB hu hu6 hv6 HY
  go_wp2_with fail
  refine hY.out.mono ?_
  rintro e w8 ⟨rfl, hu⟩
  have hu8 := Lib.hid (hu7.out.trans hu)
  have hv8 := Lib.hid (Rw.View.new hv7.out hu)
  clear hY hu hu7 hv7
  go_wp2_with fail
  refine (HS.out _ _ hu8.out hv8.out).mono ?_
  rintro e w9 ⟨rfl, n9, rfl⟩
  have hend := Lib.hid ((hu0.out.trans hu8.out).trans (upon_drewN _ _ n9))
  clear HS hu8 hv8
  go_wp2_with fail
  go_ret
  exact ⟨rfl, hend.out⟩
theorem worksB (W : World) : Calls Try.prog 18 #[] W fun e W' => e = .returned (.bool true) ∧ New0 W W' := works_true W
end Mt
end Go.Proofs.Ytckphnemnbejmaa
