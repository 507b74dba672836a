/- Layer 10: works. -/
import Derived.Test.YtoamgmbpainpjaaLbLaw1
import Derived.Deep.RegionHeld3
set_option maxRecDepth 100000
namespace Go.Proofs.Ytoamgmbpainpjaa
open Go.RowKit Go.Sort
namespace Lb
open Bit Dsk Ob Dig
set_option linter.unusedVariables false

abbrev bA : ByteArray := { data := #[97] }
abbrev bB : ByteArray := { data := #[98] }
abbrev b1 : ByteArray := { data := #[49] }
abbrev b2 : ByteArray := { data := #[50] }
abbrev lAB : List Pr := [(bA, b1), (bB, b2)]
theorem lt_AB : lt bA bB = true := by unfold lt; rw [ByteArray.toList_eq, ByteArray.toList_eq]; rfl
theorem okAB : Ok lAB := ⟨by decide, by decide, fun p hp => by
  rcases List.mem_cons.1 hp with rfl | hp
  · exact ⟨by decide, by decide⟩
  · rw [List.mem_singleton.1 hp]; exact ⟨by decide, by decide⟩, by
  rw [List.pairwise_cons]
  refine ⟨fun q hq => ?_, List.pairwise_singleton _ _⟩
  rw [List.mem_singleton.1 hq]; exact lt_AB⟩
theorem okB : Ok [(bB, b2)] := ⟨by decide, by decide, fun p hp => by
  rw [List.mem_singleton.1 hp]; exact ⟨by decide, by decide⟩, List.pairwise_singleton _ _⟩
theorem noBA : ¬ Ok [(bB, b2), (bA, b1)] := fun h => by
  have := h.up 0 1 (by decide) (by decide) rfl
  have h2 : lt bB bA = true := this
  rw [lt_asym lt_AB] at h2
  cases h2
theorem encAB : encR lAB = .returned (.tuple #[.string { data := #[1, 2, 1, 1, 97, 1, 1, 49, 1, 1, 98, 1, 1, 50] }, .int .i64 0]) := by
  rw [encR_ok okAB]
  have : (encB lAB).toArray = #[1, 2, 1, 1, 97, 1, 1, 49, 1, 1, 98, 1, 1, 50] := by decide +kernel
  rw [this]
theorem getB : get lAB bB = b2 := by decide +kernel
theorem smlAB : Sml lAB := fun p hp => by
  rcases List.mem_cons.1 hp with rfl | hp
  · exact ⟨by decide, by decide⟩
  · rw [List.mem_singleton.1 hp]; exact ⟨by decide, by decide⟩
/-- The four cells of the list. -/
structure Four (g : Nat) (w : World) : Prop where
  c0 : w.cell? ⟨g, 0, none⟩ = some (.string bA)
  c1 : w.cell? ⟨g, 1, none⟩ = some (.string b1)
  c2 : w.cell? ⟨g, 2, none⟩ = some (.string bB)
  c3 : w.cell? ⟨g, 3, none⟩ = some (.string b2)
theorem Four.new {g : Nat} {w w' : World} (h : Four g w) (hu : New0 w w') : Four g w' := ⟨New0.cells hu h.c0, New0.cells hu h.c1, New0.cells hu h.c2, New0.cells hu h.c3⟩
theorem Four.view {g : Nat} {w : World} (h : Four g w) : View w All (.slice (some ⟨g, 0, none⟩) 2 2) lAB :=
  view_of (l := lAB) (c := 2) (Nat.le_refl _) (by unfold maxLen; decide) trivial fun i hi => by
    match i, hi with
    | 0, _ => exact ⟨h.c0, h.c1⟩
    | 1, _ => exact ⟨h.c2, h.c3⟩
theorem Four.one {g : Nat} {w : World} (h : Four g w) : View w All (.slice (some ⟨g, 0, none⟩) 1 2) [(bA, b1)] :=
  view_of (l := [(bA, b1)]) (c := 2) (by decide) (by unfold maxLen; decide) trivial fun i hi => by
    match i, hi with
    | 0, _ => exact ⟨h.c0, h.c1⟩
theorem Four.two {g : Nat} {w : World} (h : Four g w) : View w All (.slice (some ⟨g, 2, none⟩) 1 1) [(bB, b2)] :=
  view_of (l := [(bB, b2)]) (c := 1) (by decide) (by unfold maxLen; decide) trivial fun i hi => by
    match i, hi with
    | 0, _ => exact ⟨h.c2, h.c3⟩
theorem four_new (w : World) : Four w.heap.size (w.alloc (.cells #[.string bA, .string b1, .string bB, .string b2] 39 (0, 0))) := by
  have h := cell_new w (.cells #[.string bA, .string b1, .string bB, .string b2] 39 (0, 0))
  exact ⟨by rw [Lib.cell_of_heap h]; rfl, by rw [Lib.cell_of_heap h]; rfl, by rw [Lib.cell_of_heap h]; rfl, by rw [Lib.cell_of_heap h]; rfl⟩
theorem turned_new (w : World) : View (w.alloc (.cells #[.string bB, .string b2, .string bA, .string b1] 39 (0, 0))) All (.slice (some ⟨w.heap.size, 0, none⟩) 2 2) [(bB, b2), (bA, b1)] := by
  have h := cell_new w (.cells #[.string bB, .string b2, .string bA, .string b1] 39 (0, 0))
  refine view_of (l := [(bB, b2), (bA, b1)]) (c := 2) (by decide) (by unfold maxLen; decide) trivial fun i hi => ?_
  match i, hi with
  | 0, _ => exact ⟨by rw [Lib.cell_of_heap h]; rfl, by rw [Lib.cell_of_heap h]; rfl⟩
  | 1, _ => exact ⟨by rw [Lib.cell_of_heap h]; rfl, by rw [Lib.cell_of_heap h]; rfl⟩
theorem s_four {g : Nat} {w : World} (h : Four g w) : w.cell? ⟨g, 0, none⟩ = some (.string bA) ∧ w.cell? ⟨g, 1, none⟩ = some (.string b1) ∧ w.cell? ⟨g, 2, none⟩ = some (.string bB) ∧ w.cell? ⟨g, 3, none⟩ = some (.string b2) := ⟨h.c0, h.c1, h.c2, h.c3⟩
set_option maxHeartbeats 3200000 in
theorem works_true (W : World) : Calls Try.prog 21 #[] W fun e W' => e = .returned (.bool true) ∧ New0 W W' := by
  have h0 := four_new W
  obtain ⟨g, hg⟩ : ∃ g, W.heap.size = g := ⟨_, rfl⟩
  have HE := Lib.hid (by have := encode_any _ All _ lAB h0.view smlAB; rw [encAB] at this; exact this)
  have HP := Lib.hid (fun w (h : Four g w) => by have := compare_any w All All _ _ [(bA, b1)] lAB h.one h.view; rw [show cmp [(bA, b1)] lAB = -1 from cmp_more [(bA, b1)] (bB, b2)] at this; exact this)
  have HC1 : Hid (∀ w, Four g w → Calls Try.prog 12 #[.slice (some ⟨g, 2, none⟩) 1 1] w fun e w' => e = .returned (.int .i64 0) ∧ New0 w w') := Lib.hid (fun w h => by have := check_any w All _ [(bB, b2)] h.two (fun p hp => smlAB p (List.mem_cons_of_mem _ hp)); rw [chk_ok okB] at this; exact this)
  have HC2 : Hid (∀ w : World, Calls Try.prog 12 #[.slice (some ⟨w.heap.size, 0, none⟩) 2 2] (w.alloc (.cells #[.string bB, .string b2, .string bA, .string b1] 39 (0, 0))) fun e w' => e = .returned (.int .i64 16) ∧ New0 (w.alloc (.cells #[.string bB, .string b2, .string bA, .string b1] 39 (0, 0))) w') := Lib.hid (fun w => by have := check_any _ All _ [(bB, b2), (bA, b1)] (turned_new w) (fun p hp => smlAB p (by rcases List.mem_cons.1 hp with rfl | hp; exact List.mem_cons_of_mem _ (List.mem_singleton.2 rfl); rw [List.mem_singleton.1 hp]; exact List.mem_cons_self)); rw [chk_no noBA] at this; exact this)
  have HG := Lib.hid (fun w (h : Four g w) => by have := get_any w All _ lAB h.view bB; rw [getB] at this; exact this)
  have hu0 : Hid (New0 W (W.alloc (.cells #[.string bA, .string b1, .string bB, .string b2] 39 (0, 0)))) := Lib.hid ((Upon.refl _ W).alloc _)
  rw [hg] at h0 HE
  replace h0 := Lib.hid h0
  replace hg := Lib.hid hg
  go_enter Try.func21, Try.ntmps21
  go_wp2_with fail
  rw [hg.out]
  refine HE.out.mono ?_
  rintro e w1 ⟨rfl, hu⟩
  have hu1 := Lib.hid (hu0.out.trans hu)
  have k1 := h0.out.new hu
  have k1' : Four g w1.drew := k1.new (upon_drewN _ w1 1)
  have hu1' : Hid (New0 W w1.drew) := Lib.hid (hu1.out.trans (upon_drewN _ w1 1))
  clear HE h0 hu hu0
  have ⟨c0, c1, c2, c3⟩ := k1
  replace k1' := Lib.hid k1'
  go_wp2_with fail
  go_region_held3 (fun w' => w'.cell? ⟨g, 0, none⟩ = some (.string bA) ∧ w'.cell? ⟨g, 1, none⟩ = some (.string b1) ∧ w'.cell? ⟨g, 2, none⟩ = some (.string bB) ∧ w'.cell? ⟨g, 3, none⟩ = some (.string b2))
    ((first | exact s_four kd | exact s_four kc | exact s_four (kb.new ((Upon.refl _ wb).alloc _)) | exact s_four kb | exact s_four ka | exact s_four k1'.out))
    (first
    | (go_at_call 14; refine (HP.out _ k1'.out).mono ?_; rintro e wa ⟨rfl, ha⟩; have ka := k1'.out.new ha; have na := hu1'.out.trans ha; have ⟨a0, a1, a2, a3⟩ := ka)
    | (go_at_call 12; (first
        | (refine (HC2.out wb).mono ?_; rintro e wc ⟨rfl, hc⟩; have kc := (kb.new ((Upon.refl _ wb).alloc _)).new hc; have nc := (nb.trans ((Upon.refl _ wb).alloc _)).trans hc; have ⟨d0, d1, d2, d3⟩ := kc)
        | (refine (HC1.out _ ka).mono ?_; rintro e wb ⟨rfl, hb⟩; have kb := ka.new hb; have nb := na.trans hb; have ⟨b0, b1', b2', b3⟩ := kb)))
    | (go_at_call 16; refine (HG.out _ kc).mono ?_; rintro e wd ⟨rfl, hd⟩; have kd := kc.new hd; have nd' := nc.trans hd; have ⟨e0, e1, e2, e3⟩ := kd)
    | fail)
  all_goals
    go_wp2_with fail
    go_ret
    exact ⟨rfl, nd'⟩
end Lb
end Go.Proofs.Ytoamgmbpainpjaa
