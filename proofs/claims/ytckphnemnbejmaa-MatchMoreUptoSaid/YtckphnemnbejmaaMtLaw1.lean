/- Layer 11: Own; the laws MatchTells, MatchReads. -/
import Derived.Test.YtckphnemnbejmaaMtProg
set_option maxRecDepth 100000
namespace Go.Proofs.Ytckphnemnbejmaa
open Go.RowKit Go.Sort
namespace Mt
open Bit Dsk Ob Dig Lb
set_option linter.unusedVariables false

set_option maxHeartbeats 1600000 in
theorem own_any (w : World) (S : Nat → Prop) (v : Value) (l : List M) (hv : View w S v l) (hlen : l.length * 40 ≤ 140737488355328) :
    Calls Try.prog 8 #[v] w fun e w' => ∃ u, e = .returned u ∧ Mine w' u l ∧ (∀ g, u.ownBlock = some g → w.heap.size ≤ g) ∧ New0 w w' := by
  obtain ⟨A, c, rfl, -, -⟩ := Rw.View.shape hv
  replace hv := Lib.hid (hv.new ((Upon.refl _ w).alloc (.cells #[] 37 (0, 0))))
  go_enter Try.func8, Try.ntmps8
  go_wp2_with (at_builtin; refine Rw.wpList_append typM rfl _ _ rfl _ _ [] l S rfl rfl (Rw.Mine.empty layM (cell_new w _)) hv.out (by rw [List.length_nil]; omega) (by rw [List.length_nil]; omega) ?_)
  intro v' w2 hown hg hb
  have hu2 : New0 w w2 := Upon.grown ((Upon.refl (fun _ => False) w).alloc _) hg (fun k hk => .inr (by
    have hk' : w.heap.size = k := by simpa [Value.ownBlock] using hk
    omega))
  have hmine : ∀ g, v'.ownBlock = some g → w.heap.size ≤ g := fun g hk => by
    rw [hk] at hb
    rcases hb with hb | hb
    · have : g = w.heap.size := by simpa [Value.ownBlock] using hb
      omega
    · have : g = w.heap.size + 1 := by simpa using hb
      omega
  replace hown := Lib.hid hown
  replace hu2 := Lib.hid hu2
  replace hmine := Lib.hid hmine
  clear hg hb hv
  go_wp2_with fail
  go_ret
  exact ⟨v', rfl, hown.out, hmine.out, hu2.out⟩
theorem encR_form (l : List M) : ∃ (s : ByteArray) (e : Int), encR l = .returned (.tuple #[.string s, .int .i64 e]) := by
  by_cases h : chk l = 0
  · exact ⟨_, _, encR_ok h⟩
  · exact ⟨_, _, encR_no h⟩
set_option maxHeartbeats 1600000 in
theorem tells_true (W : World) (v1 v2 : Value) (o1 : IsMs v1 W) (o2 : IsPrs v2 W) :
    Calls Try.prog 3 #[v1, v2] W fun e W' => e = .returned (.bool true) ∧ Below W.heap.size W W' := by
  obtain ⟨l, h1, hb, hl⟩ := o1
  obtain ⟨a, h2, -, -⟩ := o2
  obtain ⟨es, ee, hE⟩ := encR_form l
  have HO := Lib.hid (own_any W All v1 l h1 (by omega))
  have HE := Lib.hid (fun w S u (hv : View w S u l) => by have := enc_any w S u l hv hb; rw [hE] at this; exact this)
  have HF := Lib.hid (fun w (hu : New0 W w) => by have := refenc_any w All v1 l (Rw.View.new h1 hu) hb; rw [hE] at this; exact this)
  obtain ⟨q, hq⟩ : ∃ q : Int, (chk l : Int) = q := ⟨_, rfl⟩
  have HC := Lib.hid (fun w S u (hv : View w S u l) => by have := check_any w S u l hv hb; rw [hq] at this; exact this)
  have HD := Lib.hid (fun w (hu : New0 W w) => by have := refcheck_any w All v1 l (Rw.View.new h1 hu) hb; rw [hq] at this; exact this)
  obtain ⟨z, hz⟩ : ∃ z, is l a = z := ⟨_, rfl⟩
  have HI := Lib.hid (fun w S u (hu : New0 W w) (hv : View w S u l) => by have := is_any w S All u v2 l a hv hb (Rw.View.new h2 hu); rw [hz] at this; exact this)
  have HJ := Lib.hid (fun w (hu : New0 W w) => by have := refis_any w All All v1 v2 l a (Rw.View.new h1 hu) hb (Rw.View.new h2 hu); rw [hz] at this; exact this)
  have HS := Lib.hid (fun w S u (hu : New0 W w) (hv : View w S u l) => by have := same_any w S All u v1 l l hv (Rw.View.new h1 hu); rw [decide_eq_true rfl] at this; exact this)
  clear h1 h2 hb hl hE hq hz
  go_enter Try.func3, Try.ntmps3
  go_wp2_with fail
  refine HO.out.mono ?_
  rintro e w1 ⟨u, rfl, hm1, hf1, hu1⟩
  replace hm1 := Lib.hid hm1
  replace hu1 := Lib.hid hu1
  clear HO hf1
  go_wp2_with fail
  refine (HE.out _ _ _ hm1.out.view).mono ?_
  rintro e w2 ⟨rfl, hu⟩
  have hm2 := Lib.hid (hm1.out.new hu)
  have hu2 := Lib.hid (hu1.out.trans hu)
  clear HE hm1 hu1 hu
  go_wp2_with fail
  refine (HF.out _ hu2.out).mono ?_
  rintro e w3 ⟨rfl, hu⟩
  have hm3 := Lib.hid (hm2.out.new hu)
  have hu3 := Lib.hid (hu2.out.trans hu)
  clear HF hm2 hu2 hu
  go_wp2_with fail
  refine (HC.out _ _ _ hm3.out.view).mono ?_
  rintro e w4 ⟨rfl, hu⟩
  have hm4 := Lib.hid (hm3.out.new hu)
  have hu4 := Lib.hid (hu3.out.trans hu)
  clear HC hm3 hu3 hu
  go_wp2_with fail
  refine (HD.out _ hu4.out).mono ?_
  rintro e w5 ⟨rfl, hu⟩
  have hm5 := Lib.hid (hm4.out.new hu)
  have hu5 := Lib.hid (hu4.out.trans hu)
  clear HD hm4 hu4 hu
  go_wp2_with fail
  refine (HI.out _ _ _ hu5.out hm5.out.view).mono ?_
  rintro e w6 ⟨rfl, hu⟩
  have hm6 := Lib.hid (hm5.out.new hu)
  have hu6 := Lib.hid (hu5.out.trans hu)
  clear HI hm5 hu5 hu
  go_wp2_with fail
  refine (HJ.out _ hu6.out).mono ?_
  rintro e w7 ⟨rfl, hu⟩
  have hm7 := Lib.hid (hm6.out.new hu)
  have hu7 := Lib.hid (hu6.out.trans hu)
  clear HJ hm6 hu6 hu
  go_wp2_with fail
  refine (HS.out _ _ _ hu7.out hm7.out.view).mono ?_
  rintro e w8 ⟨rfl, n8, rfl⟩
  have hend := Lib.hid (belowOf (hu7.out.trans (upon_drewN _ _ n8)))
  clear HS hm7 hu7
  go_wp2_with fail
  go_ret
  exact ⟨rfl, hend.out⟩
set_option maxHeartbeats 1600000 in
theorem reads_true (s : ByteArray) (hs : s.size ≤ 140737488351232) (W : World) :
    Calls Try.prog 4 #[.string s] W fun e W' => e = .returned (.bool true) ∧ Below W.heap.size W W' := by
  by_cases hbig : 5000 < s.size
  · have d : (5000 : Int) < (s.size : Int) := by omega
    go_enter Try.func4, Try.ntmps4
    go_wp2_with fail
    go_ret
    exact ⟨rfl, Below.refl _ _⟩
  · have d : ¬ (5000 : Int) < (s.size : Int) := by omega
    have HD := Lib.hid (fun w => gete_any w s (by omega))
    have HR := Lib.hid (fun w => refgete_any w s (by omega))
    unfold GetE at HD HR
    obtain ⟨l, hl⟩ : ∃ l, (got s.data.toList).1 = l := ⟨_, rfl⟩
    obtain ⟨k, hk⟩ : ∃ k : Int, ((got s.data.toList).2.1 : Int) = k := ⟨_, rfl⟩
    obtain ⟨x, hx⟩ : ∃ x : Int, ((got s.data.toList).2.2 : Int) = x := ⟨_, rfl⟩
    rw [hl, hk, hx] at HD HR
    clear hl hk hx hbig
    go_enter Try.func4, Try.ntmps4
    go_wp2_with fail
    refine (HD.out _).mono ?_
    rintro e w1 ⟨v, rfl, hv, hu1⟩
    replace hv := Lib.hid hv
    replace hu1 := Lib.hid hu1
    clear HD
    go_wp2_with fail
    refine (HR.out _).mono ?_
    rintro e w2 ⟨v2, rfl, hv2, hu⟩
    have HS := Lib.hid (same_any w2 _ _ v v2 l l (Rw.View.new hv.out hu) hv2)
    have hu2 := Lib.hid (hu1.out.trans hu)
    clear HR hv hv2 hu1 hu
    go_wp2_with fail
    refine HS.out.mono ?_
    rintro e w3 ⟨rfl, n3, rfl⟩
    have hend := Lib.hid (belowOf (hu2.out.trans (upon_drewN _ w2 n3)))
    clear HS hu2
    go_wp2_with fail
    go_ret
    exact ⟨ret_b (by simp), hend.out⟩
end Mt
end Go.Proofs.Ytckphnemnbejmaa
