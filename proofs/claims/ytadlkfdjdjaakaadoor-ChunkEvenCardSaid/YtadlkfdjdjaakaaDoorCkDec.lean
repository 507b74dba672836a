/- The program's Decode (layer 9). -/
import Derived.Test.YtadlkfdjdjaakaaDoorCkGet
set_option maxRecDepth 100000
namespace Go.Proofs.YtadlkfdjdjaakaaDoor
open Go.RowKit Go.Sort
namespace Ck
open Bit Dsk Ob Dig
set_option linter.unusedVariables false

/-- What Decode leaves. -/
def Dd (s : ByteArray) (w : World) (e : Ending) (w' : World) : Prop := ∃ (v : Value) (l : List Pt) (x : Nat), e = .returned (.tuple #[v, .int .i64 (x : Int)]) ∧ Dec s.data.toList l x ∧ View w' All v l ∧ New0 w w'
theorem Dd.no {s : ByteArray} {w w' : World} {x : Nat} (h : Dec s.data.toList [] x) (hu : New0 w w') : Dd s w (.returned (.tuple #[.slice none 0 0, .int .i64 (x : Int)])) w' :=
  ⟨_, [], x, rfl, h, ⟨none, 0, rfl, Nat.le_refl _, Nat.zero_le _, fun h => absurd h (by simp)⟩, hu⟩
theorem Dd.no2 {s : ByteArray} {w w' : World} {x : Nat} {y : Int} (h : Dec s.data.toList [] x) (hy : y = (x : Int)) (hu : New0 w w') : Dd s w (.returned (.tuple #[.slice none 0 0, .int .i64 y])) w' := hy ▸ Dd.no h hu
theorem got_small {s : List UInt8} {n k e : Nat} (h : gotN s = (n, k, e)) : n < 18446744073709551616 ∧ k ≤ s.length ∧ e < 100 := by
  have := gotN_lt s
  rw [h] at this
  obtain ⟨h1, -, h2, h3⟩ := this
  exact ⟨h1, h2, by simp only at h3; omega⟩
theorem drop_bytes (s : ByteArray) (k : Nat) (h : k ≤ s.size) : (s.extract k s.size).data.toList = s.data.toList.drop k := by
  rw [extract_list, List.take_of_length_le (by rw [Array.length_toList]; exact Nat.le_refl _)]
theorem drop_size (s : ByteArray) (k : Nat) : (s.extract k s.size).size = s.size - k := by rw [ByteArray.size_extract]; omega
/-- What getPoints leaves is what Decode leaves. -/
theorem GP.dd {s : ByteArray} {R : List UInt8} {w w3 w' : World} {n k m j : Nat} {e : Ending} (f : Found s.data.toList n k m j R) (h1 : 1 ≤ n) (h64 : n ≤ 64) (h : GP w3 n m R e w') (hu : New0 w w3) : ∃ (v : Value) (x : Nat), e = .returned (.tuple #[v, .int .i64 (x : Int)]) ∧ Dd s w (.returned (.tuple #[v, .int .i64 (x : Int)])) w' := by
  obtain ⟨v, l, x, he, hx, hv, hu'⟩ := h
  refine ⟨v, x, he, v, l, x, rfl, ?_, hv, hu.trans hu'⟩
  rcases hx with ⟨rfl, hw⟩ | ⟨h0, h100, rfl, hw⟩
  · exact dec_ok f h1 h64 hw
  · exact dec_rest f h0 h100 hw
theorem lenE_up {n m : Nat} (h : lenE n m = 0) : m ≤ 8 * n ∧ n ≤ (m + 7) / 8 := by
  unfold lenE at h
  split at h
  · cases h
  · split at h
    · cases h
    · omega
theorem lenE_bad {R : List UInt8} {n m : Nat} (h : lenE R.length m ≠ 0) (l : List Pt) : ¬ Whole n m R l := fun hw => by
  have h1 := hw.le
  have h2 := hw.few
  unfold lenE at h
  rw [if_neg (by omega), if_neg (by omega)] at h
  exact h rfl
theorem lenE_few (n m : Nat) : lenE n m < 100 := by
  unfold lenE
  split
  · decide
  · split <;> decide
set_option maxHeartbeats 6400000 in
theorem decode_dd (w : World) (s : ByteArray) (hs : s.size ≤ 140737488355328) (hT : Tab w) :
    Calls Tryd.prog 13 #[.string s] w (Dd s w) := by
  obtain ⟨n, k, e, hg1⟩ : ∃ n k e, gotN s.data.toList = (n, k, e) := ⟨_, _, _, rfl⟩
  have hslen : s.data.toList.length = s.size := by rw [Array.length_toList]; rfl
  obtain ⟨hn, hk, he100⟩ := got_small hg1
  rw [hslen] at hk
  have HG1 := Lib.hid (get_is s (by omega) n k e hg1 w)
  replace hT := Lib.hid hT
  by_cases he : e = 0
  · subst he
    by_cases hr : n < 1 ∨ 64 < n
    · have hD := Lib.hid (dec_range hg1 hr)
      clear hg1
      rcases hr with hr | hr
      · have d1 : decide ((n : Int) < 1) = true := decide_eq_true (by omega)
        go_enter Tryd.func13, Tryd.ntmps13
        go_wp2_with fail
        refine HG1.out.mono ?_
        rintro e w2 ⟨rfl, hb2⟩
        replace hb2 := Lib.hid hb2
        clear HG1
        go_wp2_with fail
        go_ret2
        exact Dd.no2 hD.out rfl (new0_of_bel hb2.out)
      · have d1 : decide ((n : Int) < 1) = false := decide_eq_false (by omega)
        have d2 : decide ((64 : Int) < (n : Int)) = true := decide_eq_true (by omega)
        go_enter Tryd.func13, Tryd.ntmps13
        go_wp2_with fail
        refine HG1.out.mono ?_
        rintro e w2 ⟨rfl, hb2⟩
        replace hb2 := Lib.hid hb2
        clear HG1
        go_wp2_with fail
        go_ret2
        exact Dd.no2 hD.out rfl (new0_of_bel hb2.out)
    · have d1 : decide ((n : Int) < 1) = false := decide_eq_false (by omega)
      have d2 : decide ((64 : Int) < (n : Int)) = false := decide_eq_false (by omega)
      obtain ⟨s1, hs1⟩ : ∃ s1, s.extract k s.size = s1 := ⟨_, rfl⟩
      have hl1 : s1.data.toList = s.data.toList.drop k := by rw [← hs1, drop_bytes s k hk]
      have hz1 : s1.size = s.size - k := by rw [← hs1, drop_size]
      obtain ⟨m, j, e2, hg2⟩ : ∃ m j e2, gotN (s.data.toList.drop k) = (m, j, e2) := ⟨_, _, _, rfl⟩
      obtain ⟨hm, hj, he2⟩ := got_small hg2
      rw [List.length_drop, hslen] at hj
      have HG2 := Lib.hid (fun w => get_is s1 (by omega) m j e2 (by rw [hl1]; exact hg2) w)
      by_cases hee : e2 = 0
      · subst hee
        obtain ⟨s2, hs2⟩ : ∃ s2, s1.extract j s1.size = s2 := ⟨_, rfl⟩
        have hl2 : s2.data.toList = (s.data.toList.drop k).drop j := by rw [← hs2, drop_bytes s1 j (by omega), hl1]
        have hz2 : s2.size = s.size - k - j := by rw [← hs2, drop_size s1 j, hz1]
        have f : Found s.data.toList n k m j s2.data.toList := ⟨hg1, hg2, hl2.symm⟩
        have hR : s2.data.toList.length = s2.size := by rw [Array.length_toList]; rfl
        clear hl1 hl2 hg1 hg2
        have hz : s2.size ≤ 140737488355328 := by omega
        replace hj : j ≤ s1.size := by omega
        clear hz1 hz2 hslen
        replace f := Lib.hid f
        have HC := Lib.hid (fun w => len_any w s2 m hz hm)
        have hn1 : 1 ≤ n ∧ n ≤ 64 := by omega
        by_cases hle : lenE s2.size m = 0
        · obtain ⟨hup, hfew⟩ := lenE_up hle
          rw [hle] at HC
          have HP := Lib.hid (fun w3 hT3 => points_gp w3 s2 m n hz hup hfew hn1.1 hn1.2 hT3)
          have i1 : IntKind.i64.wrap (m : Int) = (m : Int) := by rw [IntKind.wrap_i64]; omega
          have i2 : IntKind.i64.wrap (n : Int) = (n : Int) := by rw [IntKind.wrap_i64]; omega
          have hend := Lib.hid (fun (e : Ending) (w3 w' : World) (hu : New0 w w3) (h : GP w3 n m s2.data.toList e w') => GP.dd f.out hn1.1 hn1.2 h hu)
          clear hR hle hup hfew f
          go_enter Tryd.func13, Tryd.ntmps13
          go_wp2_with fail
          refine HG1.out.mono ?_
          rintro e w2 ⟨rfl, hb2⟩
          have hu2 := Lib.hid (new0_of_bel hb2)
          clear HG1 hb2
          go_wp2_with fail
          refine (HG2.out _).mono ?_
          rintro e w3 ⟨rfl, hb3⟩
          have hu3 := Lib.hid (hu2.out.trans (new0_of_bel hb3))
          clear HG2 hb3 hu2
          go_wp2_with fail
          refine (HC.out _).mono ?_
          rintro e w4 ⟨rfl, hb4⟩
          have hu4 := Lib.hid (hu3.out.trans hb4)
          clear HC hb4 hu3
          go_wp2_with fail
          refine (HP.out w4 (hT.out.new hu4.out)).mono ?_
          intro e w5 hgp
          obtain ⟨v, x, rfl, hD⟩ := hend.out e w4 w5 hu4.out hgp
          replace hD := Lib.hid hD
          clear HP hgp hend
          go_wp2_with fail
          go_ret2
          exact hD.out
        · have hD := Lib.hid (dec_rest (e := lenE s2.size m) f.out hle (lenE_few _ _) (fun l => lenE_bad (by rw [hR]; exact hle) l))
          obtain ⟨q, hq⟩ : ∃ q, lenE s2.size m = q := ⟨_, rfl⟩
          rw [hq] at hle HC hD
          have d3 : ((q : Int) != 0) = true := by rw [bne_iff_ne]; omega
          clear hR f hq
          go_enter Tryd.func13, Tryd.ntmps13
          go_wp2_with fail
          refine HG1.out.mono ?_
          rintro e w2 ⟨rfl, hb2⟩
          have hu2 := Lib.hid (new0_of_bel hb2)
          clear HG1 hb2
          go_wp2_with fail
          refine (HG2.out _).mono ?_
          rintro e w3 ⟨rfl, hb3⟩
          have hu3 := Lib.hid (hu2.out.trans (new0_of_bel hb3))
          clear HG2 hb3 hu2
          go_wp2_with fail
          refine (HC.out _).mono ?_
          rintro e w4 ⟨rfl, hb4⟩
          have hu4 := Lib.hid (hu3.out.trans hb4)
          clear HC hb4 hu3
          go_wp2_with fail
          go_ret2
          exact Dd.no2 hD.out rfl hu4.out
      · have hD := Lib.hid (dec_two hg1 hg2 hee he2)
        have d3 : ((e2 : Int) != 0) = true := by rw [bne_iff_ne]; omega
        clear hg1 hg2 hl1
        go_enter Tryd.func13, Tryd.ntmps13
        go_wp2_with fail
        refine HG1.out.mono ?_
        rintro e w2 ⟨rfl, hb2⟩
        replace hb2 := Lib.hid hb2
        clear HG1
        go_wp2_with fail
        refine (HG2.out _).mono ?_
        rintro e w3 ⟨rfl, hb3⟩
        have hu3 := Lib.hid ((new0_of_bel hb2.out).trans (new0_of_bel hb3))
        clear HG2 hb3 hb2
        go_wp2_with fail
        go_ret2
        exact Dd.no hD.out hu3.out
  · have hD := Lib.hid (dec_one hg1 he he100)
    have d0 : ((e : Int) != 0) = true := by rw [bne_iff_ne]; omega
    clear hg1
    go_enter Tryd.func13, Tryd.ntmps13
    go_wp2_with fail
    refine HG1.out.mono ?_
    rintro e w2 ⟨rfl, hb2⟩
    replace hb2 := Lib.hid hb2
    clear HG1
    go_wp2_with fail
    go_ret2
    exact Dd.no hD.out (new0_of_bel hb2.out)
theorem decode_any (w : World) (s : ByteArray) (hs : s.size ≤ 140737488355328) (hT : Tab w) :
    Calls Tryd.prog 13 #[.string s] w fun e w' => ∃ (v : Value) (l : List Pt) (x : Nat), e = .returned (.tuple #[v, .int .i64 (x : Int)]) ∧ Dec s.data.toList l x ∧ View w' All v l ∧ New0 w w' := decode_dd w s hs hT
end Ck
end Go.Proofs.YtadlkfdjdjaakaaDoor
