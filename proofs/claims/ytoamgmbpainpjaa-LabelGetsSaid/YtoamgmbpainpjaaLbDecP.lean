/- The program's labels (layer 10): Decode. -/
import Derived.Test.YtoamgmbpainpjaaLbEncP
import Derived.Test.YtoamgmbpainpjaaLbPairP
set_option maxRecDepth 100000
namespace Go.Proofs.Ytoamgmbpainpjaa
open Go.RowKit Go.Sort
namespace Lb
open Bit Dsk Ob Dig
set_option linter.unusedVariables false

theorem getpair_at (s : ByteArray) (p : Nat) (hp : p ≤ s.size) (hs : s.size ≤ 4611686018427387904) (w : World) :
    Calls Try.prog 34 #[.string (s.extract p s.size)] w fun e w' => (∃ (a b : ByteArray) (k x : Nat) (r1 : List UInt8), e = .returned (.tuple #[.agg #[.string a, .string b], .int .i64 (k : Int), .int .i64 (x : Int)]) ∧
      ((x ≠ 0 ∧ ((∃ a', txt 32 (s.data.toList.drop p) = (a', r1, x)) ∨ ∃ a' b' r2, txt 32 (s.data.toList.drop p) = (a', r1, 0) ∧ txt 64 r1 = (b', r2, x))) ∨ (x = 0 ∧ p + k ≤ s.size ∧ txt 32 (s.data.toList.drop p) = (a, r1, 0) ∧ txt 64 r1 = (b, s.data.toList.drop (p + k), 0)))) ∧ New0 w w' := by
  have hrs : (s.extract p s.size).size = s.size - p := by rw [ByteArray.size_extract]; omega
  refine (getpair_any (s.extract p s.size) (by omega) w).mono ?_
  rintro e w' ⟨⟨a, b, k, x, r1, he, h⟩, hu⟩
  rw [drop_list] at h
  refine ⟨⟨a, b, k, x, r1, he, ?_⟩, hu⟩
  rcases h with h | ⟨h1, h2, h3, h4⟩
  · exact .inl h
  · refine .inr ⟨h1, by omega, h3, ?_⟩
    rw [h4, drop_list, drop_list, List.drop_drop]
theorem txt_small {m : Int} {r r1 : List UInt8} {a : ByteArray} (h : txt m r = (a, r1, 0)) (hr : r.length ≤ 9223372036854775807) : a.size ≤ 9223372036854775807 := by
  have h1 : (txt m r).1 = a := by rw [h]
  have : a.size ≤ r.length := by
    rw [← h1]
    show ((r.drop (gotT r m).2.1).take (gotT r m).1).toArray.size ≤ _
    rw [List.size_toArray, List.length_take, List.length_drop]; omega
  omega
theorem txt_left {m : Int} {r r1 : List UInt8} {a : ByteArray} {x : Nat} (h : txt m r = (a, r1, x)) : r1.length ≤ r.length := by
  have h1 : (txt m r).2.1 = r1 := by rw [h]
  rw [← h1]
  show (r.drop _).length ≤ _
  rw [List.length_drop]; omega
/-- A row of pairs of the call's own. -/
def Own1 (w0 w : World) (u : Value) (l : List Pr) : Prop := Mine w u l ∧ (∀ g, u.ownBlock = some g → w0.heap.size ≤ g) ∧ New0 w0 w
theorem Own1.step {w0 w w' : World} {u : Value} {l : List Pr} (h : Own1 w0 w u l) (hu : New0 w w') : Own1 w0 w' u l := ⟨h.1.new hu, h.2.1, h.2.2.trans hu⟩
theorem Own1.app {w0 w w' : World} {u u' : Value} {l m : List Pr} (h : Own1 w0 w u l) (hown : Mine w' u' m) (hg : w.grownBy w' u.ownBlock) (hb : u'.ownBlock = u.ownBlock ∨ u'.ownBlock = some w.heap.size) : Own1 w0 w' u' m :=
  ⟨hown, fun g hk => by
    rw [hk] at hb
    rcases hb with hb | hb
    · exact h.2.1 g hb.symm
    · have : g = w.heap.size := by simpa using hb
      have := h.2.2.size
      omega, Rw.grown_new (v' := u') hg (fun g hk => h.2.1 g hk) w0 (Nat.le_refl _) h.2.2⟩
theorem view_two (w : World) (a b : ByteArray) : View ((w.alloc (.cells #[.string a, .string b] 39 (0, 0))).alloc (.cells #[.string a, .string b] 39 (0, 0))) All (.slice (some ⟨w.heap.size + 1, 0, none⟩) 1 1) [(a, b)] := by
  have h := view_one (cell_new (w.alloc (.cells #[.string a, .string b] 39 (0, 0))) (.cells #[.string a, .string b] 39 (0, 0)))
  have e : (w.alloc (.cells #[.string a, .string b] 39 (0, 0))).heap.size = w.heap.size + 1 := by simp
  rw [e] at h
  exact h
/-- What Decode's end is. -/
def DecE (w : World) (sl : List UInt8) (e : Ending) (w' : World) : Prop := ∃ v, e = .returned (.tuple #[v, .int .i64 ((dec sl).2 : Int)]) ∧ View w' All v (dec sl).1 ∧ New0 w w'
theorem DecE.no {w w' : World} {sl : List UInt8} {x : Nat} {z : Int} (h : dec sl = ([], x)) (hz : z = x) (hu : New0 w w') : DecE w sl (.returned (.tuple #[.slice none 0 0, .int .i64 z])) w' := by
  subst hz
  unfold DecE
  rw [h]
  exact ⟨_, rfl, Rw.View.noth _ _ _, hu⟩
theorem DecE.yes {w w' : World} {sl : List UInt8} {l : List Pr} {v : Value} (h : dec sl = (l, 0)) (hu : Own1 w w' v l) : DecE w sl (.returned (.tuple #[v, .int .i64 0])) w' := by
  unfold DecE
  rw [h]
  exact ⟨v, rfl, hu.1.view.all, hu.2.2⟩
set_option maxHeartbeats 6400000 in
theorem decode_e (w : World) (s : ByteArray) (hs : s.size ≤ 140737488355328) :
    Calls Try.prog 19 #[.string s] w fun e w' => DecE w s.data.toList e w' := by
  obtain ⟨n, k, x, hg⟩ : ∃ n k x, gotN s.data.toList = (n, k, x) := ⟨_, _, _, rfl⟩
  have hks : k ≤ s.size := by
    have := (gotN_lt s.data.toList).2.2.1
    rw [hg] at this
    simpa using this
  have hn64 : n < 18446744073709551616 := by
    have := (gotN_lt s.data.toList).1
    rw [hg] at this
    exact this
  have HG : Hid (∀ w, Calls Try.prog 33 #[.string s] w fun e w' => e = .returned (.tuple #[.int .u64 (n : Int), .int .i64 (k : Int), .int .i64 (x : Int)]) ∧ Below w.heap.size w w') := Lib.hid fun w => by
    have := Dig.get_any s (by omega) w
    rw [hg] at this
    exact this
  have HP := Lib.hid (fun p hp w => getpair_at s p hp (by omega) w)
  obtain ⟨sl, hsl⟩ : ∃ sl, s.data.toList = sl := ⟨_, rfl⟩
  have hsn : sl.length = s.size := by rw [← hsl]; simp
  rw [hsl] at hg HP ⊢
  clear hsl
  by_cases hx : x = 0
  · subst hx
    by_cases hn : n < 1 ∨ 8 < n
    · have HK := Lib.hid (fun w => iscount_nat n w (b := false) (by simp; omega))
      have hD := Lib.hid (dec_few hg hn)
      clear hg hn HP
      go_enter Try.func19, Try.ntmps19
      go_wp2_with fail
      refine (HG.out _).mono ?_
      rintro e w2 ⟨rfl, hb2⟩
      have hu2 := Lib.hid (newOf hb2)
      clear HG hb2
      go_wp2_with fail
      refine (HK.out _).mono ?_
      rintro e w3 ⟨rfl, rfl⟩
      clear HK
      go_wp2_with fail
      go_ret2
      exact DecE.no hD.out rfl hu2.out
    · have HK := Lib.hid (fun w => iscount_nat n w (b := true) (by simp; omega))
      have hn1 : 1 ≤ n := by omega
      have hn8 : n ≤ 8 := by omega
      have hbad := Lib.hid (fun e h => dec_bad (e := e) hg hn h)
      have hmore := Lib.hid (fun l r h => dec_more (l := l) (r := r) hg hn h)
      have hlab := Lib.hid (fun l h => dec_label (l := l) hg hn h)
      have hgood := Lib.hid (fun l h => dec_ok (l := l) hg hn h)
      obtain ⟨i0, z0, hi, hz0, hz1, hz2, -⟩ := typPr.info
      replace hz1 : i0.size = 2 := hz1
      clear hg hn
      go_enter Try.func19, Try.ntmps19
      go_wp2_with fail
      refine (HG.out _).mono ?_
      rintro e w2 ⟨rfl, hb2⟩
      have hu2 := Lib.hid (newOf hb2)
      clear HG hb2
      go_wp2_with fail
      refine (HK.out _).mono ?_
      rintro e w3 ⟨rfl, rfl⟩
      clear HK
      go_wp2_with (refine wpList_make_own _ rfl _ _ _ rfl 0 39 i0 _ 2 Try.underlying22 hi hz0 hz1 _ _ _ n rfl rfl rfl ?mk1 ?mk2 (Nat.zero_le _) ?_)
      case mk1 => rw [hz2]; omega
      case mk2 => unfold maxLen; omega
      intro w4 hrow hg4
      have hM : Hid (Own1 w w4 (.slice (some ⟨w3.heap.size, 0, none⟩) 0 n) []) := Lib.hid ⟨hrow, fun g hk => by
        have hk' : w3.heap.size = g := by simpa [Value.ownBlock] using hk
        have := hu2.out.size
        omega, Upon.grown hu2.out hg4 (fun g hk => by cases hk)⟩
      clear hrow hg4 hi hz0 hz1 hz2 hu2
      go_wp2_with fail
      go_loopw [5, 7, 27] (fun pv u ov wr => ∃ (j p : Nat) (l : List Pr), ov = .int .u64 (j : Int) ∧ pv = .int .i64 (p : Int) ∧ j ≤ n ∧ p ≤ s.size ∧ Hid (l.length = j) ∧ Hid (Sml l) ∧ Hid (Read n (sl.drop k) j l (sl.drop p)) ∧ Hid (Own1 w wr u l)) (fun _ _ ov _ => n - (intOf ov).toNat)
      case atStart => exact ⟨0, k, [], rfl, rfl, Nat.zero_le _, hks, Lib.hid rfl, Lib.hid (fun p hp => by simp at hp), Lib.hid (Read.start _ _), hM⟩
      case round =>
        clear hM
        obtain ⟨j, p, l, rfl, rfl, hj, hp, hlj, hsm, hrd, ho⟩ := hrel
        by_cases hlt : j < n
        · have HP1 := Lib.hid (fun w => HP.out p hp w)
          clear HP
          have hfew : l.length ≤ 8 := by have := hlj.out; omega
          obtain ⟨A7, c7, hu7, -, -⟩ := Rw.View.shape ho.out.1.view
          subst hu7
          go_wp2_with fail
          refine (HP1.out _).mono ?_
          rintro e w5 ⟨⟨a, b, q, x, r1, rfl, hcase⟩, hu5⟩
          have ho5 := Lib.hid ((ho.out.step hu5).step ((Upon.refl _ w5).alloc (.cells #[.string a, .string b] 39 (0, 0))))
          clear HP1 ho
          by_cases hx0 : x = 0
          · subst hx0
            obtain ⟨hq, t1, t2⟩ : p + q ≤ s.size ∧ txt 32 (sl.drop p) = (a, r1, 0) ∧ txt 64 r1 = (b, sl.drop (p + q), 0) := by
              rcases hcase with ⟨h, -⟩ | ⟨-, h⟩
              · exact absurd rfl h
              · exact h
            have hrd' := Lib.hid (hrd.out.step hlt t1 t2)
            have hlen1 := txt_left t1
            have hld : (sl.drop p).length ≤ sl.length := by rw [List.length_drop]; omega
            have hsm' := Lib.hid (hsm.out.snoc (txt_small t1 (by omega)) (txt_small t2 (by omega)))
            have hsum : wrap64 ((p : Int) + (q : Int)) = ((p + q : Nat) : Int) := by unfold wrap64; omega
            clear hcase t1 t2 hrd hsm hlen1 hld hbad hmore hlab hgood
            have hM := Lib.hid (ho5.out.1.new ((Upon.refl _ _).alloc (.cells #[.string a, .string b] 39 (0, 0))))
            have hO := Lib.hid (ho5.out.step ((Upon.refl _ _).alloc (.cells #[.string a, .string b] 39 (0, 0))))
            clear ho5
            have hX := Lib.hid (view_two w5 a b)
            go_wp2_with (at_builtin; refine Rw.wpList_append typPr rfl _ _ rfl _ _ l [(a, b)] All rfl rfl hM.out hX.out (by rw [List.length_singleton]; omega) (by rw [List.length_singleton]; omega) ?_)
            intro v' w6 hown hgr hbl
            have h6 := Lib.hid (hO.out.app hown hgr (hbl.imp id fun h => h.trans (by simp)))
            clear hM hO hX hown hgr hbl
            go_wp2_with fail
            go_roundw
            case rel => exact ⟨j + 1, p + q, _, by go_num, rfl, hlt, hq, Lib.hid (by rw [List.length_append, hlj.out]; rfl), hsm', hrd', h6⟩
            case measure => simp [intOf]; omega
          · have hD : Hid (dec sl = ([], x)) := Lib.hid (hbad.out x (by
              rcases hcase with ⟨h, h2⟩ | ⟨h, -⟩
              · rcases h2 with ⟨a', h2⟩ | ⟨a', b', r2, h2, h3⟩
                · exact hrd.out.bad1 hlt h2 h
                · exact hrd.out.bad2 hlt h2 h3 h
              · exact absurd h hx0) hx0)
            have dx : ((x : Int) != 0) = true := by rw [bne_iff_ne]; omega
            clear hcase hrd hsm hbad hmore hlab hgood hx0
            go_wp2_with fail
            go_ret2
            exact DecE.no hD.out rfl ho5.out.2.2
        · have hps := Lib.hid (hrd.out.last hlt)
          obtain ⟨A7, c7, hu7, -, -⟩ := Rw.View.shape ho.out.1.view
          subst hu7
          clear HP hrd
          by_cases hmr : p < s.size
          · have hD := Lib.hid (hmore.out _ _ hps.out (fun e => by
              have := congrArg List.length e
              rw [List.length_drop, List.length_nil] at this
              omega))
            clear hps hsm hbad hmore hlab hgood
            go_wp2_with fail
            go_ret2
            exact DecE.no hD.out rfl ho.out.2.2
          · have hnil : sl.drop p = [] := List.drop_eq_nil_of_le (by omega)
            replace hps : Hid (pairs n (sl.drop k) = (l, [], 0)) := Lib.hid (by rw [hps.out, hnil])
            replace hnil := Lib.hid hnil
            by_cases hok : Ok l
            · have HC := Lib.hid (check_ok _ _ _ l ho.out.1.view hsm.out hok)
              have hD := Lib.hid (hgood.out l hps.out hok)
              clear hps hsm hbad hmore hlab hgood hok
              go_wp2_with fail
              refine HC.out.mono ?_
              rintro e w7 ⟨rfl, hu7⟩
              have h7 := Lib.hid (ho.out.step hu7)
              clear HC ho hu7
              go_wp2_with fail
              go_ret2
              exact DecE.yes hD.out h7.out
            · have HC := Lib.hid (check_no _ _ _ l ho.out.1.view hsm.out hok)
              have hD := Lib.hid (hlab.out l hps.out hok)
              clear hps hsm hbad hmore hlab hgood hok
              go_wp2_with fail
              refine HC.out.mono ?_
              rintro e w7 ⟨rfl, hu7⟩
              have h7 := Lib.hid (ho.out.step hu7)
              clear HC ho hu7
              go_wp2_with fail
              go_ret2
              exact DecE.no hD.out rfl h7.out.2.2
  · have dx : ((x : Int) != 0) = true := by rw [bne_iff_ne]; omega
    have hD := Lib.hid (dec_num hg hx)
    clear hg HP hx
    go_enter Try.func19, Try.ntmps19
    go_wp2_with fail
    refine (HG.out _).mono ?_
    rintro e w2 ⟨rfl, hb2⟩
    have hu2 := Lib.hid (newOf hb2)
    clear HG hb2
    go_wp2_with fail
    go_ret2
    exact DecE.no hD.out rfl hu2.out
theorem decode_any (w : World) (s : ByteArray) (hs : s.size ≤ 140737488355328) :
    Calls Try.prog 19 #[.string s] w fun e w' => ∃ v, e = .returned (.tuple #[v, .int .i64 ((dec s.data.toList).2 : Int)]) ∧ View w' All v (dec s.data.toList).1 ∧ New0 w w' := decode_e w s hs
end Lb
end Go.Proofs.Ytoamgmbpainpjaa
