/- Layer 9: the law ChunkBack. -/
import Derived.Test.YtadlkfdjdjaakaaDoorCkLaw1
set_option maxRecDepth 100000
namespace Go.Proofs.YtadlkfdjdjaakaaDoor
open Go.RowKit Go.Sort
namespace Ck
open Bit Dsk Ob Dig
set_option linter.unusedVariables false

/-- append([]api.Point{}, v...): a copy. -/
theorem wpList_copy_pts {w : World} {ops : Array Oper} {rest : List Oper} {o : Oper} {a : Act} {Q : Exit → Act → World → Prop} (hgd : o.guard = none) (sl x : Operand)
    (ho : o.op = .call { callee := .builtin .append, args := #[sl, x], argTypes := #[22, 22] })
    (v : Value) (l : List Pt) (S : Nat → Prop) (hs : a.eval sl = .slice (some ⟨w.heap.size, 0, none⟩) 0 0) (hx : a.eval x = v) (hv : View w S v l) (hlen : l.length * 16 ≤ 140737488355328)
    (hK : ∀ A c w', View w' All (.slice A l.length c) l → l.length ≤ c → New0 w w' → wpList Tryd.prog ops Q rest (a.put o.dst (.slice A l.length c)) w') :
    wpList Tryd.prog ops Q (o :: rest) a (w.alloc (.cells #[] 36 (0, 0))) := by
  refine wpList_append_pts hgd sl x ho _ v [] l S hs hx (OwnPts.empty (cell_new w _)) (hv.new ((Upon.refl _ w).alloc _)) (by rw [List.length_nil]; omega) fun v' w' hown hg hb => ?_
  have hvw := hown.view.all
  obtain ⟨A, c, rfl, hc, -⟩ := hvw.shape
  refine hK A c w' hvw hc (Upon.grown ((Upon.refl (fun _ => False) w).alloc _) hg fun k hk => .inr ?_)
  have hk' : w.heap.size = k := by simpa [Value.ownBlock] using hk
  omega
theorem enc_cases (l : List Pt) : (∃ bs, enc l = (bs, 0) ∧ bs.length ≤ 2000) ∨ ∃ k : Nat, enc l = ([], k) ∧ k ≠ 0 ∧ k < 100 := by
  by_cases h : l.length < 1 ∨ 64 < l.length
  · exact .inr ⟨2, enc_range h, by decide, by decide⟩
  · by_cases hr : Rises l l.length
    · exact .inl ⟨_, enc_ok (by omega) (by omega) hr, code_size (by omega)⟩
    · exact .inr ⟨9, enc_order (by omega) (by omega) hr, by decide, by decide⟩
theorem same_bytes (s : ByteArray) : (⟨s.data.toList.toArray⟩ : ByteArray) = s := by
  apply ByteArray.ext; simp
theorem encR_yes {l : List Pt} {bs : List UInt8} (h : enc l = (bs, 0)) : encR l = .returned (.tuple #[.string ⟨bs.toArray⟩, .int .i64 0]) := by unfold encR; rw [h]; rfl
theorem encR_no {l : List Pt} {k : Nat} (h : enc l = ([], k)) : encR l = .returned (.tuple #[.string ⟨#[]⟩, .int .i64 (k : Int)]) := by unfold encR; rw [h]
/-- The law's last part: what is read of any bytes. -/
def Fin (w : World) (e : Ending) (w' : World) : Prop := e = .returned (.bool true) ∧ New0 w w'
set_option maxHeartbeats 6400000 in
theorem back_new (w : World) (v : Value) (s : ByteArray) (hv : IsPts v w) (hs : s.size ≤ 140737488351232) (hT : Tab w) :
    Calls Tryd.prog 4 #[v, .string s] w (Fin w) := by
  obtain ⟨l, hv, hin⟩ := hv
  have HW := Lib.hid (works_true w hT)
  replace hT := Lib.hid hT
  have hvh := Lib.hid hv
  obtain ⟨A, c, rfl, hc1, hc2, -⟩ := hv
  replace hin := Lib.hid hin
  have HD6 := Lib.hid (fun w hT => decode_any w s (by omega) hT)
  by_cases h5 : 500 < l.length
  · go_enter Tryd.func4, Tryd.ntmps4
    have d5 : decide ((500 : Int) < (l.length : Int)) = true := decide_eq_true (by omega)
    go_wp2_with fail
    refine HW.out.mono ?_
    rintro e w2 ⟨rfl, hu2⟩
    replace hu2 := Lib.hid hu2
    clear HW
    go_wp2_with fail
    go_ret
    exact ⟨rfl, hu2.out⟩
  · have d5 : decide ((500 : Int) < (l.length : Int)) = false := decide_eq_false (by omega)
    by_cases h3 : 3000 < s.size
    · have d3 : decide ((3000 : Int) < (s.size : Int)) = true := decide_eq_true (by omega)
      go_enter Tryd.func4, Tryd.ntmps4
      go_wp2_with fail
      refine HW.out.mono ?_
      rintro e w2 ⟨rfl, hu2⟩
      replace hu2 := Lib.hid hu2
      clear HW
      go_wp2_with fail
      go_ret
      exact ⟨rfl, hu2.out⟩
    · have d3 : decide ((3000 : Int) < (s.size : Int)) = false := decide_eq_false (by omega)
      go_enter Tryd.func4, Tryd.ntmps4
      go_wp2_with fail
      refine HW.out.mono ?_
      rintro e w2 ⟨rfl, hu2⟩
      have hv2 := hvh.out.new hu2
      replace hu2 := Lib.hid hu2
      clear HW
      go_wp2_with (at_builtin; refine wpList_copy_pts rfl _ _ rfl _ l All rfl rfl hv2 (by omega) ?_)
      intro A2 c2 w3 hv3 hc3 hu3
      have hu3' := Lib.hid (hu2.out.trans hu3)
      have HE := encode_any w3 All _ l hv3 hin.out (hT.out.new hu3'.out)
      have hv3' := Lib.hid (hvh.out.new hu3'.out)
      clear hv2 hv3 hu3 hu2
      rcases enc_cases l with ⟨bs, he, hbl⟩ | ⟨k, he, hk0, hk1⟩
      · rw [encR_yes he] at HE
        replace HE := Lib.hid HE
        have hsz : (⟨bs.toArray⟩ : ByteArray).size ≤ 140737488355328 := by
          show bs.toArray.size ≤ _; rw [List.size_toArray]; omega
        have hback := Lib.hid (fun l' e (h : Dec (⟨bs.toArray⟩ : ByteArray).data.toList l' e) => Dec.back h hin.out (show enc l = ((⟨bs.toArray⟩ : ByteArray).data.toList, 0) from he))
        have HD := Lib.hid (fun w hT => decode_any w ⟨bs.toArray⟩ hsz hT)
        clear he hbl hsz
        generalize (⟨bs.toArray⟩ : ByteArray) = t at *
        go_wp2_with fail
        refine HE.out.mono ?_
        rintro e w4 ⟨rfl, hu4⟩
        have hu4' := Lib.hid (hu3'.out.trans hu4)
        have hv4 := Lib.hid (hv3'.out.new hu4)
        clear HE hu4 hu3' hv3'
        go_wp2_with fail
        refine (HD.out _ (hT.out.new hu4'.out)).mono ?_
        rintro e w5 ⟨x, l', f, rfl, hdec, hx5, hu5⟩
        obtain ⟨rfl, rfl⟩ := hback.out _ _ hdec
        have hu5' := Lib.hid (hu4'.out.trans hu5)
        have HS := Lib.hid ((same_any w5 All All _ _ l' l' hx5 (hv4.out.new hu5)).mono (R' := fun e w' => e = .returned (.bool true) ∧ ∃ n, w' = w5.drewN n) fun e w' ⟨he, hw⟩ => ⟨by rw [he]; simp, hw⟩)
        clear HD hback hu4' hv4 hu5 hdec hx5
        go_wp2_with fail
        refine HS.out.mono ?_
        rintro e w6 ⟨rfl, nq, rfl⟩
        have hw : Hid (New0 w (w5.drewN nq)) := Lib.hid (hu5'.out.trans (upon_drewN _ w5 nq))
        clear HS hu5'
        go_wp2_with fail
        refine (HD6.out _ (hT.out.new hw.out)).mono ?_
        rintro e w6 ⟨x6, l6, f6, rfl, hdec6, hx6, hu6⟩
        have hw6 := Lib.hid (hw.out.trans hu6)
        clear hu6 hw HD6
        rcases hdec6 with ⟨hf, he6, hin6⟩ | ⟨hf, hf2, hl6, -⟩
        · subst hf
          have HE6 := encode_any w6 All x6 l6 hx6 hin6 (hT.out.new hw6.out)
          rw [encR_yes he6, same_bytes s] at HE6
          replace HE6 := Lib.hid HE6
          clear he6 hin6 hx6 hT
          go_wp2_with fail
          refine HE6.out.mono ?_
          rintro e w7 ⟨rfl, hu7⟩
          have hw7 := Lib.hid (hw6.out.trans hu7)
          clear HE6 hu7 hw6
          go_wp2_with fail
          go_ret
          exact ⟨rfl, hw7.out⟩
        · subst hl6
          have df : ((f6 : Int) != 0) = true := by rw [bne_iff_ne]; omega
          obtain ⟨A6, c6, rfl, -, -⟩ := hx6.shape
          clear hx6 hT
          go_wp2_with fail
          go_ret
          exact ⟨rfl, hw6.out⟩
      · rw [encR_no he] at HE
        replace HE := Lib.hid HE
        have dk : ((k : Int) == 0) = false := by rw [beq_eq_false_iff_ne]; omega
        clear he
        go_wp2_with fail
        refine HE.out.mono ?_
        rintro e w4 ⟨rfl, hu4⟩
        have hw : Hid (New0 w w4) := Lib.hid (hu3'.out.trans hu4)
        clear HE hu4 hu3' hv3' hvh
        go_wp2_with fail
        refine (HD6.out _ (hT.out.new hw.out)).mono ?_
        rintro e w6 ⟨x6, l6, f6, rfl, hdec6, hx6, hu6⟩
        have hw6 := Lib.hid (hw.out.trans hu6)
        clear hu6 hw HD6
        rcases hdec6 with ⟨hf, he6, hin6⟩ | ⟨hf, hf2, hl6, -⟩
        · subst hf
          have HE6 := encode_any w6 All x6 l6 hx6 hin6 (hT.out.new hw6.out)
          rw [encR_yes he6, same_bytes s] at HE6
          replace HE6 := Lib.hid HE6
          clear he6 hin6 hx6 hT
          go_wp2_with fail
          refine HE6.out.mono ?_
          rintro e w7 ⟨rfl, hu7⟩
          have hw7 := Lib.hid (hw6.out.trans hu7)
          clear HE6 hu7 hw6
          go_wp2_with fail
          go_ret
          exact ⟨rfl, hw7.out⟩
        · subst hl6
          have df : ((f6 : Int) != 0) = true := by rw [bne_iff_ne]; omega
          obtain ⟨A6, c6, rfl, -, -⟩ := hx6.shape
          clear hx6 hT
          go_wp2_with fail
          go_ret
          exact ⟨rfl, hw6.out⟩
end Ck
end Go.Proofs.YtadlkfdjdjaakaaDoor
