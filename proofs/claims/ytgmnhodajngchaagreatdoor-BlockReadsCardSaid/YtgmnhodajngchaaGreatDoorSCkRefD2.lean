/- Parts: BkBlk, CkRefD, CkRefD2. -/
import Derived.Test.YtgmnhodajngchaaGreatDoorSBkAllD
import Derived.Test.YtgmnhodajngchaaGreatDoorSBkPts
import Derived.Test.YtgmnhodajngchaaGreatDoorSPHeld
set_option maxRecDepth 100000
set_option linter.unusedSimpArgs false
set_option linter.unusedVariables false
namespace Go.Proofs.YtgmnhodajngchaaGreatDoor
section
open Go.RowKit Go.Sort
namespace Bk
open Bit Dsk Ob Dig
theorem ok_bnd {ls : List Lb.Pr} (ho : Lb.Ok ls) : Lb.Sml ls /\ ls.length * 32 <= 140737488351232 := by
 have hf := ho.few
 exact ⟨fun p hp => by have := ho.good.small p hp; omega, by omega⟩
theorem flat_few : ∀ (l : List (List Pt)), l.length <= (l.flatMap partL).length
 | [] => Nat.zero_le _
 | p :: l => by
  have := flat_few l
  rw [List.flatMap_cons, List.length_append, partL, txtL, List.length_append, numL_length, List.length_cons]
  omega
theorem pts_few (r : Row) : r.pts.length <= 64 * (rowL r).length := by
 have h1 := flat_few (parts r.pts)
 rw [parts_len] at h1
 unfold rowL
 rw [List.length_append, List.length_append]
 unfold Ck.nparts at h1
 omega
theorem rbnd_del {r : Rc.R} (h : DelOk r) (h3 : Rc.Rng r) : Hd.RBnd r := by
 refine ⟨Rc.bnd_of h.2 h3, ?_⟩
 rcases Rc.chk_zero.1 h.2 with hc | hd
 ·exact absurd (hc.kind ▸ h.1) (by decide)
 ·rw [hd.smp]
  have := (Mt.chk_zero.1 hd.ms).1
  exact ⟨by simp, by omega⟩
theorem St.bnd {s0 r : List UInt8} {b : B} {n m : Nat} (h : St s0 b n m r) (hs : s0.length <= 1000000000) : Bnd b := by
 have h1 := h.size.1
 have h2 := h.lo
 refine ⟨⟨by omega, by omega⟩, ⟨by omega, by omega⟩, fun r hr => (ok_bnd (h.rows r hr).1.lab).1, fun r hr => (h.rows r hr).1.inn, fun r hr => ⟨(ok_bnd (h.rows r hr).1.lab).2, ?_⟩, fun r hr => rbnd_del (h.dels r hr).1 (h.dels r hr).2, by omega, by omega⟩
 have h3 := pts_few r
 have h4 := (h.rows r hr).2
 omega
def GotB (w : World) (sl : List UInt8) (e : Ending) (w' : World) : Prop := ∃ (f t : Int) (r d : Rw.Sl) (ok : Bool), e = .returned (.tuple #[.agg #[.int .i64 f, .int .i64 t, .slice r.a r.n r.c, .slice d.a d.n d.c], .bool ok]) /\ New0 w w' /\ (ok = false -> Not sl) /\
 (ok = true -> ∃ b : B, BView w' (fun x => w.heap.size <= x) (.agg #[.int .i64 f, .int .i64 t, .slice r.a r.n r.c, .slice d.a d.n d.c]) b /\ Bnd b /\ (chk b = 0 -> Dec sl b 0) /\ (chk b ≠ 0 -> Not sl))
theorem GotB.no {w w' : World} {sl : List UInt8} (h : Not sl) (hu : New0 w w') : GotB w sl (.returned (.tuple #[.agg #[.int .i64 0, .int .i64 0, .slice none 0 0, .slice none 0 0], .bool false])) w' :=
 ⟨0, 0, ⟨none, 0, 0⟩, ⟨none, 0, 0⟩, false, rfl, hu, fun _ => h, fun h => by cases h⟩
theorem end_bytes (b : B) (s : ByteArray) : s.data.toList = Frm.allA [endF (Frm.allA (frs b))] ↔ s = Frm.putA 5 (Frm.sumB (Crc.more 0 (Frm.allA (frs b)))) := by
 have e : Frm.allA [endF (Frm.allA (frs b))] = (Frm.putA 5 (Frm.sumB (Crc.more 0 (Frm.allA (frs b))))).data.toList := by
  simp [Frm.allA, endF]
 rw [e]
 exact ⟨fun h => Frm.bytes_ext h, fun h => by rw [h]⟩
set_option maxHeartbeats 12800000 in
theorem pblock_any (w : World) (s : ByteArray) (hs : s.size <= 1000000000) (hT : TabA w) :
  Calls Tryz.prog 21 #[.string s] w (GotB w s.data.toList) := by
 have hmf : ∀ (fn : Fn) (first cap : Array Value) (w : World), (Instr.makeFunc fn first cap).run Tryz.prog w = .ok (.func fn first cap) w := fun _ _ _ _ => rfl
 have eg := at_next
 obtain ⟨wA, hwA⟩ : ∃ wA, w.alloc (.cells #[.int .i64 0, .int .i64 0, .slice none 0 0, .slice none 0 0] 25 (0, 0)) = wA := ⟨_, rfl⟩
 have hres0 : Quad 25 w.heap.size ⟨.int .i64 0, .int .i64 0, .slice none 0 0, .slice none 0 0⟩ wA := by rw [<- hwA]; exact cell_new w _
 have hN0 : New0 w wA := by rw [<- hwA]; exact (Upon.refl _ w).alloc _
 have hsz : wA.heap.size = w.heap.size + 1 := by rw [<- hwA]; simp
 obtain ⟨gr, hgr⟩ : ∃ gr, wA.heap.size = gr := ⟨_, rfl⟩
 obtain ⟨wB, hwB⟩ : ∃ wB, wA.alloc (.cells #[.string s] 9 (0, 0)) = wB := ⟨_, rfl⟩
 have hL0 : Left gr s wB := by rw [<- hwB, <- hgr]; exact Left.made wA s
 have hN1 : New0 wA wB := by rw [<- hwB]; exact (Upon.refl _ wA).alloc _
 have hres := Lib.hid (hres0.new hN1)
 have hNB := Lib.hid (hN0.trans hN1)
 have hsB : wB.heap.size = gr + 1 := by rw [<- hwB, <- hgr]; simp
 have hgw : gr = w.heap.size + 1 := by rw [<- hgr, hsz]
 have hT' := Lib.hid (fun w' (hu : New0 w w') => hT.new hu)
 have hw : Hid ((w.alloc (.cells #[.int .i64 0, .int .i64 0, .slice none 0 0, .slice none 0 0] 25 (0, 0))).alloc (.cells #[.string s] 9 (0, 0)) = wB) := Lib.hid (by rw [hwA, hwB])
 have hr1 : Hid (w.heap.size + 1 = gr) := Lib.hid hgw.symm
 have hgw1 : w.heap.size < gr := by omega
 have hsB1 : gr < wB.heap.size := by omega
 have HN := next_any gr 2 s (by omega) wB (hT'.out _ hNB.out).s hL0
 unfold NxtE at HN
 have hF0 := Frm.gotF_ok s
 have hrl := rest_list s (Frm.gotF s).size
 obtain ⟨sl, hsl⟩ : ∃ sl, s.data.toList = sl := ⟨_, rfl⟩
 have hno := Lib.hid (head_no (s := s) hsl)
 have hbad := Lib.hid (head_bad (s := s) hsl)
 have hsta := Lib.hid (fun e1 e2 f t n m (h4 : Four _ f t n m) h5 h6 => St.start (s := s) hsl e1 e2 h4 h5 h6)
 obtain ⟨⟨K, D, z, x⟩, hG⟩ : ∃ G, Frm.gotF s = G := ⟨_, rfl⟩
 rw [hG] at hF0 hrl HN
 simp only [hG] at hno hbad hsta
 simp only at hF0 hrl HN
 have hss : sl.length = s.size := by rw [<- hsl, Frm.size_list]
 rw [hsl]
 clear hT hwA hwB hres0 hN0 hN1 hsz hgr hL0 hG hgw hsB
 replace HN := Lib.hid HN
 go_enter Tryz.func21, Tryz.ntmps21
 go_wp2_with fail
 rw [hr1.out, hw.out]
 clear hw hr1
 by_cases hx : x = 0 /\ K = 2
 ·obtain ⟨rfl, rfl⟩ := hx
  have hok : decide ((0 : Nat) = 0 /\ (2 : Nat) = 2) = true := rfl
  have HN' := HN.out
  rw [hok] at HN'
  have hDz : D.size <= 65536 := (hF0 rfl).2.2.2
  have HH := Lib.hid (fun w' => pgethead_any w' D hDz)
  replace HN' := Lib.hid HN'
  clear HN hno
  refine HN'.out.mono ?_
  rintro e w2 ⟨rfl, hL2, hu2⟩
  have hn2 : Hid (New0 w w2) := Lib.hid (hNB.out.trans' hu2 (fun i hi e => by omega))
  have hres2 := Lib.hid (hres.out.upon hu2 (fun e => by omega))
  have hs2 := hu2.size
  have HH2 := Lib.hid (HH.out w2)
  replace hL2 := Lib.hid hL2
  clear HN' HH hu2 hres
  go_wp2_with fail
  refine HH2.out.mono ?_
  rintro e w3 ⟨f, t, n, m, b, rfl, hu3, hb1, hb2⟩
  have hNB2 := hn2
  have hNB := hn2
  have hres := hres2
  cases b with
  | false =>
   have hD : Hid (Not sl) := Lib.hid (hbad.out (hb1 rfl))
   have hn3 := Lib.hid (hu3.alloc (.cells #[.int .i64 (f : Int), .int .i64 (t : Int), .slice none 0 0, .slice none 0 0] 25 (0, 0)))
   clear HH2 hb1 hb2 hbad hsta hu3
   have hF := hres.out.new hn3.out
   obtain ⟨g0, g1, g2, g3⟩ := hF.cells
   have z0 := hF.frozen 0
   obtain ⟨⟨p1, q1⟩, ⟨p2, q2⟩, ⟨p3, q3⟩⟩ := hF.roads ⟨.int .i64 0, .int .i64 0, .slice none 0 0, .slice none 0 0⟩
   have hN := hNB.out.trans hn3.out
   obtain ⟨wz, hwz⟩ : ∃ wz, (((((w3.alloc (.cells #[.int .i64 (f : Int), .int .i64 (t : Int), .slice none 0 0, .slice none 0 0] 25 (0, 0))).setCell ⟨w.heap.size, 0, none⟩ (.int .i64 0)).setCell ⟨w.heap.size, 1, none⟩ (.int .i64 0)).setCell ⟨w.heap.size, 2, none⟩ (.slice none 0 0)).setCell ⟨w.heap.size, 3, none⟩ (.slice none 0 0)) = wz := ⟨_, rfl⟩
   have hFz := (hF.setAll ⟨.int .i64 0, .int .i64 0, .slice none 0 0, .slice none 0 0⟩).cells
   unfold setQuad at hFz
   simp only at hFz
   rw [hwz] at hFz
   replace hFz := Lib.hid hFz
   have hNz : Hid (New0 w wz) := Lib.hid (by rw [<- hwz]; exact upon_setQuad hN (.inr (Nat.le_refl _)) ⟨.int .i64 0, .int .i64 0, .slice none 0 0, .slice none 0 0⟩)
   have hwz' : Hid ((((((w3.alloc (.cells #[.int .i64 (f : Int), .int .i64 (t : Int), .slice none 0 0, .slice none 0 0] 25 (0, 0))).setCell ⟨w.heap.size, 0, none⟩ (.int .i64 0)).setCell ⟨w.heap.size, 1, none⟩ (.int .i64 0)).setCell ⟨w.heap.size, 2, none⟩ (.slice none 0 0)).setCell ⟨w.heap.size, 3, none⟩ (.slice none 0 0)) = wz) := Lib.hid hwz
   clear hwz hF hN 
   go_wp2_with fail
   rw [hwz'.out]
   obtain ⟨r0, r1, r2, r3⟩ := hFz.out
   clear g0 g1 g2 g3 z0 p1 q1 p2 q2 p3 q3
   refine bodyPost_ret (v := .tuple #[.agg #[.int .i64 0, .int .i64 0, .slice none 0 0, .slice none 0 0], .bool false]) (by simp [results, Tryz.results21, go_sem, r0, r1, r2, r3]) rfl ?_
   exact GotB.no hD.out hNz.out
  | true =>
   obtain ⟨h4, hf9, ht9⟩ := hb2 rfl
   have hst0 := hsta.out (by first | trivial | rfl) (by first | trivial | rfl) f t n m h4 hf9 ht9
   rw [<- hsl, <- hrl] at hst0
   rw [hsl] at hst0
   obtain ⟨-, -, -, hn64, hm64⟩ := four_back h4
   obtain ⟨gb, hgb⟩ : ∃ gb, w3.heap.size = gb := ⟨_, rfl⟩
   obtain ⟨wb, hwb⟩ : ∃ wb, w3.alloc (.cells #[.int .i64 (f : Int), .int .i64 (t : Int), .slice none 0 0, .slice none 0 0] 25 (0, 0)) = wb := ⟨_, rfl⟩
   have hq : Hid (Quad 25 gb ⟨.int .i64 (f : Int), .int .i64 (t : Int), .slice none 0 0, .slice none 0 0⟩ wb) := Lib.hid (by rw [<- hwb, <- hgb]; exact cell_new w3 _)
   have hsb : gb < wb.heap.size := by rw [<- hwb, <- hgb]; simp
   have hub : New0 w2 wb := by rw [<- hwb]; exact hu3.alloc _
   have hge : gr < gb := by have := hu3.size; omega
   have hLb := hL2.out.new hub
   have hTb := hT'.out _ (hn2.out.trans hub)
   have HA := Lib.hid (pallR w wb (hT'.out _ (Upon.refl _ _)) (hn2.out.trans hub) gr wb.heap.size (by omega) (by omega) (Nat.le_refl _) sl (by omega) (f : Int) (t : Int) n m hn64 hm64 _ hLb hst0)
   have HD2 := Lib.hid (fun w' (hn : New0 w w') (hsz : wb.heap.size <= w'.heap.size) (u : Value) (rs : List RB) (l : List Row) (hl : l.length = n) (rest : ByteArray) hL hS hB => pallD w w' (hT'.out _ (Upon.refl _ _)) hn gr wb.heap.size (by omega) (by omega) hsz sl (by omega) (f : Int) (t : Int) n m hn64 hm64 u rs l hl rest hL hS hB)
   have hresb := Lib.hid (hres2.out.new hub)
   have hnb := Lib.hid (hn2.out.trans hub)
   replace hwb := Lib.hid hwb
   replace hgb := Lib.hid hgb
   clear HH2 hb1 hb2 hbad hsta hst0 h4 hLb hTb hu3 hub hL2 hres2 hNB2 hNB hres
   go_wp2_with fail
   rw [hgb.out, hwb.out]
   clear hgb hwb
   refine HA.out.mono ?_
   rintro e w4 ⟨v, ok, rfl, hU4, hno4, hyes4⟩
   have hq4 := hq.out.upon hU4 (fun e => by omega)
   obtain ⟨k0, k1, k2, k3⟩ := hq4.cells
   have kf := hq4.frozen 2
   have hres4 := hresb.out.upon hU4 (fun e => by omega)
   have hn4 := hnb.out.trans' hU4 (fun i hi e => by omega)
   have hq5 := Lib.hid (hq4.set2 v)
   have us : Upon (fun x => x = gb) w4 (w4.setCell ⟨gb, 2, none⟩ v) := Upon.setCell (S := fun x => x = gb) (p := ⟨gb, 2, none⟩) (Upon.refl _ w4) (.inl rfl) _
   have hres5 := Lib.hid (hres4.upon us (fun e => by omega))
   have hn5 := Lib.hid (hn4.trans' us (fun i hi e => by omega))
   have hU5 := Nat.le_trans hU4.size us.size
   cases ok with
   | false =>
    obtain ⟨rfl, hnn⟩ := hno4 rfl
    have hD : Hid (Not sl) := Lib.hid hnn
    have hNB := hn5
    have hres := hres5
    have hn0 : Hid (New0 (w4.setCell ⟨gb, 2, none⟩ (.slice none 0 0)) (w4.setCell ⟨gb, 2, none⟩ (.slice none 0 0))) := Lib.hid (Upon.refl _ _)
    clear HA HD2 hno4 hyes4 hnn hq hq4 hU4 hres4 hn4 us hq5 hU5 hresb hnb
    have hF := hres.out.new hn0.out
    obtain ⟨g0, g1, g2, g3⟩ := hF.cells
    have z0 := hF.frozen 0
    obtain ⟨⟨p1, q1⟩, ⟨p2, q2⟩, ⟨p3, q3⟩⟩ := hF.roads ⟨.int .i64 0, .int .i64 0, .slice none 0 0, .slice none 0 0⟩
    have hN := hNB.out.trans hn0.out
    obtain ⟨wz, hwz⟩ : ∃ wz, (((((w4.setCell ⟨gb, 2, none⟩ (.slice none 0 0)).setCell ⟨w.heap.size, 0, none⟩ (.int .i64 0)).setCell ⟨w.heap.size, 1, none⟩ (.int .i64 0)).setCell ⟨w.heap.size, 2, none⟩ (.slice none 0 0)).setCell ⟨w.heap.size, 3, none⟩ (.slice none 0 0)) = wz := ⟨_, rfl⟩
    have hFz := (hF.setAll ⟨.int .i64 0, .int .i64 0, .slice none 0 0, .slice none 0 0⟩).cells
    unfold setQuad at hFz
    simp only at hFz
    rw [hwz] at hFz
    replace hFz := Lib.hid hFz
    have hNz : Hid (New0 w wz) := Lib.hid (by rw [<- hwz]; exact upon_setQuad hN (.inr (Nat.le_refl _)) ⟨.int .i64 0, .int .i64 0, .slice none 0 0, .slice none 0 0⟩)
    have hwz' : Hid ((((((w4.setCell ⟨gb, 2, none⟩ (.slice none 0 0)).setCell ⟨w.heap.size, 0, none⟩ (.int .i64 0)).setCell ⟨w.heap.size, 1, none⟩ (.int .i64 0)).setCell ⟨w.heap.size, 2, none⟩ (.slice none 0 0)).setCell ⟨w.heap.size, 3, none⟩ (.slice none 0 0)) = wz) := Lib.hid hwz
    clear hwz hF hN 
    go_wp2_with fail
    rw [hwz'.out]
    obtain ⟨r0, r1, r2, r3⟩ := hFz.out
    clear g0 g1 g2 g3 z0 p1 q1 p2 q2 p3 q3
    refine bodyPost_ret (v := .tuple #[.agg #[.int .i64 0, .int .i64 0, .slice none 0 0, .slice none 0 0], .bool false]) (by simp [results, Tryz.results21, go_sem, r0, r1, r2, r3]) rfl ?_
    exact GotB.no hD.out hNz.out
   | true =>
    obtain ⟨rs, l, rest, hl, hst4, hL4, hB4⟩ := hyes4 rfl
    obtain ⟨Au, cu, rfl, -, -⟩ := hB4.row.view.shape
    have hB5 := hB4.step us (fun b h1 e => by omega)
    have hL5 := hL4.upon us (fun e => by omega)
    obtain ⟨w5, hw5⟩ : ∃ w5, w4.setCell ⟨gb, 2, none⟩ (.slice Au rs.length cu) = w5 := ⟨_, rfl⟩
    rw [hw5] at hB5 hL5 hq5 hres5 hn5 hU5
    have HA5 := Lib.hid (HD2.out w5 hn5.out hU5 (.slice Au rs.length cu) rs l hl rest hL5 hst4 hB5)
    replace hw5 := Lib.hid hw5
    clear HA hno4 hyes4 hq hq4 hU4 hres4 hn4 us hresb hnb hB4 hL4 HD2 hst4 hB5 hL5
    go_wp2_with fail
    rw [hw5.out]
    refine HA5.out.mono ?_
    rintro e w6 ⟨v, ok, rfl, hU6, hno6, hyes6⟩
    have hq6 := hq5.out.upon hU6 (fun e => by omega)
    clear k0 k1 k2 k3 kf hw5
    obtain ⟨k0, k1, k2, k3⟩ := hq6.cells
    have kf := hq6.frozen 3
    have hres6 := hres5.out.upon hU6 (fun e => by omega)
    have hn6 := hn5.out.trans' hU6 (fun i hi e => by omega)
    have hq7 := Lib.hid (hq6.set3 v)
    have us : Upon (fun x => x = gb) w6 (w6.setCell ⟨gb, 3, none⟩ v) := Upon.setCell (S := fun x => x = gb) (p := ⟨gb, 3, none⟩) (Upon.refl _ w6) (.inl rfl) _
    have hres7 := Lib.hid (hres6.upon us (fun e => by omega))
    have hn7 := Lib.hid (hn6.trans' us (fun i hi e => by omega))
    cases ok with
    | false =>
     obtain ⟨rfl, hnn⟩ := hno6 rfl
     have hD : Hid (Not sl) := Lib.hid hnn
     have hNB := hn7
     have hres := hres7
     have hn0 : Hid (New0 (w6.setCell ⟨gb, 3, none⟩ (.slice none 0 0)) (w6.setCell ⟨gb, 3, none⟩ (.slice none 0 0))) := Lib.hid (Upon.refl _ _)
     clear HA5 hno6 hyes6 hnn hq6 hU6 hres6 hn6 us hq5 hq7 hU5 hres5 hn5
     have hF := hres.out.new hn0.out
     obtain ⟨g0, g1, g2, g3⟩ := hF.cells
     have z0 := hF.frozen 0
     obtain ⟨⟨p1, q1⟩, ⟨p2, q2⟩, ⟨p3, q3⟩⟩ := hF.roads ⟨.int .i64 0, .int .i64 0, .slice none 0 0, .slice none 0 0⟩
     have hN := hNB.out.trans hn0.out
     obtain ⟨wz, hwz⟩ : ∃ wz, (((((w6.setCell ⟨gb, 3, none⟩ (.slice none 0 0)).setCell ⟨w.heap.size, 0, none⟩ (.int .i64 0)).setCell ⟨w.heap.size, 1, none⟩ (.int .i64 0)).setCell ⟨w.heap.size, 2, none⟩ (.slice none 0 0)).setCell ⟨w.heap.size, 3, none⟩ (.slice none 0 0)) = wz := ⟨_, rfl⟩
     have hFz := (hF.setAll ⟨.int .i64 0, .int .i64 0, .slice none 0 0, .slice none 0 0⟩).cells
     unfold setQuad at hFz
     simp only at hFz
     rw [hwz] at hFz
     replace hFz := Lib.hid hFz
     have hNz : Hid (New0 w wz) := Lib.hid (by rw [<- hwz]; exact upon_setQuad hN (.inr (Nat.le_refl _)) ⟨.int .i64 0, .int .i64 0, .slice none 0 0, .slice none 0 0⟩)
     have hwz' : Hid ((((((w6.setCell ⟨gb, 3, none⟩ (.slice none 0 0)).setCell ⟨w.heap.size, 0, none⟩ (.int .i64 0)).setCell ⟨w.heap.size, 1, none⟩ (.int .i64 0)).setCell ⟨w.heap.size, 2, none⟩ (.slice none 0 0)).setCell ⟨w.heap.size, 3, none⟩ (.slice none 0 0)) = wz) := Lib.hid hwz
     clear hwz hF hN 
     go_wp2_with fail
     rw [hwz'.out]
     obtain ⟨r0, r1, r2, r3⟩ := hFz.out
     clear g0 g1 g2 g3 z0 p1 q1 p2 q2 p3 q3
     refine bodyPost_ret (v := .tuple #[.agg #[.int .i64 0, .int .i64 0, .slice none 0 0, .slice none 0 0], .bool false]) (by simp [results, Tryz.results21, go_sem, r0, r1, r2, r3]) rfl ?_
     exact GotB.no hD.out hNz.out
    | true =>
     obtain ⟨ds, ms, rest', hm, hst6, hL6, hB6⟩ := hyes6 rfl
     obtain ⟨Ad, cd, rfl, -, -⟩ := hB6.del.view.shape
     have hB7 := hB6.step us (fun b h1 e => by omega)
     have hL7 := hL6.upon us (fun e => by omega)
     have hw7' := hB7.view
     obtain ⟨w7, hw7⟩ : ∃ w7, w6.setCell ⟨gb, 3, none⟩ (.slice Ad ds.length cd) = w7 := ⟨_, rfl⟩
     rw [hw7] at hB7 hL7 hq7 hres7 hn7 hw7'
     have hbnd := hst6.bnd (by omega)
     have hall := hst6.allIs hl hm
     have hrz := hst6.size.2
     rw [Frm.size_list] at hrz
     have htake : (s.extract 0 (s.size - rest'.size)).data.toList = Frm.allA (frs ⟨f, t, l, ms⟩) := by
      rw [Frm.extract_list, List.drop_zero, hsl, hall]
      rw [<- hss, hall, List.length_append, Frm.size_list, Nat.add_sub_cancel, List.take_left]
     obtain ⟨fr, hfr⟩ : ∃ fr, s.extract 0 (s.size - rest'.size) = fr := ⟨_, rfl⟩
     rw [hfr] at htake
     have hfz : fr.size <= 9223372036854775807 := by rw [<- hfr, ByteArray.size_extract]; omega
     have HE := Lib.hid (fun w' (hu : New0 w7 w') => pend_any fr hfz w' (hT'.out _ (hn7.out.trans hu)).s)
     have hbytes := end_bytes ⟨f, t, l, ms⟩ rest'
     rw [<- htake] at hbytes
     obtain ⟨E, hE⟩ : ∃ E, Frm.putA 5 (Frm.sumB (Crc.more 0 fr.data.toList)) = E := ⟨_, rfl⟩
     simp only [hE] at HE hbytes
     have hcs := Lib.hid (fun (hc : rest' = E) => And.intro (fun h0 => hst6.yes hl hm (by rw [<- htake]; exact hbytes.2 hc) h0) (fun h0 => hst6.chk_no hl hm h0))
     have hno9 := Lib.hid (fun (hc : rest' ≠ E) => hst6.end_no hl hm (fun h => hc (hbytes.1 (by rw [<- htake] at h; exact h))))
     have i1 : IntKind.i64.wrap ((s.size : Int) - (rest'.size : Int)) = ((s.size - rest'.size : Nat) : Int) := by rw [IntKind.wrap_i64]; omega
     have hview : Hid (BView w7 (fun x => wb.heap.size <= x) (.agg #[.int .i64 (f : Int), .int .i64 (t : Int), .slice Au rs.length cu, .slice Ad ds.length cd]) ⟨f, t, l, ms⟩) := Lib.hid ⟨⟨Au, rs.length, cu⟩, ⟨Ad, ds.length, cd⟩, rfl, hw7'.1, hw7'.2⟩
     have hkA := Lib.hid (fun w' (hu : Upon (fun x => x = w.heap.size) w7 w') => (show w'.cell? ⟨gb, 0, none⟩ = some (.int .i64 (f : Int)) /\ w'.cell? ⟨gb, 1, none⟩ = some (.int .i64 (t : Int)) /\ w'.cell? ⟨gb, 2, none⟩ = some (.slice Au rs.length cu) /\ w'.cell? ⟨gb, 3, none⟩ = some (.slice Ad ds.length cd) /\ w'.cell? ⟨gr, 0, none⟩ = some (.string rest') from (let ⟨a0, a1, a2, a3⟩ := (hq7.out.upon hu (fun e => by omega)).cells; ⟨a0, a1, a2, a3, (hL7.upon hu (fun e => by omega)).cell⟩)))
     have hkB := Lib.hid (fun w' (hu : New0 w7 w') => And.intro (hres7.out.new hu).cells (And.intro ((hres7.out.new hu).frozen 0) ((hres7.out.new hu).roads ⟨.int .i64 (f : Int), .int .i64 (t : Int), .slice Au rs.length cu, .slice Ad ds.length cd⟩)))
     have hkC := Lib.hid (fun w' (hu : New0 w7 w') => (show Upon (fun x => x = w.heap.size) w7 ((((w'.setCell ⟨w.heap.size, 0, none⟩ (.int .i64 (f : Int))).setCell ⟨w.heap.size, 1, none⟩ (.int .i64 (t : Int))).setCell ⟨w.heap.size, 2, none⟩ (.slice Au rs.length cu)).setCell ⟨w.heap.size, 3, none⟩ (.slice Ad ds.length cd)) from upon_setQuad (U := fun x => x = w.heap.size) (hu.mono fun _ _ f => f.elim) (.inl rfl) ⟨.int .i64 (f : Int), .int .i64 (t : Int), .slice Au rs.length cu, .slice Ad ds.length cd⟩))
     have hkD := Lib.hid (fun w' (hu : New0 w7 w') => (show Quad 25 w.heap.size ⟨.int .i64 (f : Int), .int .i64 (t : Int), .slice Au rs.length cu, .slice Ad ds.length cd⟩ ((((w'.setCell ⟨w.heap.size, 0, none⟩ (.int .i64 (f : Int))).setCell ⟨w.heap.size, 1, none⟩ (.int .i64 (t : Int))).setCell ⟨w.heap.size, 2, none⟩ (.slice Au rs.length cu)).setCell ⟨w.heap.size, 3, none⟩ (.slice Ad ds.length cd)) from (hres7.out.new hu).setAll ⟨.int .i64 (f : Int), .int .i64 (t : Int), .slice Au rs.length cu, .slice Ad ds.length cd⟩))
     have hpost : Hid (∀ w' ok, Upon (fun x => x = w.heap.size) w7 w' -> (ok = true -> rest' = E) -> (ok = false -> rest' ≠ E) -> GotB w sl (.returned (.tuple #[.agg #[.int .i64 (f : Int), .int .i64 (t : Int), .slice Au rs.length cu, .slice Ad ds.length cd], .bool ok])) w') := Lib.hid (fun w' ok hu h1 h2 => ⟨f, t, ⟨Au, rs.length, cu⟩, ⟨Ad, ds.length, cd⟩, ok, rfl, hn7.out.trans' hu (fun i hi e => by omega), fun h => hno9.out (h2 h), fun h => ⟨⟨f, t, l, ms⟩, (hview.out.upon hu (fun b hb e => by omega)).mono fun b _ hb => by omega, hbnd, (hcs.out (h1 h)).1, (hcs.out (h1 h)).2⟩⟩)
     have hsz7 : w.heap.size < wb.heap.size := by omega
     replace hw7 := Lib.hid hw7
     replace hfr := Lib.hid hfr
     clear HA5 hno6 hyes6 hq6 hU6 hres6 hn6 us hq5 hU5 hres5 hn5 hB6 hL6 hB7 hst6 hall hw7' htake hbytes hE hl hm
     go_wp2_with fail
     rw [hw7.out]
     by_cases hc : rest' = E
     ·have dq : (rest'.toList == E.toList) = true := by rw [hc]; exact beq_self_eq_true _
      replace hc := Lib.hid hc
      refine HeldS.wp_region_S 12 (S := fun w' => w'.cell? ⟨gb, 0, none⟩ = some (.int .i64 (f : Int)) /\ w'.cell? ⟨gb, 1, none⟩ = some (.int .i64 (t : Int)) /\ w'.cell? ⟨gb, 2, none⟩ = some (.slice Au rs.length cu) /\ w'.cell? ⟨gb, 3, none⟩ = some (.slice Ad ds.length cd) /\ w'.cell? ⟨gr, 0, none⟩ = some (.string rest')) (by kernel_rfl) (hkA.out _ (upon_drewN _ w7 1)) (fun hHeld => ?_)
      refine HeldS.wpAnyS_take (i := 0) [11] (oi := _) (v := ?_) rfl (by kernel_rfl) (by kernel_rfl) (by kernel_rfl) (by kernel_rfl) (by kernel_rfl) (fun _ _ _ h => h) (Or.inl ⟨by rfl, ?_⟩) (by assumption) ?_
      rotate_left
      ·(intro w hSw; (try dsimp only at hSw); go_simp; (try with_reducible rfl))
      (try simp only [Act.put, List.setIfInBounds_toArray, List.set_cons_zero, List.set_cons_succ])
      refine HeldS.wpAnyS_take (i := 1) [10] (oi := _) (v := ?_) rfl (by kernel_rfl) (by kernel_rfl) (by kernel_rfl) (by kernel_rfl) (by kernel_rfl) (fun _ _ _ h => h) (Or.inl ⟨by rfl, ?_⟩) (by assumption) ?_
      rotate_left
      ·(intro w hSw; (try dsimp only at hSw); go_simp; (try with_reducible rfl))
      (try simp only [Act.put, List.setIfInBounds_toArray, List.set_cons_zero, List.set_cons_succ])
      refine HeldS.wpAnyS_take (i := 2) [10, 9, 8] (oi := _) (v := ?_) rfl (by kernel_rfl) (by kernel_rfl) (by kernel_rfl) (by kernel_rfl) (by kernel_rfl) (fun _ _ _ h => h) (Or.inl ⟨by rfl, ?_⟩) (by assumption) ?_
      rotate_left
      ·(intro w hSw; (try dsimp only at hSw); go_simp; (try with_reducible rfl))
      (try simp only [Act.put, List.setIfInBounds_toArray, List.set_cons_zero, List.set_cons_succ])
      refine HeldS.wpAnyS_take (i := 3) [10, 9, 8, 7, 4] (oi := _) (v := ?_) rfl (by kernel_rfl) (by kernel_rfl) (by kernel_rfl) (by kernel_rfl) (by kernel_rfl) (fun _ _ _ h => h) (Or.inl ⟨by rfl, ?_⟩) (by assumption) ?_
      rotate_left
      ·(intro w hSw; (try dsimp only at hSw); go_simp; (try with_reducible rfl))
      (try simp only [Act.put, List.setIfInBounds_toArray, List.set_cons_zero, List.set_cons_succ])
      refine HeldS.wpAnyS_take (i := 4) [10, 9, 8, 7] (oi := _) (v := ?_) rfl (by kernel_rfl) (by kernel_rfl) (by kernel_rfl) (by kernel_rfl) (by kernel_rfl) (fun _ _ _ h => h) (Or.inl ⟨by rfl, ?_⟩) (by assumption) ?_
      rotate_left
      ·(intro w hSw; (try dsimp only at hSw); go_simp; (try with_reducible rfl))
      (try simp only [Act.put, List.setIfInBounds_toArray, List.set_cons_zero, List.set_cons_succ])
      refine HeldS.wpAnyS_take (i := 5) [10, 9, 8, 7, 6] (oi := _) (v := ?_) rfl (by kernel_rfl) (by kernel_rfl) (by kernel_rfl) (by kernel_rfl) (by kernel_rfl) (fun _ _ _ h => h) (Or.inl ⟨by rfl, ?_⟩) (by assumption) ?_
      rotate_left
      ·(intro w hSw; (try dsimp only at hSw); go_simp; (try with_reducible rfl))
      (try simp only [Act.put, List.setIfInBounds_toArray, List.set_cons_zero, List.set_cons_succ])
      refine HeldS.wpAnyS_take (i := 6) [10, 9, 8, 7] (oi := _) (v := ?_) rfl (by kernel_rfl) (by kernel_rfl) (by kernel_rfl) (by kernel_rfl) (by kernel_rfl) (fun _ _ _ h => h) (Or.inl ⟨by rfl, ?_⟩) (by assumption) ?_
      rotate_left
      ·(intro w hSw; (try dsimp only at hSw); go_simp; (try with_reducible rfl))
      (try simp only [Act.put, List.setIfInBounds_toArray, List.set_cons_zero, List.set_cons_succ])
      refine HeldS.wpAnyS_take (i := 7) [10, 9, 8] (oi := _) (v := ?_) rfl (by kernel_rfl) (by kernel_rfl) (by kernel_rfl) (by kernel_rfl) (by kernel_rfl) (fun _ _ _ h => h) (Or.inl ⟨by rfl, ?_⟩) (by assumption) ?_
      rotate_left
      ·(intro w hSw; (try dsimp only at hSw); go_simp; (try with_reducible rfl))
      (try simp only [Act.put, List.setIfInBounds_toArray, List.set_cons_zero, List.set_cons_succ])
      refine HeldS.wpAnyS_take (i := 8) [10, 9] (oi := _) (v := ?_) rfl (by kernel_rfl) (by kernel_rfl) (by kernel_rfl) (by kernel_rfl) (by kernel_rfl) (fun _ _ _ h => h) (Or.inl ⟨by rfl, ?_⟩) (by assumption) ?_
      rotate_left
      ·(intro w hSw; (try dsimp only at hSw); go_simp; (try with_reducible rfl))
      (try simp only [Act.put, List.setIfInBounds_toArray, List.set_cons_zero, List.set_cons_succ])
      refine HeldS.wpAnyS_ready (rs := [9]) (by kernel_rfl) (by simp) ?_
      refine HeldS.AllS.cons (o := ⟨some 60, _, _, _, _, _⟩) rfl (fun K hK => ?_) HeldS.AllS.nil
      go_simp
      try rw [hfr.out]
      go_at_call 35
      refine (HE.out _ (upon_drewN _ w7 1)).mono ?_
      rintro e wE ⟨rfl, hnE⟩
      have na : New0 w7 wE := (upon_drewN _ w7 1).trans hnE
      obtain ⟨⟨g0, g1, g2, g3⟩, z0, ⟨p1, q1⟩, ⟨p2, q2⟩, ⟨p3, q3⟩⟩ := hkB.out _ na
      have uz := hkC.out _ na
      have hQz := hkD.out _ na
      go_simp
      refine hK.out _ _ (hkA.out _ (na.mono fun _ _ f => f.elim)) (fun hHeld => ?_)
      clear hK K
      (try simp only [Act.put, List.setIfInBounds_toArray, List.set_cons_zero, List.set_cons_succ])
      refine HeldS.wpAnyS_take (i := 10) [] (oi := _) (v := ?_) rfl (by kernel_rfl) (by kernel_rfl) (by kernel_rfl) (by kernel_rfl) (by kernel_rfl) (fun _ _ _ h => h) (Or.inl ⟨by rfl, ?_⟩) (by assumption) ?_
      rotate_left
      ·(intro w hSw; (try dsimp only at hSw); go_simp; (try with_reducible rfl))
      (try simp only [Act.put, List.setIfInBounds_toArray, List.set_cons_zero, List.set_cons_succ])
      refine HeldS.wpAnyS_ready (rs := [11]) (by kernel_rfl) (by simp) ?_
      refine HeldS.AllS.cons (o := ⟨none, _, _, _, _, _⟩) rfl (fun K hK => ?_) HeldS.AllS.nil
      go_simp
      refine hK.out _ _ (hkA.out _ uz) (fun hHeld => ?_)
      clear hK K
      (try simp only [Act.put, List.setIfInBounds_toArray, List.set_cons_zero, List.set_cons_succ])
      refine HeldS.wpAnyS_ready (rs := [12]) (by kernel_rfl) (by simp) ?_
      refine HeldS.AllS.last (s := 12) (o := ⟨some 3, _, _, _, _, _⟩) rfl (fun K hK => ?_) HeldS.AllS.nil
      go_simp
      refine hK.out _ _ ?_
      clear hK K
      (try simp only [Act.put, List.setIfInBounds_toArray, List.set_cons_zero, List.set_cons_succ])
      refine HeldS.wpAnyS_done (by kernel_rfl) ?_ _
      obtain ⟨wz, hwz⟩ : ∃ wz, ((((wE.setCell ⟨w.heap.size, 0, none⟩ (.int .i64 (f : Int))).setCell ⟨w.heap.size, 1, none⟩ (.int .i64 (t : Int))).setCell ⟨w.heap.size, 2, none⟩ (.slice Au rs.length cu)).setCell ⟨w.heap.size, 3, none⟩ (.slice Ad ds.length cd)) = wz := ⟨_, rfl⟩
      rw [hwz] at uz hQz ⊢
      have hfin := Lib.hid (hpost.out wz true uz (fun _ => hc.out) (fun h => by cases h))
      replace hQz := Lib.hid hQz.cells
      clear g0 g1 g2 g3 z0 p1 q1 p2 q2 p3 q3 hwz hHeld uz na hnE hkA hkB hkC hkD HE hcs hno9 hpost hc dq hmf eg i1 hview
      simp only [Exit.then]
      refine ‹∀ (a : Act) (w : World), _ -> _› _ _ ?_
      apply wp_ret
      obtain ⟨r0, r1, r2, r3⟩ := hQz.out
      refine bodyPost_ret (v := .tuple #[.agg #[.int .i64 (f : Int), .int .i64 (t : Int), .slice Au rs.length cu, .slice Ad ds.length cd], .bool true]) (by simp [results, Tryz.results21, go_sem, r0, r1, r2, r3]) rfl ?_
      exact hfin.out
     ·have dq : (rest'.toList == E.toList) = false := beq_eq_false_iff_ne.2 (fun h => hc (by rw [ByteArray.toList_eq, ByteArray.toList_eq] at h; exact ByteArray.ext (Array.toList_inj.1 h)))
      replace hc := Lib.hid hc
      refine HeldS.wp_region_S 12 (S := fun w' => w'.cell? ⟨gb, 0, none⟩ = some (.int .i64 (f : Int)) /\ w'.cell? ⟨gb, 1, none⟩ = some (.int .i64 (t : Int)) /\ w'.cell? ⟨gb, 2, none⟩ = some (.slice Au rs.length cu) /\ w'.cell? ⟨gb, 3, none⟩ = some (.slice Ad ds.length cd) /\ w'.cell? ⟨gr, 0, none⟩ = some (.string rest')) (by kernel_rfl) (hkA.out _ (upon_drewN _ w7 1)) (fun hHeld => ?_)
      refine HeldS.wpAnyS_take (i := 0) [11] (oi := _) (v := ?_) rfl (by kernel_rfl) (by kernel_rfl) (by kernel_rfl) (by kernel_rfl) (by kernel_rfl) (fun _ _ _ h => h) (Or.inl ⟨by rfl, ?_⟩) (by assumption) ?_
      rotate_left
      ·(intro w hSw; (try dsimp only at hSw); go_simp; (try with_reducible rfl))
      (try simp only [Act.put, List.setIfInBounds_toArray, List.set_cons_zero, List.set_cons_succ])
      refine HeldS.wpAnyS_take (i := 1) [10] (oi := _) (v := ?_) rfl (by kernel_rfl) (by kernel_rfl) (by kernel_rfl) (by kernel_rfl) (by kernel_rfl) (fun _ _ _ h => h) (Or.inl ⟨by rfl, ?_⟩) (by assumption) ?_
      rotate_left
      ·(intro w hSw; (try dsimp only at hSw); go_simp; (try with_reducible rfl))
      (try simp only [Act.put, List.setIfInBounds_toArray, List.set_cons_zero, List.set_cons_succ])
      refine HeldS.wpAnyS_take (i := 2) [10, 9, 8] (oi := _) (v := ?_) rfl (by kernel_rfl) (by kernel_rfl) (by kernel_rfl) (by kernel_rfl) (by kernel_rfl) (fun _ _ _ h => h) (Or.inl ⟨by rfl, ?_⟩) (by assumption) ?_
      rotate_left
      ·(intro w hSw; (try dsimp only at hSw); go_simp; (try with_reducible rfl))
      (try simp only [Act.put, List.setIfInBounds_toArray, List.set_cons_zero, List.set_cons_succ])
      refine HeldS.wpAnyS_take (i := 3) [10, 9, 8, 7, 4] (oi := _) (v := ?_) rfl (by kernel_rfl) (by kernel_rfl) (by kernel_rfl) (by kernel_rfl) (by kernel_rfl) (fun _ _ _ h => h) (Or.inl ⟨by rfl, ?_⟩) (by assumption) ?_
      rotate_left
      ·(intro w hSw; (try dsimp only at hSw); go_simp; (try with_reducible rfl))
      (try simp only [Act.put, List.setIfInBounds_toArray, List.set_cons_zero, List.set_cons_succ])
      refine HeldS.wpAnyS_take (i := 4) [10, 9, 8, 7] (oi := _) (v := ?_) rfl (by kernel_rfl) (by kernel_rfl) (by kernel_rfl) (by kernel_rfl) (by kernel_rfl) (fun _ _ _ h => h) (Or.inl ⟨by rfl, ?_⟩) (by assumption) ?_
      rotate_left
      ·(intro w hSw; (try dsimp only at hSw); go_simp; (try with_reducible rfl))
      (try simp only [Act.put, List.setIfInBounds_toArray, List.set_cons_zero, List.set_cons_succ])
      refine HeldS.wpAnyS_take (i := 5) [10, 9, 8, 7, 6] (oi := _) (v := ?_) rfl (by kernel_rfl) (by kernel_rfl) (by kernel_rfl) (by kernel_rfl) (by kernel_rfl) (fun _ _ _ h => h) (Or.inl ⟨by rfl, ?_⟩) (by assumption) ?_
      rotate_left
      ·(intro w hSw; (try dsimp only at hSw); go_simp; (try with_reducible rfl))
      (try simp only [Act.put, List.setIfInBounds_toArray, List.set_cons_zero, List.set_cons_succ])
      refine HeldS.wpAnyS_take (i := 6) [10, 9, 8, 7] (oi := _) (v := ?_) rfl (by kernel_rfl) (by kernel_rfl) (by kernel_rfl) (by kernel_rfl) (by kernel_rfl) (fun _ _ _ h => h) (Or.inl ⟨by rfl, ?_⟩) (by assumption) ?_
      rotate_left
      ·(intro w hSw; (try dsimp only at hSw); go_simp; (try with_reducible rfl))
      (try simp only [Act.put, List.setIfInBounds_toArray, List.set_cons_zero, List.set_cons_succ])
      refine HeldS.wpAnyS_take (i := 7) [10, 9, 8] (oi := _) (v := ?_) rfl (by kernel_rfl) (by kernel_rfl) (by kernel_rfl) (by kernel_rfl) (by kernel_rfl) (fun _ _ _ h => h) (Or.inl ⟨by rfl, ?_⟩) (by assumption) ?_
      rotate_left
      ·(intro w hSw; (try dsimp only at hSw); go_simp; (try with_reducible rfl))
      (try simp only [Act.put, List.setIfInBounds_toArray, List.set_cons_zero, List.set_cons_succ])
      refine HeldS.wpAnyS_take (i := 8) [10, 9] (oi := _) (v := ?_) rfl (by kernel_rfl) (by kernel_rfl) (by kernel_rfl) (by kernel_rfl) (by kernel_rfl) (fun _ _ _ h => h) (Or.inl ⟨by rfl, ?_⟩) (by assumption) ?_
      rotate_left
      ·(intro w hSw; (try dsimp only at hSw); go_simp; (try with_reducible rfl))
      (try simp only [Act.put, List.setIfInBounds_toArray, List.set_cons_zero, List.set_cons_succ])
      refine HeldS.wpAnyS_ready (rs := [9]) (by kernel_rfl) (by simp) ?_
      refine HeldS.AllS.cons (o := ⟨some 60, _, _, _, _, _⟩) rfl (fun K hK => ?_) HeldS.AllS.nil
      go_simp
      try rw [hfr.out]
      go_at_call 35
      refine (HE.out _ (upon_drewN _ w7 1)).mono ?_
      rintro e wE ⟨rfl, hnE⟩
      have na : New0 w7 wE := (upon_drewN _ w7 1).trans hnE
      obtain ⟨⟨g0, g1, g2, g3⟩, z0, ⟨p1, q1⟩, ⟨p2, q2⟩, ⟨p3, q3⟩⟩ := hkB.out _ na
      have uz := hkC.out _ na
      have hQz := hkD.out _ na
      go_simp
      refine hK.out _ _ (hkA.out _ (na.mono fun _ _ f => f.elim)) (fun hHeld => ?_)
      clear hK K
      (try simp only [Act.put, List.setIfInBounds_toArray, List.set_cons_zero, List.set_cons_succ])
      refine HeldS.wpAnyS_take (i := 10) [] (oi := _) (v := ?_) rfl (by kernel_rfl) (by kernel_rfl) (by kernel_rfl) (by kernel_rfl) (by kernel_rfl) (fun _ _ _ h => h) (Or.inl ⟨by rfl, ?_⟩) (by assumption) ?_
      rotate_left
      ·(intro w hSw; (try dsimp only at hSw); go_simp; (try with_reducible rfl))
      (try simp only [Act.put, List.setIfInBounds_toArray, List.set_cons_zero, List.set_cons_succ])
      refine HeldS.wpAnyS_ready (rs := [11]) (by kernel_rfl) (by simp) ?_
      refine HeldS.AllS.cons (o := ⟨none, _, _, _, _, _⟩) rfl (fun K hK => ?_) HeldS.AllS.nil
      go_simp
      refine hK.out _ _ (hkA.out _ uz) (fun hHeld => ?_)
      clear hK K
      (try simp only [Act.put, List.setIfInBounds_toArray, List.set_cons_zero, List.set_cons_succ])
      refine HeldS.wpAnyS_ready (rs := [12]) (by kernel_rfl) (by simp) ?_
      refine HeldS.AllS.last (s := 12) (o := ⟨some 3, _, _, _, _, _⟩) rfl (fun K hK => ?_) HeldS.AllS.nil
      go_simp
      refine hK.out _ _ ?_
      clear hK K
      (try simp only [Act.put, List.setIfInBounds_toArray, List.set_cons_zero, List.set_cons_succ])
      refine HeldS.wpAnyS_done (by kernel_rfl) ?_ _
      obtain ⟨wz, hwz⟩ : ∃ wz, ((((wE.setCell ⟨w.heap.size, 0, none⟩ (.int .i64 (f : Int))).setCell ⟨w.heap.size, 1, none⟩ (.int .i64 (t : Int))).setCell ⟨w.heap.size, 2, none⟩ (.slice Au rs.length cu)).setCell ⟨w.heap.size, 3, none⟩ (.slice Ad ds.length cd)) = wz := ⟨_, rfl⟩
      rw [hwz] at uz hQz ⊢
      have hfin := Lib.hid (hpost.out wz false uz (fun h => by cases h) (fun _ => hc.out))
      replace hQz := Lib.hid hQz.cells
      clear g0 g1 g2 g3 z0 p1 q1 p2 q2 p3 q3 hwz hHeld uz na hnE hkA hkB hkC hkD HE hcs hno9 hpost hc dq hmf eg i1 hview
      simp only [Exit.then]
      refine ‹∀ (a : Act) (w : World), _ -> _› _ _ ?_
      apply wp_ret
      obtain ⟨r0, r1, r2, r3⟩ := hQz.out
      refine bodyPost_ret (v := .tuple #[.agg #[.int .i64 (f : Int), .int .i64 (t : Int), .slice Au rs.length cu, .slice Ad ds.length cd], .bool false]) (by simp [results, Tryz.results21, go_sem, r0, r1, r2, r3]) rfl ?_
      exact hfin.out
 ·have hok : decide (x = 0 /\ K = 2) = false := decide_eq_false hx
  have HN' := HN.out
  rw [hok] at HN'
  replace HN' := Lib.hid HN'
  have hD : Hid (Not sl) := Lib.hid (hno.out (by
   by_cases h : x = 0
   ·exact .inr fun c => hx ⟨h, c⟩
   ·exact .inl h))
  clear HN hno hbad hsta
  refine HN'.out.mono ?_
  rintro e w2 ⟨rfl, hL2, hu2⟩
  have hNB : Hid (New0 w w2) := Lib.hid (hNB.out.trans' hu2 (fun i hi e => by omega))
  have hres := Lib.hid (hres.out.upon hu2 (fun e => by omega))
  have hn0 : Hid (New0 w2 w2) := Lib.hid (Upon.refl _ _)
  clear HN' hL2 hu2
  have hF := hres.out.new hn0.out
  obtain ⟨g0, g1, g2, g3⟩ := hF.cells
  have z0 := hF.frozen 0
  obtain ⟨⟨p1, q1⟩, ⟨p2, q2⟩, ⟨p3, q3⟩⟩ := hF.roads ⟨.int .i64 0, .int .i64 0, .slice none 0 0, .slice none 0 0⟩
  have hN := hNB.out.trans hn0.out
  obtain ⟨wz, hwz⟩ : ∃ wz, ((((w2.setCell ⟨w.heap.size, 0, none⟩ (.int .i64 0)).setCell ⟨w.heap.size, 1, none⟩ (.int .i64 0)).setCell ⟨w.heap.size, 2, none⟩ (.slice none 0 0)).setCell ⟨w.heap.size, 3, none⟩ (.slice none 0 0)) = wz := ⟨_, rfl⟩
  have hFz := (hF.setAll ⟨.int .i64 0, .int .i64 0, .slice none 0 0, .slice none 0 0⟩).cells
  unfold setQuad at hFz
  simp only at hFz
  rw [hwz] at hFz
  replace hFz := Lib.hid hFz
  have hNz : Hid (New0 w wz) := Lib.hid (by rw [<- hwz]; exact upon_setQuad hN (.inr (Nat.le_refl _)) ⟨.int .i64 0, .int .i64 0, .slice none 0 0, .slice none 0 0⟩)
  have hwz' : Hid (((((w2.setCell ⟨w.heap.size, 0, none⟩ (.int .i64 0)).setCell ⟨w.heap.size, 1, none⟩ (.int .i64 0)).setCell ⟨w.heap.size, 2, none⟩ (.slice none 0 0)).setCell ⟨w.heap.size, 3, none⟩ (.slice none 0 0)) = wz) := Lib.hid hwz
  clear hwz hF hN 
  go_wp2_with fail
  rw [hwz'.out]
  obtain ⟨r0, r1, r2, r3⟩ := hFz.out
  clear g0 g1 g2 g3 z0 p1 q1 p2 q2 p3 q3
  refine bodyPost_ret (v := .tuple #[.agg #[.int .i64 0, .int .i64 0, .slice none 0 0, .slice none 0 0], .bool false]) (by simp [results, Tryz.results21, go_sem, r0, r1, r2, r3]) rfl ?_
  exact GotB.no hD.out hNz.out
end Bk
end
section
open Go.RowKit Go.Sort
namespace Ck
open Bit Dsk Ob Dig
theorem rget_is (s : ByteArray) (hs : s.size <= 9223372036854775807) (n k e : Nat) (hg : gotN s.data.toList = (n, k, e)) (w : World) :
  Calls Tryz.prog 55 #[.string s] w fun x w' => x = .returned (.tuple #[.int .u64 (n : Int), .int .i64 (k : Int), .int .i64 (e : Int)]) /\ Below w.heap.size w w' := by
 have := refget_any s hs w
 rw [hg] at this
 exact this
abbrev RD (qt qv p : Nat) (c : C2) (K : List Bool) : Ob.Rel := Tens (Xr.IsRC qv c.2) (Tm.CR qt c.1 p K)
theorem thingRD (qt qv p : Nat) (c : C2) (K : List Bool) : Thing (RD qt qv p c K) := Tens.ob (Xr.objRC _ _) (Tm.thingCR _ _ _ _)
abbrev RDJ (qt qv p : Nat) (c : C2) (K : List Bool) (u : Value) (l : List Pt) : Ob.Rel := Tens (RD qt qv p c K) (RowO u l)
theorem thingRDJ (qt qv p : Nat) (c : C2) (K : List Bool) (u : Value) (l : List Pt) : Thing (RDJ qt qv p c K u l) := Tens.ob (thingRD _ _ _ _ _) (thingRowO _ _)
def GtT (w0 : World) (qt qv p : Nat) (c : C2) (K : List Bool) (u : Value) (l : List Pt) (e : Ending) (w' : World) : Prop :=
 match Tm.getR c.1 K with
 | none => e = .returned (.tuple #[.int .i64 0, .bool false]) /\ New0 w0 w'
 | some (t, n) => e = .returned (.tuple #[.int .i64 t, .bool true]) /\ Own (RDJ qt qv p (Tm.putC c.1 t, c.2) (K.drop n) u l) w0 w'
theorem rdGetT {w0 w : World} {qt qv p : Nat} {c : C2} {K : List Bool} {u : Value} {l : List Pt} (H : Own (RDJ qt qv p c K u l) w0 w) (hok : c.1.Ok) (hK : K.length <= 1000000) :
  Calls Tryz.prog 109 #[.pointer (some ⟨qt, 0, none⟩), .pointer (some ⟨p, 0, none⟩)] w (GtT w0 qt qv p c K u l) := by
 obtain ⟨S, hS, go⟩ := Fall.own H
 obtain ⟨A, hA, go1⟩ := Fall.left (thingRowO u l) hS
 obtain ⟨B, hB, go2⟩ := Fall.right (Xr.objRC qv c.2) hA
 refine (Tm.refGetP_any B qt p c.1 K w hB hok hK).mono fun e w' h => ?_
 unfold Tm.Gt at h
 unfold GtT
 cases hg : Tm.getR c.1 K with
 | none =>
  rw [hg] at h
  obtain ⟨h1, c', K', h2⟩ := h
  exact ⟨h1, new0_of_bel (go _ _ (go1 _ _ (go2 _ _ h2))).bel⟩
 | some x =>
  obtain ⟨t, n⟩ := x
  rw [hg] at h
  exact ⟨h.1, go _ _ (go1 _ _ (go2 _ _ h.2))⟩
def GtV (w0 : World) (qt qv p : Nat) (c : C2) (K : List Bool) (u : Value) (l : List Pt) (e : Ending) (w' : World) : Prop :=
 match Xr.getR c.2 K with
 | none => e = .returned (.tuple #[.int .u64 0, .bool false]) /\ New0 w0 w'
 | some (v, n) => e = .returned (.tuple #[.int .u64 (v : Int), .bool true]) /\ Own (RDJ qt qv p (c.1, Xr.putC c.2 v) (K.drop n) u l) w0 w'
theorem rdGetV {w0 w : World} {qt qv p : Nat} {c : C2} {K : List Bool} {u : Value} {l : List Pt} (H : Own (RDJ qt qv p c K u l) w0 w) (hok : c.2.Ok) (hK : K.length <= 1000000) :
  Calls Tryz.prog 110 #[.pointer (some ⟨qv, 0, none⟩), .pointer (some ⟨p, 0, none⟩)] w (GtV w0 qt qv p c K u l) := by
 have H2 : Own (Tens (Tens (Tm.IsRC qt c.1) (Xr.CR qv c.2 p K)) (RowO u l)) w0 w := H.mono fun _ h => Tens.mapL (fun _ k => lcomm k) h
 obtain ⟨S, hS, go⟩ := Fall.own H2
 obtain ⟨A, hA, go1⟩ := Fall.left (thingRowO u l) hS
 obtain ⟨B, hB, go2⟩ := Fall.right (Tm.objRC qt c.1) hA
 refine (Xr.refGetP_any B qv p c.2 K w hB hok hK).mono fun e w' h => ?_
 unfold Xr.Gt at h
 unfold GtV
 cases hg : Xr.getR c.2 K with
 | none =>
  rw [hg] at h
  obtain ⟨h1, c', K', h2⟩ := h
  exact ⟨h1, new0_of_bel (go _ _ (go1 _ _ (go2 _ _ h2))).bel⟩
 | some x =>
  obtain ⟨v, n⟩ := x
  rw [hg] at h
  refine ⟨h.1, (go _ _ (go1 _ _ (go2 _ _ h.2))).mono fun _ h => Tens.mapL (fun _ k => lcomm k) h⟩
theorem rdj_none {w0 : World} {qt qv p : Nat} {c : C2} {K : List Bool} {u : Value} {l : List Pt} {e : Ending} {w' : World} (h : GtT w0 qt qv p c K u l e w') (hr : Tm.getR c.1 K = none) : e = .returned (.tuple #[.int .i64 0, .bool false]) /\ New0 w0 w' := by unfold GtT at h; rw [hr] at h; exact h
theorem rdj_some {w0 : World} {qt qv p : Nat} {c : C2} {K : List Bool} {u : Value} {l : List Pt} {e : Ending} {w' : World} {t : Int} {n : Nat} (h : GtT w0 qt qv p c K u l e w') (hr : Tm.getR c.1 K = some (t, n)) : e = .returned (.tuple #[.int .i64 t, .bool true]) /\ Own (RDJ qt qv p (Tm.putC c.1 t, c.2) (K.drop n) u l) w0 w' := by unfold GtT at h; rw [hr] at h; exact h
theorem rdv_none {w0 : World} {qt qv p : Nat} {c : C2} {K : List Bool} {u : Value} {l : List Pt} {e : Ending} {w' : World} (h : GtV w0 qt qv p c K u l e w') (hr : Xr.getR c.2 K = none) : e = .returned (.tuple #[.int .u64 0, .bool false]) /\ New0 w0 w' := by unfold GtV at h; rw [hr] at h; exact h
theorem rdv_some {w0 : World} {qt qv p : Nat} {c : C2} {K : List Bool} {u : Value} {l : List Pt} {e : Ending} {w' : World} {v n : Nat} (h : GtV w0 qt qv p c K u l e w') (hr : Xr.getR c.2 K = some (v, n)) : e = .returned (.tuple #[.int .u64 (v : Int), .bool true]) /\ Own (RDJ qt qv p (c.1, Xr.putC c.2 v) (K.drop n) u l) w0 w' := by unfold GtV at h; rw [hr] at h; exact h
theorem rd1_noT {c : C2} {K : List Bool} (h : Tm.getR c.1 K = none) : rd1 c K = none := by unfold rd1; rw [h]
theorem rd1_noV {c : C2} {K : List Bool} {t : Int} {k : Nat} (h : Tm.getR c.1 K = some (t, k)) (h2 : Xr.getR c.2 (K.drop k) = none) : rd1 c K = none := by unfold rd1; rw [h]; simp only; rw [h2]
theorem rd1_some {c : C2} {K : List Bool} {t : Int} {k v j : Nat} (h : Tm.getR c.1 K = some (t, k)) (h2 : Xr.getR c.2 (K.drop k) = some (v, j)) : rd1 c K = some ((t, v), (K.drop k).drop j) := by unfold rd1; rw [h]; simp only; rw [h2]
theorem rdMade {w0 w : World} {p : Nat} {K : List Bool} (H : Own (fun w S => IsRR0 w S p K) w0 w) :
  Own (RDJ w.heap.size (w.heap.size + 1) p c0 K (.slice none 0 0) []) w0 ((w.alloc (.cells #[.bool false, .int .i64 0, .int .i64 0] 193 (0, 0))).alloc (.cells #[.bool false, .int .u64 0, .bool false, .int .i64 0, .int .i64 0] 196 (0, 0))) := by
 have h1 : Own (fun w S => IsRR w S p K) w0 w := H.mono fun _ h => IsRR.of_filled h
 have h2 : Own (Tens (fun w S => IsRR w S p K) (Tm.IsRC w.heap.size Tm.newC)) w0 (w.alloc (.cells #[.bool false, .int .i64 0, .int .i64 0] 193 (0, 0))) :=
  Own.new (objRR p K) h1 (T := fun x => x = w.heap.size) ⟨cell_new w _, fun x => Iff.rfl⟩ (fun b hb => by rw [hb]; exact Nat.le_refl _) ((Upon.refl _ w).alloc _)
 generalize hw2 : w.alloc (.cells #[.bool false, .int .i64 0, .int .i64 0] 193 (0, 0)) = w2 at *
 have e2 : w2.heap.size = w.heap.size + 1 := by rw [<- hw2]; simp
 have h3 : Own (Tens (Tm.CR w.heap.size Tm.newC p K) (Xr.IsRC (w.heap.size + 1) Xr.newC)) w0 (w2.alloc (.cells #[.bool false, .int .u64 0, .bool false, .int .i64 0, .int .i64 0] 196 (0, 0))) := by
  rw [<- e2]
  exact Own.new (Tm.thingCR _ _ _ _) h2.swap (T := fun x => x = w2.heap.size) ⟨cell_new w2 _, fun x => Iff.rfl⟩ (fun b hb => by rw [hb]; exact Nat.le_refl _) ((Upon.refl _ w2).alloc _)
 exact Own.new (thingRD _ _ _ _ _) h3.swap (T := fun _ => False) ⟨OwnPts.nil _, fun x hx => (by cases hx), fun x f => f.elim⟩ (fun b hb => hb.elim) (Upon.refl _ _)
theorem rdLen {w0 w : World} {qt qv p : Nat} {c : C2} {K : List Bool} {u : Value} {l : List Pt} (H : Own (RDJ qt qv p c K u l) w0 w) : ∃ A cc, w.cell? ⟨p, 0, none⟩ = some (.slice A K.length cc) := by
 obtain ⟨S, h⟩ := H.seeL
 obtain ⟨_, B, _, h2, _⟩ := h
 obtain ⟨_, B2, _, h3, _⟩ := h2
 obtain ⟨rv, hr⟩ := h3
 have k0 : w.cell? ⟨p, 0, none⟩ = some rv := by rw [Lib.cell_of_heap hr.cell]; rfl
 rcases hr.view with ⟨h, e⟩ | ⟨g, off, cap, e, -⟩
 ·exact ⟨none, 0, by rw [k0, h, e]; rfl⟩
 ·exact ⟨_, _, by rw [k0, e]⟩
theorem code_tail {l : List Pt} : ∃ a : List UInt8, code l = a ++ pack (ptsB c0 l) := ⟨numL l.length ++ numL (ptsB c0 l).length, by unfold code; rw [List.append_assoc]⟩
theorem half_bits {n : Nat} {K0 K : List Bool} {l : List Pt} (h : Half n K0 l K) : K0 = ptsB c0 l ++ K := (rd_is n ok0 h.got).2.1
end Ck
end
section
open Go.RowKit Go.Sort
namespace Ck
open Bit Dsk Ob Dig
set_option maxHeartbeats 12800000 in
theorem refdec_dd (w : World) (s : ByteArray) (hs : s.size <= 100000) :
  Calls Tryz.prog 59 #[.string s] w (Dd s w) := by
 obtain ⟨n, k, e, hg1⟩ : ∃ n k e, gotN s.data.toList = (n, k, e) := ⟨_, _, _, rfl⟩
 have hslen : s.data.toList.length = s.size := by rw [Array.length_toList]; rfl
 obtain ⟨hn, hk, he100⟩ := got_small hg1
 rw [hslen] at hk
 have HG1 := Lib.hid (rget_is s (by omega) n k e hg1 w)
 by_cases he : e = 0
 ·subst he
  by_cases hr : n < 1 \/ 64 < n
  ·have hD := Lib.hid (dec_range hg1 hr)
   clear hg1
   rcases hr with hr | hr
   ·have d1 : decide ((n : Int) < 1) = true := decide_eq_true (by omega)
    go_enter Tryz.func59, Tryz.ntmps59
    go_wp2_with fail
    refine HG1.out.mono ?_
    rintro e w2 ⟨rfl, hb2⟩
    replace hb2 := Lib.hid hb2
    clear HG1
    go_wp2_with fail
    go_ret2
    exact Dd.no2 hD.out rfl (new0_of_bel hb2.out)
   ·have d1 : decide ((n : Int) < 1) = false := decide_eq_false (by omega)
    have d2 : decide ((64 : Int) < (n : Int)) = true := decide_eq_true (by omega)
    go_enter Tryz.func59, Tryz.ntmps59
    go_wp2_with fail
    refine HG1.out.mono ?_
    rintro e w2 ⟨rfl, hb2⟩
    replace hb2 := Lib.hid hb2
    clear HG1
    go_wp2_with fail
    go_ret2
    exact Dd.no2 hD.out rfl (new0_of_bel hb2.out)
  ·have d1 : decide ((n : Int) < 1) = false := decide_eq_false (by omega)
   have d2 : decide ((64 : Int) < (n : Int)) = false := decide_eq_false (by omega)
   obtain ⟨s1, hs1⟩ : ∃ s1, s.extract k s.size = s1 := ⟨_, rfl⟩
   have hl1 : s1.data.toList = s.data.toList.drop k := by rw [<- hs1, drop_bytes s k hk]
   have hz1 : s1.size = s.size - k := by rw [<- hs1, drop_size]
   obtain ⟨m, j, e2, hg2⟩ : ∃ m j e2, gotN (s.data.toList.drop k) = (m, j, e2) := ⟨_, _, _, rfl⟩
   obtain ⟨hm, hj, he2⟩ := got_small hg2
   rw [List.length_drop, hslen] at hj
   have HG2 := Lib.hid (fun w => rget_is s1 (by omega) m j e2 (by rw [hl1]; exact hg2) w)
   by_cases hee : e2 = 0
   ·subst hee
    obtain ⟨s2, hs2⟩ : ∃ s2, s.extract (k + j) s.size = s2 := ⟨_, rfl⟩
    have hl2 : s2.data.toList = (s.data.toList.drop k).drop j := by rw [<- hs2, drop_bytes s (k + j) (by omega), List.drop_drop]
    have hz2 : s2.size = s.size - k - j := by rw [<- hs2, drop_size s (k + j)]; omega
    have f : Found s.data.toList n k m j s2.data.toList := ⟨hg1, hg2, hl2.symm⟩
    have hR : s2.data.toList.length = s2.size := by rw [Array.length_toList]; rfl
    have hkj : k + j <= s.size := by omega
    have hwk : IntKind.i64.wrap ((k : Int) + (j : Int)) = ((k + j : Nat) : Int) := by rw [IntKind.wrap_i64]; omega
    have hwz : IntKind.i64.wrap (8 * (s2.size : Int)) = 8 * (s2.size : Int) := by rw [IntKind.wrap_i64]; omega
    have hwz2 : IntKind.u64.wrap (8 * (s2.size : Int)) = 8 * (s2.size : Int) := by rw [IntKind.wrap_u64]; omega
    have hwz3 : IntKind.u64.wrap (s2.size : Int) = (s2.size : Int) := by rw [IntKind.wrap_u64]; omega
    clear hl1 hl2 hg1 hg2
    have hz : s2.size <= 100000 := by omega
    clear hz1 hz2 hslen
    replace f := Lib.hid f
    have hn1 : 1 <= n /\ n <= 64 := by omega
    by_cases c1 : 8 * s2.size < m
    ·have hD := Lib.hid (dec_rest (e := 1) f.out (by decide) (by decide) (fun l hw => by have := hw.le; omega))
     have d3 : decide (8 * (s2.size : Int) < (m : Int)) = true := decide_eq_true (by omega)
     clear f hR
     go_enter Tryz.func59, Tryz.ntmps59
     go_wp2_with fail
     refine HG1.out.mono ?_
     rintro e w2 ⟨rfl, hb2⟩
     have hu2 := Lib.hid (new0_of_bel hb2)
     clear HG1 hb2
     go_wp2_with fail
     refine (HG2.out _).mono ?_
     rintro e w3 ⟨rfl, hb3⟩
     have hu3 := Lib.hid (hu2.out.trans (new0_of_bel hb3))
     clear HG2 hb3 hu2
     go_wp2_with fail
     go_ret2
     exact Dd.no2 hD.out rfl hu3.out
    ·have d3 : decide (8 * (s2.size : Int) < (m : Int)) = false := decide_eq_false (by omega)
     have hw7 : IntKind.u64.wrap ((m : Int) + 7) = (m : Int) + 7 := by rw [IntKind.wrap_u64]; omega
     by_cases c2 : (m + 7) / 8 < s2.size
     ·have hD := Lib.hid (dec_rest (e := 6) f.out (by decide) (by decide) (fun l hw => by have := hw.few; omega))
      have d4 : decide (((m : Int) + 7) / 8 < (s2.size : Int)) = true := decide_eq_true (by omega)
      clear f hR
      go_enter Tryz.func59, Tryz.ntmps59
      go_wp2_with fail
      refine HG1.out.mono ?_
      rintro e w2 ⟨rfl, hb2⟩
      have hu2 := Lib.hid (new0_of_bel hb2)
      clear HG1 hb2
      go_wp2_with fail
      refine (HG2.out _).mono ?_
      rintro e w3 ⟨rfl, hb3⟩
      have hu3 := Lib.hid (hu2.out.trans (new0_of_bel hb3))
      clear HG2 hb3 hu2
      go_wp2_with fail
      go_ret2
      exact Dd.no2 hD.out rfl hu3.out
     ·have d4 : decide (((m : Int) + 7) / 8 < (s2.size : Int)) = false := decide_eq_false (by omega)
      have i1 : IntKind.i64.wrap (m : Int) = (m : Int) := by rw [IntKind.wrap_i64]; omega
      have HR := Lib.hid (fun w => refNewReader_any s2 (m : Int) (by omega) (by omega) (by omega) w)
      have hle : m <= 8 * s2.data.toList.length := by rw [hR]; omega
      have hfew : s2.data.toList.length <= (m + 7) / 8 := by rw [hR]; omega
      have hbl : (bitsAt s2.data.toList 0 m).length <= 1000000 := by rw [bitsAt_length]; omega
      go_enter Tryz.func59, Tryz.ntmps59
      go_wp2_with fail
      refine HG1.out.mono ?_
      rintro e w2 ⟨rfl, hb2⟩
      have hu2 := Lib.hid (new0_of_bel hb2)
      clear HG1 hb2
      go_wp2_with fail
      refine (HG2.out _).mono ?_
      rintro e w3 ⟨rfl, hb3⟩
      have hu3 := Lib.hid (hu2.out.trans (new0_of_bel hb3))
      clear HG2 hb3 hu2
      go_wp2_with fail
      refine (HR.out _).mono ?_
      rintro e w4 ⟨p, rfl, hO, -⟩
      rw [ends_in (by omega)] at hO
      have hM := Lib.hid (rdMade hO)
      clear HR hO
      go_wp2_with fail
      replace hle := Lib.hid hle
      replace hfew := Lib.hid hfew
      clear hkj hwk hwz hwz2 hwz3 hw7 i1 d1 d2 d3 d4
      go_loopw [12, 13] (fun u ov wr => ∃ (i : Nat) (l : List Pt) (K : List Bool), ov = .int .u64 (i : Int) /\ i <= n /\ K.length <= 1000000 /\ Hid (Half i (bitsAt s2.data.toList 0 m) l K) /\ Hid (Own (RDJ w4.heap.size (w4.heap.size + 1) p (stps c0 l) K u l) w3 wr)) (fun _ ov _ => n - (intOf ov).toNat)
      case atStart => exact ⟨0, [], _, rfl, Nat.zero_le _, hbl, Lib.hid (Half.start _), hM⟩
      case round =>
       clear hM
       obtain ⟨i, l, K, rfl, hii, hKl, hh, ho⟩ := hrel
       have hll := hh.out.len
       by_cases hlt : i < n
       ·have HP := Lib.hid (rdGetT ho.out hh.out.ok.t hKl)
        obtain ⟨c, hc⟩ : ∃ c, stps c0 l = c := ⟨_, rfl⟩
        cases hgT : Tm.getR (stps c0 l).1 K with
        | none =>
         have hD := Lib.hid (dec_rest (e := 3) f.out (by decide) (by decide) (hh.out.stop hlt (rd1_noT hgT)))
         replace hgT := Lib.hid hgT
         clear ho hh
         go_wp2_with fail
         refine HP.out.mono ?_
         intro e w7 he
         obtain ⟨rfl, h7⟩ := rdj_none he hgT.out
         have hu7 := Lib.hid (hu3.out.trans h7)
         clear HP he h7
         go_wp2_with fail
         go_ret2
         exact Dd.no2 hD.out rfl hu7.out
        | some x =>
         obtain ⟨t, a⟩ := x
         replace hgT := Lib.hid hgT
         clear ho
         go_wp2_with fail
         refine HP.out.mono ?_
         intro e w7 he
         obtain ⟨rfl, h7⟩ := rdj_some he hgT.out
         have hK2 : (K.drop a).length <= 1000000 := by rw [List.length_drop]; omega
         have HV := Lib.hid (rdGetV h7 hh.out.ok.v hK2)
         clear HP he h7
         cases hgV : Xr.getR (stps c0 l).2 (K.drop a) with
         | none =>
          have hD := Lib.hid (dec_rest (e := 3) f.out (by decide) (by decide) (hh.out.stop hlt (rd1_noV hgT.out hgV)))
          replace hgV := Lib.hid hgV
          clear hh
          go_wp2_with fail
          refine HV.out.mono ?_
          intro e w8 he
          obtain ⟨rfl, h8⟩ := rdv_none he hgV.out
          have hu8 := Lib.hid (hu3.out.trans h8)
          clear HV he h8
          go_wp2_with fail
          go_ret2
          exact Dd.no2 hD.out rfl hu8.out
         | some y =>
          obtain ⟨v, b⟩ := y
          have hrd := Lib.hid (rd1_some hgT.out hgV)
          replace hgV := Lib.hid hgV
          go_wp2_with fail
          refine HV.out.mono ?_
          intro e w8 he
          obtain ⟨rfl, h8⟩ := rdv_some he hgV.out
          have hst : ((Tm.putC (stps c0 l).1 t, Xr.putC (stps c0 l).2 v) : C2) = stps c0 (l ++ [(t, v)]) := (stps_snoc (t, v) l c0).symm
          simp only [hst] at h8
          have hK3 : ((K.drop a).drop b).length <= 1000000 := by rw [List.length_drop]; omega
          have hown := (rowSee h8.dropl)
          have hvw := hown.view
          have hend8 := Lib.hid (hu3.out.trans (new0_of_bel h8.bel))
          obtain ⟨Au, cu, hu', hcu, -⟩ := hvw.shape
          subst hu'
          replace h8 := Lib.hid h8
          replace hown := Lib.hid hown
          clear HV he hst hgT hgV
          by_cases hi0 : i = 0
          ·have dk : decide ((0 : Int) < (i : Int)) = false := decide_eq_false (by omega)
           have dk' : decide (0 < i) = false := decide_eq_false (by omega)
           have hnx := Lib.hid (hh.out.next hrd.out (fun k hk => by omega))
           have h9 := Lib.hid (Own.upon0 (thingRDJ _ _ _ _ _ _ _) h8.out ((Upon.refl (fun _ => False) w8).alloc (.cells #[.int .i64 t, .int .u64 (v : Int)] 153 (0, 0))))
           have hown9 := Lib.hid (rowSee h9.out.dropl)
           have hl1 : l.length + 1 <= 65 := by omega
           clear hh h8 hown hvw hrd
           replace hll := Lib.hid hll
           replace hi0 := Lib.hid hi0
           go_wp2_with (at_builtin; refine wpList_append_pts rfl _ _ rfl _ _ l [(t, v)] All rfl rfl hown9.out (view_one (y := v) (cell_new w8 _)) (by rw [List.length_singleton]; omega) ?_)
           intro u' w10 hown' hgr hb
           have h10 := Lib.hid (rowAppend (thingRD _ _ _ _ _) h9.out hown' hgr (hb.imp id fun h => h.trans (by simp)))
           clear hown' hgr hb h9 hown9
           go_wp2_with fail
           go_roundw
           case rel => exact ⟨i + 1, _, _, by go_num, hlt, hK3, hnx, h10⟩
           case measure => simp [intOf]; omega
          ·obtain ⟨k', hk'⟩ : ∃ k', i = k' + 1 := ⟨i - 1, by omega⟩
           have dk : decide ((0 : Int) < (i : Int)) = true := decide_eq_true (by omega)
           have dk' : decide (0 < i) = true := decide_eq_true (by omega)
           have hwi : IntKind.u64.wrap ((i : Int) - 1) = (k' : Int) := by rw [IntKind.wrap_u64]; omega
           obtain ⟨A9, c9, e9, -, -, hA9⟩ := hvw
           injection e9 with e91 e92 e93
           subst e91 e93
           obtain ⟨pb, po, rfl, -, hcl⟩ := hA9 (by omega)
           obtain ⟨q0, -⟩ := hcl k' (by omega)
           have hTk : T l k' = l[k'].1 := T_get (by omega)
           obtain ⟨U, hU⟩ : ∃ U, l[k'].1 = U := ⟨_, rfl⟩
           rw [hU] at q0 hTk
           by_cases hf : t <= U
           ·have hD := Lib.hid (dec_rest (e := 9) f.out (by decide) (by decide) (Half.fall (hk' ▸ hh.out) (by omega) hrd.out (by rw [hTk]; exact hf)))
            have d2 : decide (t <= U) = true := decide_eq_true hf
            have hkl : k' < l.length := by omega
            clear hh h8 hown hrd hcl hTk hU hf
            replace hll := Lib.hid hll
            replace hk' := Lib.hid hk'
            go_wp2_with fail
            go_ret2
            exact Dd.no2 hD.out rfl hend8.out
           ·have d2 : decide (t <= U) = false := decide_eq_false hf
            have hnx := Lib.hid (hh.out.next hrd.out (fun k hk => by
             obtain rfl : k = k' := by omega
             rw [hTk]; simp only; omega))
            have h9 := Lib.hid (Own.upon0 (thingRDJ _ _ _ _ _ _ _) h8.out ((Upon.refl (fun _ => False) w8).alloc (.cells #[.int .i64 t, .int .u64 (v : Int)] 153 (0, 0))))
            have hown9 := Lib.hid (rowSee h9.out.dropl)
            have hl1 : l.length + 1 <= 65 := by omega
            have hkl : k' < l.length := by omega
            clear hh h8 hown hrd hcl hTk hU hf
            replace hll := Lib.hid hll
            replace hk' := Lib.hid hk'
            go_wp2_with (at_builtin; refine wpList_append_pts rfl _ _ rfl _ _ l [(t, v)] All rfl rfl hown9.out (view_one (y := v) (cell_new w8 _)) (by rw [List.length_singleton]; omega) ?_)
            intro u' w10 hown' hgr hb
            have h10 := Lib.hid (rowAppend (thingRD _ _ _ _ _) h9.out hown' hgr (hb.imp id fun h => h.trans (by simp)))
            clear hown' hgr hb h9 hown9 q0
            go_wp2_with fail
            go_roundw
            case rel => exact ⟨i + 1, _, _, by go_num, hlt, hK3, hnx, h10⟩
            case measure => simp [intOf]; omega
       ·obtain rfl : i = n := by omega
        have hend := Lib.hid (hu3.out.trans (new0_of_bel ho.out.bel))
        have hrow := (rowSee ho.out.dropl).view.all
        obtain ⟨Ar, cr, k0⟩ := rdLen ho.out
        have HE := Lib.hid (refenc_any wr All _ l hrow hh.out.all)
        have hres := hh.out.rise
        rw [<- hll] at hres
        have hE1 : encR l = .returned (.tuple #[.string ⟨(code l).toArray⟩, .int .i64 0]) := (encR_ok (by omega) (by omega) hres rfl).symm
        have hbits := half_bits hh.out
        have hcs : (code l).length <= 2000 := code_size (by omega)
        obtain ⟨CC, hCC⟩ : ∃ CC : ByteArray, (⟨(code l).toArray⟩ : ByteArray) = CC := ⟨_, rfl⟩
        have hCl : CC.data.toList = code l := by rw [<- hCC]
        have hCz : CC.size = (code l).length := by rw [<- hCl, Array.length_toList]; rfl
        rw [hCC] at hE1
        simp only [hE1] at HE
        have hrow2 := Lib.hid hrow
        obtain ⟨Au, cu, hu', -, -⟩ := hrow.shape
        subst hu'
        by_cases hK : K = []
        ·have dK : decide ((0 : Int) < (K.length : Int)) = false := decide_eq_false (by rw [hK]; simp)
         have dK' : decide (0 < K.length) = false := decide_eq_false (by rw [hK]; simp)
         rw [hK, List.append_nil] at hbits
         have hpl : (pack (ptsB c0 l)).length = s2.size := by rw [pack_length, <- hbits, bitsAt_length]; unfold nb; omega
         obtain ⟨pre, hpre⟩ := code_tail (l := l)
         have hpz : pre.length + s2.size = CC.size := by rw [hCz, hpre, List.length_append, hpl]
         have hws : IntKind.i64.wrap ((CC.size : Int) - (s2.size : Int)) = ((CC.size - s2.size : Nat) : Int) := by rw [IntKind.wrap_i64]; omega
         obtain ⟨TT, hTT⟩ : ∃ TT, CC.extract (CC.size - s2.size) CC.size = TT := ⟨_, rfl⟩
         have hTl : TT.data.toList = pack (ptsB c0 l) := by
          rw [<- hTT, drop_bytes CC _ (by omega), hCl, hpre, show CC.size - s2.size = pre.length by omega, List.drop_left]
         have hLen := hh.out.len
         have hwy : CC.size - s2.size <= CC.size := Nat.sub_le _ _
         by_cases hfl : Filled s2.data.toList m
         ·have hEq : TT = s2 := ByteArray.ext (Array.toList_inj.1 (by rw [hTl, <- hbits]; exact pack_back hle.out hfew.out hfl))
          have dq : (TT.toList == s2.toList) = true := by rw [hEq]; exact beq_self_eq_true _
          have hD := Lib.hid (dec_ok f.out hn1.1 hn1.2 (Half.whole (hK ▸ hh.out) hle.out hfew.out hfl))
          clear hh ho f hfl hbits hpre hTl hCl hCC hLen hle hfew hrow
          replace hll := Lib.hid hll
          replace hpl := Lib.hid hpl
          replace hpz := Lib.hid hpz
          replace hCz := Lib.hid hCz
          go_wp2_with fail
          refine HE.out.mono ?_
          rintro e w9 ⟨rfl, hu9⟩
          have k9 := hu9.cell k0
          have hu := Lib.hid (hend.out.trans hu9)
          have hrw := Lib.hid (hrow2.out.new hu9)
          clear HE hu9
          go_wp2_with fail
          go_ret2
          exact ⟨_, l, 0, rfl, hD.out, hrw.out, hu.out⟩
         ·have hEq : ¬ TT = s2 := fun h => hfl (by
           rw [<- h, hTl]
           have := pack_filled (ptsB c0 l)
           rwa [<- hbits, bitsAt_length, hbits] at this)
          have dq : (TT.toList == s2.toList) = false := beq_eq_false_iff_ne.2 (fun h => hEq (by rw [ByteArray.toList_eq, ByteArray.toList_eq] at h; exact ByteArray.ext (Array.toList_inj.1 h)))
          have hD := Lib.hid (dec_rest (e := 3) f.out (by decide) (by decide) (fun l' hw => hfl hw.fill))
          clear hh ho f hfl hbits hpre hTl hCl hCC hLen hle hfew hrow hrow2
          replace hpl := Lib.hid hpl
          replace hpz := Lib.hid hpz
          replace hCz := Lib.hid hCz
          replace hll := Lib.hid hll
          go_wp2_with fail
          refine HE.out.mono ?_
          rintro e w9 ⟨rfl, hu9⟩
          have k9 := hu9.cell k0
          have hu := Lib.hid (hend.out.trans hu9)
          clear HE hu9
          go_wp2_with fail
          go_ret2
          exact Dd.no2 hD.out rfl hu.out
        ·have dK : decide ((0 : Int) < (K.length : Int)) = true := decide_eq_true (by have := List.length_pos_iff.2 hK; omega)
         have dK' : decide (0 < K.length) = true := decide_eq_true (List.length_pos_iff.2 hK)
         have hD := Lib.hid (dec_rest (e := 3) f.out (by decide) (by decide) (hh.out.left hK))
         clear hh ho f hbits hCl hCC hle hfew hrow hrow2
         replace hCz := Lib.hid hCz
         replace hll := Lib.hid hll
         go_wp2_with fail
         refine HE.out.mono ?_
         rintro e w9 ⟨rfl, hu9⟩
         have k9 := hu9.cell k0
         have hu := Lib.hid (hend.out.trans hu9)
         clear HE hu9
         go_wp2_with fail
         go_ret2
         exact Dd.no2 hD.out rfl hu.out
   ·have hD := Lib.hid (dec_two hg1 hg2 hee he2)
    have d3 : ((e2 : Int) != 0) = true := by rw [bne_iff_ne]; omega
    clear hg1 hg2 hl1
    go_enter Tryz.func59, Tryz.ntmps59
    go_wp2_with fail
    refine HG1.out.mono ?_
    rintro e w2 ⟨rfl, hb2⟩
    replace hb2 := Lib.hid hb2
    clear HG1
    go_wp2_with fail
    refine (HG2.out _).mono ?_
    rintro e w3 ⟨rfl, hb3⟩
    have hu3 := Lib.hid ((new0_of_bel hb2.out).trans (new0_of_bel hb3))
    clear HG2 hb3 hb2
    go_wp2_with fail
    go_ret2
    exact Dd.no hD.out hu3.out
 ·have hD := Lib.hid (dec_one hg1 he he100)
  have d0 : ((e : Int) != 0) = true := by rw [bne_iff_ne]; omega
  clear hg1
  go_enter Tryz.func59, Tryz.ntmps59
  go_wp2_with fail
  refine HG1.out.mono ?_
  rintro e w2 ⟨rfl, hb2⟩
  replace hb2 := Lib.hid hb2
  clear HG1
  go_wp2_with fail
  go_ret2
  exact Dd.no hD.out (new0_of_bel hb2.out)
end Ck
end
end Go.Proofs.YtgmnhodajngchaaGreatDoor
