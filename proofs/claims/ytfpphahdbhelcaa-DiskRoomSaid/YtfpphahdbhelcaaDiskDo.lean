/- (*Disk).Remove, Rename, Append (layer 4). -/
import Derived.Test.YtfpphahdbhelcaaDiskSettle
import Derived.Deep.QuietTactic
import Derived.BigQuiet
namespace Go.Proofs.Ytfpphahdbhelcaa
open Go.RowKit
namespace Dsk
open Go.Maps

theorem run_look_some {w : World} {b : Nat} {fs : List Nat} {N : Nms} (h : MapAt w b fs N) {k : ByteArray} (hk : k.size ≤ maxLen) {i : Nat} (hi : lookN N k.data.toList = some i) :
    (Instr.lookup 57 (.map (some b)) (.string k) false).run Try.prog w = .ok (.pointer (some ⟨blk fs i, 0, none⟩)) w := by
  obtain ⟨v, ps, hrun, hv⟩ := World.ownsMap.lookup h keyed9 Try.underlying57 (zeroP w) (zd := .lit (.int .i64 (-1))) (zp := []) rfl (WideMaps.keyOf_string_mk Try.underlying9 hk)
  rw [toD_at, hi] at hv
  rw [hrun, ptrElem_inv hv]
theorem run_look_none {w : World} {b : Nat} {fs : List Nat} {N : Nms} (h : MapAt w b fs N) {k : ByteArray} (hk : k.size ≤ maxLen) (hi : lookN N k.data.toList = none) :
    (Instr.lookup 57 (.map (some b)) (.string k) false).run Try.prog w = .ok (.pointer none) w := by
  obtain ⟨v, ps, hrun, hv⟩ := World.ownsMap.lookup h keyed9 Try.underlying57 (zeroP w) (zd := .lit (.int .i64 (-1))) (zp := []) rfl (WideMaps.keyOf_string_mk Try.underlying9 hk)
  rw [toD_at, hi] at hv
  rw [hrun, ptrElem_none hv]

theorem DiskM.mono {w : World} {S T : Nat → Prop} {p : Nat} {st : St} {g : Ghost} (h : DiskM w S p st g) (hS : ∀ b, S b → T b) (hT : ∀ b, T b → b < w.heap.size) : DiskM w T p st g :=
  { h with files := h.files.mono hS, chs := h.chs.mono hS, s_p := hS _ h.s_p, s_n := hS _ h.s_n, s_l := hS _ h.s_l, lt := hT }
theorem DiskG.mono {w : World} {S T : Nat → Prop} {p : Nat} {st : St} {g : Ghost} (h : DiskG w S p st g) (hS : ∀ b, S b → T b) (hT : ∀ b, T b → b < w.heap.size) : DiskG w T p st g :=
  { h.toDiskM.mono hS hT with fine := h.fine }

theorem quiet_upon (w : World) (n : Nat) : Upon (fun _ => False) w (w.drewN n) := ⟨rfl, rfl, rfl, Nat.le_refl _, fun _ _ _ => rfl⟩

theorem lookN_small {st : St} (h : Fine st) {k : Str} {i : Nat} (hi : lookN st.N k = some i) : nameOk k := h.nmN.nm _ (mem_of_look hi)

/-- The change is done with a closure over boxes that are new. -/
theorem chg_step {w w1 : World} {S S' : Nat → Prop} {p : Nat} {st : St} {g : Ghost} (hd : DiskG w1 S' p st g) (hb : Been S S' w w1) {T : Nat → Prop} (hT : ∀ b, T b → w.heap.size ≤ b ∧ b < w1.heap.size) :
    DiskG w1 (fun b => S' b ∨ T b) p st g ∧ Been S (fun b => S' b ∨ T b) w w1 := by
  refine ⟨hd.mono (fun b h => .inl h) (fun b h => h.elim (hd.lt b) fun h => (hT b h).2), fun b h => .inl (hb.sub b h), fun b h => ?_, hb.upon⟩
  rcases h with h | h
  · exact hb.new b h
  · exact .inr (hT b h).1

set_option maxHeartbeats 3200000 in
set_option maxRecDepth 100000 in
theorem rem_any (S : Nat → Prop) (p : Nat) (st : St) (s : ByteArray) (hs : s.size ≤ maxLen) (hC : st.C.length ≤ 1000000000) (w : World) (h : IsDisk w S p st) :
    Calls Try.prog 29 #[.pointer (some ⟨p, 0, none⟩), .string s] w fun e w' => e = .returned (.int .i64 (remE st s.data.toList)) ∧ Step S p (remS st s.data.toList) w w' := by
  -- the box of the name
  have hu0 : Upon (fun _ => False) w (w.alloc (.cells #[.string s] 9 (0, 0))) := (Upon.refl _ w).alloc _
  have h0 : IsDisk (w.alloc (.cells #[.string s] 9 (0, 0))) S p st := h.upon hu0 fun _ _ h => h
  have hlt := h.lt
  cases hb : wrB st with
  | false =>
    have e1 : remE st s.data.toList = 11 := by simp [remE, hb]
    have e2 : remS st s.data.toList = wrS st := by simp [remS, hb]
    rw [e1, e2]
    have HW := Lib.hid (wr_is S p st _ h0 hb)
    have HU := Lib.hid hu0
    clear h h0 hb e1 e2 hlt hu0
    go_enter Try.func29, Try.ntmps29
    go_wp2_with fail
    refine HW.out.mono ?_
    rintro e w1 ⟨rfl, hs1⟩
    have HS := Lib.hid (Step.first HU.out hs1)
    clear hs1
    go_wp2
    go_ret
    exact ⟨rfl, HS.out⟩
  | true =>
    have HW := Lib.hid (wr_is S p st _ h0 hb)
    have HU := Lib.hid hu0
    have HLT := Lib.hid hlt
    have hbox : ∀ w1, Step S p (wrS st) (w.alloc (.cells #[.string s] 9 (0, 0))) w1 → w1.heap[w.heap.size]? = some (.cells #[.string s] 9 (0, 0)) := fun w1 h1 =>
      (h1.upon.block w.heap.size (by simp) (fun hS => by have := hlt _ hS; omega)).trans (cell_new w _)
    have HB := Lib.hid hbox
    cases hl : lookN st.N s.data.toList with
    | none =>
      have e1 : remE st s.data.toList = 12 := by simp [remE, hb, hl]
      have e2 : remS st s.data.toList = wrS st := by simp [remS, hl]
      rw [e1, e2]
      have HL := Lib.hid (show lookN (wrS st).N s.data.toList = none by rw [wrS_N]; exact hl)
      clear h h0 hb e1 e2 hlt hu0 hl hbox
      go_enter Try.func29, Try.ntmps29
      go_wp2_with fail
      refine HW.out.mono ?_
      rintro e w1 ⟨rfl, hs1⟩
      have HS := Lib.hid (Step.first HU.out hs1)
      have cb := cell_of_one (HB.out w1 hs1)
      obtain ⟨S', g, hd, hbn⟩ := hs1.get
      obtain ⟨-, -, -, k3, -, -, -⟩ := c6 hd.cell
      have hlk := fun n => run_look_none (w := w1.drewN n) (hd.now.kept rfl) hs HL.out
      clear hs1 hd hbn
      go_wp2_with fail
      go_quiet (fail)
      go_wp2
      go_ret
      exact ⟨rfl, HS.out.then (quiet_upon _ _)⟩
    | some i =>
      have e1 : remE st s.data.toList = 0 := by simp [remE, hb, hl]
      have e2 : remS st s.data.toList = chg (wrS st) (.del s.data.toList) := by simp [remS, hb, hl]
      rw [e1, e2]
      have HL := Lib.hid (show lookN (wrS st).N s.data.toList = some i by rw [wrS_N]; exact hl)
      have hC' : (wrS st).C.length ≤ 1000000000 := by rw [wrS_C]; exact hC
      clear h h0 hb e1 e2 hlt hu0 hl hbox hC
      obtain ⟨st1, hst1⟩ : ∃ s, s = wrS st := ⟨_, rfl⟩
      rw [← hst1] at HW HB HL hC' ⊢
      clear hst1
      go_enter Try.func29, Try.ntmps29
      go_wp2_with fail
      refine HW.out.mono ?_
      rintro e w1 ⟨rfl, hs1⟩
      have hbx := HB.out w1 hs1
      have cb := cell_of_one hbx
      obtain ⟨S', g, hd, hbn⟩ := hs1.get
      obtain ⟨-, -, -, k3, -, -, -⟩ := c6 hd.cell
      have hlk := fun n => run_look_some (w := w1.drewN n) (hd.now.kept rfl) hs HL.out
      have hbn2 : Been S S' w w1 := ⟨hbn.sub, fun b h => (hbn.new b h).elim .inl fun h => .inr (Nat.le_trans HU.out.size h), (HU.out.mono fun _ _ h => h.elim).trans' hbn.upon fun _ _ h => h⟩
      obtain ⟨hd2, hb2⟩ := chg_step hd hbn2 (T := fun b => b = w.heap.size) (fun b h => by subst h; exact ⟨Nat.le_refl _, lt_of_block hbx⟩)
      have hch : ∀ n, ChAt (w1.drewN n) (fun b => S' b ∨ b = w.heap.size) g.fs (.del s.data.toList) (.func (.func 52) #[] #[.pointer (some ⟨w.heap.size, 0, none⟩)]) := fun n => ⟨_, s, rfl, ⟨.inr rfl, hbx⟩, rfl⟩
      have hfin := fun n => change_any (fun b => S' b ∨ b = w.heap.size) p st1 g (.del s.data.toList) _ (w1.drewN n) (hd2.kept (fun _ _ => rfl) (Nat.le_refl _)) (hch n) (by simp [okC, HL.out]) (lookN_small hd.fine HL.out) hC'
      have HF := Lib.hid hfin
      have HB2 := Lib.hid hb2
      clear hs1 hd hbn hd2 hb2 hch hfin hbn2 hbx
      go_wp2_with fail
      go_quiet (fail)
      go_wp2_with fail
      refine (HF.out _).mono ?_
      rintro e w2 ⟨rfl, hs2⟩
      have HX := Lib.hid (HB2.out.step (Step.first (quiet_upon _ _) hs2.step))
      clear hs2
      go_wp2
      go_ret
      exact ⟨rfl, HX.out⟩
set_option maxHeartbeats 3200000 in
set_option maxRecDepth 100000 in
theorem ren_any (S : Nat → Prop) (p : Nat) (st : St) (s t : ByteArray) (hs : s.size ≤ maxLen) (ht : t.size ≤ maxLen) (hC : st.C.length ≤ 1000000000) (w : World) (h : IsDisk w S p st) :
    Calls Try.prog 25 #[.pointer (some ⟨p, 0, none⟩), .string s, .string t] w fun e w' => e = .returned (.int .i64 (renE st s.data.toList t.data.toList)) ∧ Step S p (renS st s.data.toList t.data.toList) w w' := by
  have hu0 : Upon (fun _ => False) w ((w.alloc (.cells #[.string s] 9 (0, 0))).alloc (.cells #[.string t] 9 (0, 0))) := ((Upon.refl _ w).alloc _).alloc _
  have h0 : IsDisk ((w.alloc (.cells #[.string s] 9 (0, 0))).alloc (.cells #[.string t] 9 (0, 0))) S p st := h.upon hu0 fun _ _ h => h
  have hlt := h.lt
  cases hb : wrB st with
  | false =>
    have e1 : renE st s.data.toList t.data.toList = 11 := by simp [renE, hb]
    have e2 : renS st s.data.toList t.data.toList = wrS st := by simp [renS, hb]
    rw [e1, e2]
    have HW := Lib.hid (wr_is S p st _ h0 hb)
    have HU := Lib.hid hu0
    clear h h0 hb e1 e2 hlt hu0
    go_enter Try.func25, Try.ntmps25
    go_wp2_with fail
    refine HW.out.mono ?_
    rintro e w1 ⟨rfl, hs1⟩
    have HS := Lib.hid (Step.first HU.out hs1)
    clear hs1
    go_wp2
    go_ret
    exact ⟨rfl, HS.out⟩
  | true =>
    have HW := Lib.hid (wr_is S p st _ h0 hb)
    have HU := Lib.hid hu0
    have hbox : ∀ w1, Step S p (wrS st) ((w.alloc (.cells #[.string s] 9 (0, 0))).alloc (.cells #[.string t] 9 (0, 0))) w1 → w1.heap[w.heap.size]? = some (.cells #[.string s] 9 (0, 0)) ∧ w1.heap[w.heap.size + 1]? = some (.cells #[.string t] 9 (0, 0)) := fun w1 h1 => by
      have e1 : (w.alloc (.cells #[.string s] 9 (0, 0))).heap.size = w.heap.size + 1 := by simp
      have n2 := cell_new (w.alloc (.cells #[.string s] 9 (0, 0))) (.cells #[.string t] 9 (0, 0))
      rw [e1] at n2
      exact ⟨((h1.upon.block w.heap.size (by simp; omega) (fun hS => by have := hlt _ hS; omega)).trans (Below.heap_alloc _ _ _ (by simp))).trans (cell_new w _), (h1.upon.block (w.heap.size + 1) (by simp) (fun hS => by have := hlt _ hS; omega)).trans n2⟩
    have HB := Lib.hid hbox
    cases hl : lookN st.N s.data.toList with
    | none =>
      have e1 : renE st s.data.toList t.data.toList = 12 := by simp [renE, hb, hl]
      have e2 : renS st s.data.toList t.data.toList = wrS st := by simp [renS, hl]
      rw [e1, e2]
      have HL := Lib.hid (show lookN (wrS st).N s.data.toList = none by rw [wrS_N]; exact hl)
      clear h h0 hb e1 e2 hlt hu0 hl hbox
      go_enter Try.func25, Try.ntmps25
      go_wp2_with fail
      refine HW.out.mono ?_
      rintro e w1 ⟨rfl, hs1⟩
      have HS := Lib.hid (Step.first HU.out hs1)
      have cb := cell_of_one (HB.out w1 hs1).1
      obtain ⟨S', g, hd, hbn⟩ := hs1.get
      obtain ⟨-, -, -, k3, -, -, -⟩ := c6 hd.cell
      have hlk := fun n => run_look_none (w := w1.drewN n) (hd.now.kept rfl) hs HL.out
      clear hs1 hd hbn
      go_wp2_with fail
      go_quiet (fail)
      go_wp2
      go_ret
      exact ⟨rfl, HS.out.then (quiet_upon _ _)⟩
    | some i =>
      have HL := Lib.hid (show lookN (wrS st).N s.data.toList = some i by rw [wrS_N]; exact hl)
      cases hn : isName t.data.toList with
      | false =>
        have e1 : renE st s.data.toList t.data.toList = 3 := by simp [renE, hb, hl, hn]
        have e2 : renS st s.data.toList t.data.toList = wrS st := by simp [renS, hn]
        rw [e1, e2]
        have HN := Lib.hid (name_is t ht hn)
        clear h h0 hb e1 e2 hlt hu0 hl hbox hn
        go_enter Try.func25, Try.ntmps25
        go_wp2_with fail
        refine HW.out.mono ?_
        rintro e w1 ⟨rfl, hs1⟩
        have HS := Lib.hid (Step.first HU.out hs1)
        have cb := cell_of_one (HB.out w1 hs1).1
        have cb2 := cell_of_one (HB.out w1 hs1).2
        obtain ⟨S', g, hd, hbn⟩ := hs1.get
        obtain ⟨-, -, -, k3, -, -, -⟩ := c6 hd.cell
        have hlk := fun n => run_look_some (w := w1.drewN n) (hd.now.kept rfl) hs HL.out
        clear hs1 hd hbn
        go_wp2_with fail
        go_quiet (fail)
        go_wp2_with fail
        refine (HN.out _).mono ?_
        rintro e w2 ⟨rfl, rfl⟩
        go_wp2
        go_ret
        exact ⟨rfl, HS.out.then (quiet_upon _ _)⟩
      | true =>
        have e1 : renE st s.data.toList t.data.toList = 0 := by simp [renE, hb, hl, hn]
        have e2 : renS st s.data.toList t.data.toList = chg (wrS st) (.move s.data.toList t.data.toList i) := by simp [renS, hb, hl, hn]
        rw [e1, e2]
        have HN := Lib.hid (name_is t ht hn)
        have HT := Lib.hid (show nameOk t.data.toList by unfold isName at hn; simp at hn; simp [nameOk]; omega)
        have hC' : (wrS st).C.length ≤ 1000000000 := by rw [wrS_C]; exact hC
        clear h h0 hb e1 e2 hlt hu0 hl hbox hC hn
        obtain ⟨st1, hst1⟩ : ∃ s, s = wrS st := ⟨_, rfl⟩
        rw [← hst1] at HW HB HL hC' ⊢
        clear hst1
        go_enter Try.func25, Try.ntmps25
        go_wp2_with fail
        refine HW.out.mono ?_
        rintro e w1 ⟨rfl, hs1⟩
        obtain ⟨hbx, hby⟩ := HB.out w1 hs1
        have cb := cell_of_one hbx
        have cb2 := cell_of_one hby
        obtain ⟨S', g, hd, hbn⟩ := hs1.get
        obtain ⟨-, -, -, k3, -, -, -⟩ := c6 hd.cell
        have hlk := fun n => run_look_some (w := w1.drewN n) (hd.now.kept rfl) hs HL.out
        have hbn2 : Been S S' w w1 := ⟨hbn.sub, fun b h => (hbn.new b h).elim .inl fun h => .inr (Nat.le_trans HU.out.size h), (HU.out.mono fun _ _ h => h.elim).trans' hbn.upon fun _ _ h => h⟩
        obtain ⟨hd2, hb2⟩ := chg_step hd hbn2 (T := fun b => b = w.heap.size ∨ b = w.heap.size + 1) (fun b h => by
          rcases h with h | h
          · subst h; exact ⟨Nat.le_refl _, lt_of_block hbx⟩
          · subst h; exact ⟨by omega, lt_of_block hby⟩)
        have hch : ∀ n, ChAt (w1.drewN n) (fun b => S' b ∨ (b = w.heap.size ∨ b = w.heap.size + 1)) g.fs (.move s.data.toList t.data.toList i) (.func (.func 48) #[] #[.pointer (some ⟨w.heap.size, 0, none⟩), .pointer (some ⟨w.heap.size + 1, 0, none⟩)]) := fun n => ⟨_, _, s, t, rfl, ⟨.inr (.inl rfl), hbx⟩, ⟨.inr (.inr rfl), hby⟩, rfl, rfl⟩
        have hfin := fun n => change_any (fun b => S' b ∨ (b = w.heap.size ∨ b = w.heap.size + 1)) p st1 g (.move s.data.toList t.data.toList i) _ (w1.drewN n) (hd2.kept (fun _ _ => rfl) (Nat.le_refl _)) (hch n) HL.out ⟨lookN_small hd.fine HL.out, HT.out, hd.fine.nmN.ins _ (mem_of_look HL.out)⟩ hC'
        have HF := Lib.hid hfin
        have HB2 := Lib.hid hb2
        clear hs1 hd hbn hd2 hb2 hch hfin hbn2 hbx hby
        go_wp2_with fail
        go_quiet (fail)
        go_wp2_with fail
        refine (HN.out _).mono ?_
        rintro e w2 ⟨rfl, rfl⟩
        go_wp2_with fail
        refine (HF.out _).mono ?_
        rintro e w2 ⟨rfl, hs2⟩
        have HX := Lib.hid (HB2.out.step (Step.first (quiet_upon _ _) hs2.step))
        clear hs2
        go_wp2
        go_ret
        exact ⟨rfl, HX.out⟩
end Dsk
end Go.Proofs.Ytfpphahdbhelcaa
