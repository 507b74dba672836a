/- The program's matchers (layer 11): getOne, Get. -/
import Derived.Test.YtckphnemnbejmaaMtAsk
set_option maxRecDepth 100000
namespace Go.Proofs.Ytckphnemnbejmaa
open Go.RowKit Go.Sort
namespace Mt
open Bit Dsk Ob Dig Lb
set_option linter.unusedVariables false

/-! ### a block of three cells -/
def Three (T : TypeId) (g : Nat) (a b c : Value) (w : World) : Prop := w.heap[g]? = some (.cells #[a, b, c] T (0, 0))
theorem Three.new {T : TypeId} {g : Nat} {a b c : Value} {w w' : World} (h : Three T g a b c w) (hu : New0 w w') : Three T g a b c w' :=
  (hu.block g (Array.getElem?_eq_some_iff.1 h).1 fun f => f).trans h
theorem Three.cells {T : TypeId} {g : Nat} {a b c : Value} {w : World} (h : Three T g a b c w) : w.cell? ⟨g, 0, none⟩ = some a ∧ w.cell? ⟨g, 1, none⟩ = some b ∧ w.cell? ⟨g, 2, none⟩ = some c :=
  ⟨by rw [Lib.cell_of_heap h]; rfl, by rw [Lib.cell_of_heap h]; rfl, by rw [Lib.cell_of_heap h]; rfl⟩
theorem Three.frozen {T : TypeId} {g : Nat} {a b c : Value} {w : World} (h : Three T g a b c w) (i : Nat) : w.frozen? ⟨g, i, none⟩ = false := by
  unfold Three at h
  simp [World.frozen?, h]
theorem Three.set0 {T : TypeId} {g : Nat} {a b c : Value} {w : World} (h : Three T g a b c w) (x : Value) : Three T g x b c (w.setCell ⟨g, 0, none⟩ x) := by unfold Three at *; simp [World.setCell, Array.getElem?_modify, h]
theorem Three.set1 {T : TypeId} {g : Nat} {a b c : Value} {w : World} (h : Three T g a b c w) (x : Value) : Three T g a x c (w.setCell ⟨g, 1, none⟩ x) := by unfold Three at *; simp [World.setCell, Array.getElem?_modify, h]
theorem Three.set2 {T : TypeId} {g : Nat} {a b c : Value} {w : World} (h : Three T g a b c w) (x : Value) : Three T g a b x (w.setCell ⟨g, 2, none⟩ x) := by unfold Three at *; simp [World.setCell, Array.getElem?_modify, h]
/-- What a walk that writes all three asks, and what is there then. -/
structure Roads (g : Nat) (a b c x y z : Value) (w : World) : Prop where
  c0 : w.cell? ⟨g, 0, none⟩ = some a
  f0 : w.frozen? ⟨g, 0, none⟩ = false
  c1 : (w.setCell ⟨g, 0, none⟩ x).cell? ⟨g, 1, none⟩ = some b
  f1 : (w.setCell ⟨g, 0, none⟩ x).frozen? ⟨g, 1, none⟩ = false
  c2 : ((w.setCell ⟨g, 0, none⟩ x).setCell ⟨g, 1, none⟩ y).cell? ⟨g, 2, none⟩ = some c
  f2 : ((w.setCell ⟨g, 0, none⟩ x).setCell ⟨g, 1, none⟩ y).frozen? ⟨g, 2, none⟩ = false
  e0 : (((w.setCell ⟨g, 0, none⟩ x).setCell ⟨g, 1, none⟩ y).setCell ⟨g, 2, none⟩ z).cell? ⟨g, 0, none⟩ = some x
  e1 : (((w.setCell ⟨g, 0, none⟩ x).setCell ⟨g, 1, none⟩ y).setCell ⟨g, 2, none⟩ z).cell? ⟨g, 1, none⟩ = some y
  e2 : (((w.setCell ⟨g, 0, none⟩ x).setCell ⟨g, 1, none⟩ y).setCell ⟨g, 2, none⟩ z).cell? ⟨g, 2, none⟩ = some z
theorem Three.roads {T : TypeId} {g : Nat} {a b c : Value} {w : World} (h : Three T g a b c w) (x y z : Value) : Roads g a b c x y z w :=
  have h1 := h.set0 x
  have h2 := h1.set1 y
  have h3 := h2.set2 z
  ⟨h.cells.1, h.frozen 0, h1.cells.2.1, h1.frozen 1, h2.cells.2.2, h2.frozen 2, h3.cells.1, h3.cells.2.1, h3.cells.2.2⟩
theorem upon_set3 {w0 w : World} {g : Nat} (h : New0 w0 w) (hg : w0.heap.size ≤ g) (x y z : Value) : New0 w0 (((w.setCell ⟨g, 0, none⟩ x).setCell ⟨g, 1, none⟩ y).setCell ⟨g, 2, none⟩ z) :=
  Upon.setCell (p := ⟨g, 2, none⟩) (Upon.setCell (p := ⟨g, 1, none⟩) (Upon.setCell (p := ⟨g, 0, none⟩) h (.inr hg) _) (.inr hg) _) (.inr hg) _

/-! ### one matcher -/
/-- A text at a place. -/
theorem text_at (s : ByteArray) (p : Nat) (hp : p ≤ s.size) (hs : s.size ≤ 4611686018427387904) (m : Int) (hm : m ≤ 9223372036854775807) : ∃ (a : ByteArray) (q x : Nat), Lb.txt m (s.data.toList.drop p) = (a, s.data.toList.drop (p + q), x) ∧ p + q ≤ s.size ∧ a.size ≤ 9223372036854775807 ∧
    ∀ w, Calls Try.prog 41 #[.string (s.extract p s.size), .int .i64 m] w fun e w' => e = .returned (.tuple #[.string a, .int .i64 (q : Int), .int .i64 (x : Int)]) ∧ New0 w w' := by
  obtain ⟨r, hr⟩ : ∃ r, s.extract p s.size = r := ⟨_, rfl⟩
  have hrs : r.size = s.size - p := by rw [← hr, ByteArray.size_extract]; omega
  obtain ⟨n, k, x, hg⟩ : ∃ n k x, gotT r.data.toList m = (n, k, x) := ⟨_, _, _, rfl⟩
  have ht := txt_is hg
  have hkl := gotT_le hg
  rw [Array.length_toList, ByteArray.size_data] at hkl
  have hl : (r.extract (k + n) r.size).data.toList = s.data.toList.drop (p + (k + n)) := by rw [drop_list, ← hr, drop_list, List.drop_drop]
  have hl0 : r.data.toList = s.data.toList.drop p := by rw [← hr, drop_list]
  refine ⟨r.extract k (k + n), k + n, x, ?_, by omega, by rw [ByteArray.size_extract]; omega, fun w => ?_⟩
  · rw [← hl0, ht, hl]
  · rw [hr]
    exact (gettext_is (s := r) (by omega) hm hg w).mono fun e w' ⟨h1, h2⟩ => ⟨h1, newOf h2⟩
/-- What getOne answers. -/
def OneE (w : World) (s : ByteArray) (e : Ending) (w' : World) : Prop :=
  (∃ (m : M) (k x : Nat), e = .returned (.tuple #[mv m, .int .i64 (k : Int), .int .i64 (x : Int)]) ∧ Bnd1 m ∧ ((x ≠ 0 ∧ (one s.data.toList).2.2 = x) ∨ (x = 0 ∧ k ≤ s.size ∧ one s.data.toList = (m, s.data.toList.drop k, 0)))) ∧ New0 w w'
def m0 : M := (0, ⟨#[]⟩, ⟨#[]⟩)
theorem m0_bnd : Bnd1 m0 := ⟨by decide, by decide, by decide, by decide⟩
theorem OneE.no {w w' : World} {s : ByteArray} {x : Nat} {z : Int} (h : (one s.data.toList).2.2 = x) (hx : x ≠ 0) (hz : z = x) (hu : New0 w w') : OneE w s (.returned (.tuple #[.agg #[.int .i64 0, .string ⟨#[]⟩, .string ⟨#[]⟩], .int .i64 0, .int .i64 z])) w' := by
  subst hz
  exact ⟨⟨m0, 0, x, rfl, m0_bnd, .inl ⟨hx, h⟩⟩, hu⟩
set_option maxHeartbeats 3200000 in
theorem getone_any (s : ByteArray) (hs : s.size ≤ 4611686018427387904) (w : World) :
    Calls Try.prog 29 #[.string s] w (OneE w s) := by
  obtain ⟨n, k, x, hg⟩ : ∃ n k x, gotN s.data.toList = (n, k, x) := ⟨_, _, _, rfl⟩
  have hks : k ≤ s.size := by
    have := (gotN_lt s.data.toList).2.2.1
    rw [hg] at this
    simpa using this
  have hn64 : n < 18446744073709551616 := by
    have := (gotN_lt s.data.toList).1
    rw [hg] at this
    exact this
  have HG : Hid (∀ w, Calls Try.prog 28 #[.string s] w fun e w' => e = .returned (.tuple #[.int .u64 (n : Int), .int .i64 (k : Int), .int .i64 (x : Int)]) ∧ New0 w w') := Lib.hid fun w => by
    have := Dig.get_any s (by omega) w
    rw [hg] at this
    exact this.mono fun e w' ⟨h1, h2⟩ => ⟨h1, newOf h2⟩
  have hb0 : Hid (Three 37 w.heap.size (.int .i64 0) (.string ⟨#[]⟩) (.string ⟨#[]⟩) (w.alloc (.cells #[.int .i64 0, .string ⟨#[]⟩, .string ⟨#[]⟩] 37 (0, 0)))) := Lib.hid (cell_new w _)
  have hNw := Lib.hid ((Upon.refl (fun _ => False) w).alloc (.cells #[.int .i64 0, .string ⟨#[]⟩, .string ⟨#[]⟩] 37 (0, 0)))
  by_cases hx : x = 0
  · subst hx
    by_cases hn : 4 < n
    · have hR := Lib.hid (one_kind hg hn)
      clear hg
      go_enter Try.func29, Try.ntmps29
      go_wp2_with fail
      refine (HG.out _).mono ?_
      rintro e w2 ⟨rfl, hu2⟩
      clear HG
      obtain ⟨c0, f0, c1, f1, c2, f2, e0, e1, e2⟩ := (hb0.out.new hu2).roads (.int .i64 0) (.string ⟨#[]⟩) (.string ⟨#[]⟩)
      have hN := Lib.hid (upon_set3 (hNw.out.trans hu2) (Nat.le_refl _) (.int .i64 0) (.string ⟨#[]⟩) (.string ⟨#[]⟩))
      clear hb0 hNw hu2
      go_wp2_with fail
      refine bodyPost_ret (v := .tuple #[.agg #[.int .i64 0, .string ⟨#[]⟩, .string ⟨#[]⟩], .int .i64 0, .int .i64 5]) (by simp [results, Try.results29, go_sem, e0, e1, e2]) rfl ?_
      exact OneE.no hR.out (by decide) rfl hN.out
    · obtain ⟨a, q, x1, t1, hq, ha, HT⟩ := text_at s k hks hs 32 (by decide)
      replace HT := Lib.hid HT
      by_cases hx1 : x1 = 0
      · subst hx1
        obtain ⟨b, q', x2, t2, hq', hbz, HT2⟩ := text_at s (k + q) hq hs 64 (by decide)
        replace HT2 := Lib.hid HT2
        have hsum : wrap64 ((k : Int) + (q : Int)) = ((k + q : Nat) : Int) := by unfold wrap64; omega
        by_cases hx2 : x2 = 0
        · subst hx2
          have hR : Hid (one s.data.toList = (((n : Int), a, b), s.data.toList.drop (k + q + q'), 0)) := Lib.hid (one_ok hg hn t1 t2)
          have hsum2 : wrap64 (((k + q : Nat) : Int) + (q' : Int)) = ((k + q + q' : Nat) : Int) := by unfold wrap64; omega
          have hcv : IntKind.i64.wrap (n : Int) = (n : Int) := by rw [IntKind.wrap_i64]; omega
          have hnk : (n : Int) ≤ 4 := by omega
          clear hg t1 t2 hn64
          go_enter Try.func29, Try.ntmps29
          go_wp2_with fail
          refine (HG.out _).mono ?_
          rintro e w2 ⟨rfl, hu2⟩
          have hu2' := Lib.hid (hNw.out.trans hu2)
          replace hb0 := Lib.hid (hb0.out.new hu2)
          clear HG hNw hu2
          go_wp2_with fail
          refine (HT.out _).mono ?_
          rintro e w3 ⟨rfl, hu3⟩
          replace hu2' := Lib.hid (hu2'.out.trans hu3)
          replace hb0 := Lib.hid (hb0.out.new hu3)
          clear HT hu3
          go_wp2_with fail
          refine (HT2.out _).mono ?_
          rintro e w4 ⟨rfl, hu4⟩
          obtain ⟨c0, f0, c1, f1, c2, f2, e0, e1, e2⟩ := (hb0.out.new hu4).roads (.int .i64 (n : Int)) (.string a) (.string b)
          have hN := Lib.hid (upon_set3 (hu2'.out.trans hu4) (Nat.le_refl _) (.int .i64 (n : Int)) (.string a) (.string b))
          clear hb0 hu2' hu4 HT2
          go_wp2_with fail
          refine bodyPost_ret (v := .tuple #[.agg #[.int .i64 (n : Int), .string a, .string b], .int .i64 ((k + q + q' : Nat) : Int), .int .i64 0]) (by simp [results, Try.results29, go_sem, e0, e1, e2]) rfl ?_
          exact ⟨⟨((n : Int), a, b), k + q + q', 0, rfl, ⟨by simp only; omega, by simp only; omega, ha, hbz⟩, .inr ⟨rfl, hq', hR.out⟩⟩, hN.out⟩
        · have hR := Lib.hid (one_value hg hn t1 t2 hx2)
          have d : ((x2 : Int) != 0) = true := by rw [bne_iff_ne]; omega
          replace hx2 := Lib.hid hx2
          have hnk : (n : Int) ≤ 4 := by omega
          clear hg t1 t2 hn64 hn
          go_enter Try.func29, Try.ntmps29
          go_wp2_with fail
          refine (HG.out _).mono ?_
          rintro e w2 ⟨rfl, hu2⟩
          have hu2' := Lib.hid (hNw.out.trans hu2)
          replace hb0 := Lib.hid (hb0.out.new hu2)
          clear HG hNw hu2
          go_wp2_with fail
          refine (HT.out _).mono ?_
          rintro e w3 ⟨rfl, hu3⟩
          replace hu2' := Lib.hid (hu2'.out.trans hu3)
          replace hb0 := Lib.hid (hb0.out.new hu3)
          clear HT hu3
          go_wp2_with fail
          refine (HT2.out _).mono ?_
          rintro e w4 ⟨rfl, hu4⟩
          obtain ⟨c0, f0, c1, f1, c2, f2, e0, e1, e2⟩ := (hb0.out.new hu4).roads (.int .i64 0) (.string ⟨#[]⟩) (.string ⟨#[]⟩)
          have hN := Lib.hid (upon_set3 (hu2'.out.trans hu4) (Nat.le_refl _) (.int .i64 0) (.string ⟨#[]⟩) (.string ⟨#[]⟩))
          clear hb0 hu2' hu4 HT2
          go_wp2_with fail
          refine bodyPost_ret (v := .tuple #[.agg #[.int .i64 0, .string ⟨#[]⟩, .string ⟨#[]⟩], .int .i64 0, .int .i64 (x2 : Int)]) (by simp [results, Try.results29, go_sem, e0, e1, e2]) rfl ?_
          exact OneE.no hR.out hx2.out rfl hN.out
      · have hR := Lib.hid (one_name hg hn t1 hx1)
        have d : ((x1 : Int) != 0) = true := by rw [bne_iff_ne]; omega
        replace hx1 := Lib.hid hx1
        have hnk : (n : Int) ≤ 4 := by omega
        clear hg t1 hn64 hn
        go_enter Try.func29, Try.ntmps29
        go_wp2_with fail
        refine (HG.out _).mono ?_
        rintro e w2 ⟨rfl, hu2⟩
        have hu2' := Lib.hid (hNw.out.trans hu2)
        replace hb0 := Lib.hid (hb0.out.new hu2)
        clear HG hNw hu2
        go_wp2_with fail
        refine (HT.out _).mono ?_
        rintro e w3 ⟨rfl, hu3⟩
        obtain ⟨c0, f0, c1, f1, c2, f2, e0, e1, e2⟩ := (hb0.out.new hu3).roads (.int .i64 0) (.string ⟨#[]⟩) (.string ⟨#[]⟩)
        have hN := Lib.hid (upon_set3 (hu2'.out.trans hu3) (Nat.le_refl _) (.int .i64 0) (.string ⟨#[]⟩) (.string ⟨#[]⟩))
        clear hb0 hu2' hu3 HT
        go_wp2_with fail
        refine bodyPost_ret (v := .tuple #[.agg #[.int .i64 0, .string ⟨#[]⟩, .string ⟨#[]⟩], .int .i64 0, .int .i64 (x1 : Int)]) (by simp [results, Try.results29, go_sem, e0, e1, e2]) rfl ?_
        exact OneE.no hR.out hx1.out rfl hN.out
  · have hR := Lib.hid (one_num hg hx)
    have d : ((x : Int) != 0) = true := by rw [bne_iff_ne]; omega
    replace hx := Lib.hid hx
    clear hg
    go_enter Try.func29, Try.ntmps29
    go_wp2_with fail
    refine (HG.out _).mono ?_
    rintro e w2 ⟨rfl, hu2⟩
    clear HG
    obtain ⟨c0, f0, c1, f1, c2, f2, e0, e1, e2⟩ := (hb0.out.new hu2).roads (.int .i64 0) (.string ⟨#[]⟩) (.string ⟨#[]⟩)
    have hN := Lib.hid (upon_set3 (hNw.out.trans hu2) (Nat.le_refl _) (.int .i64 0) (.string ⟨#[]⟩) (.string ⟨#[]⟩))
    clear hb0 hNw hu2
    go_wp2_with fail
    refine bodyPost_ret (v := .tuple #[.agg #[.int .i64 0, .string ⟨#[]⟩, .string ⟨#[]⟩], .int .i64 0, .int .i64 (x : Int)]) (by simp [results, Try.results29, go_sem, e0, e1, e2]) rfl ?_
    exact OneE.no hR.out hx.out rfl hN.out
/-! ### Get -/
theorem getone_at (s : ByteArray) (p : Nat) (hp : p ≤ s.size) (hs : s.size ≤ 4611686018427387904) (w : World) :
    Calls Try.prog 29 #[.string (s.extract p s.size)] w fun e w' => (∃ (k : Int) (a b : ByteArray) (q x : Nat), e = .returned (.tuple #[.agg #[.int .i64 k, .string a, .string b], .int .i64 (q : Int), .int .i64 (x : Int)]) ∧ Bnd1 (k, a, b) ∧
      ((x ≠ 0 ∧ (one (s.data.toList.drop p)).2.2 = x) ∨ (x = 0 ∧ p + q ≤ s.size ∧ one (s.data.toList.drop p) = ((k, a, b), s.data.toList.drop (p + q), 0)))) ∧ New0 w w' := by
  have hrs : (s.extract p s.size).size = s.size - p := by rw [ByteArray.size_extract]; omega
  refine (getone_any (s.extract p s.size) (by omega) w).mono ?_
  rintro e w' ⟨⟨⟨k, a, b⟩, q, x, he, hb, h⟩, hu⟩
  rw [drop_list] at h
  refine ⟨⟨k, a, b, q, x, he, hb, ?_⟩, hu⟩
  rcases h with h | ⟨h1, h2, h3⟩
  · exact .inl h
  · refine .inr ⟨h1, by omega, ?_⟩
    rw [h3, List.drop_drop]
/-- A row of matchers of the call's own. -/
def Own1 (w0 w : World) (u : Value) (l : List M) : Prop := Mine w u l ∧ (∀ g, u.ownBlock = some g → w0.heap.size ≤ g) ∧ New0 w0 w
theorem Own1.step {w0 w w' : World} {u : Value} {l : List M} (h : Own1 w0 w u l) (hu : New0 w w') : Own1 w0 w' u l := ⟨h.1.new hu, h.2.1, h.2.2.trans hu⟩
theorem Own1.app {w0 w w' : World} {u u' : Value} {l m : List M} (h : Own1 w0 w u l) (hown : Mine w' u' m) (hg : w.grownBy w' u.ownBlock) (hb : u'.ownBlock = u.ownBlock ∨ u'.ownBlock = some w.heap.size) : Own1 w0 w' u' m :=
  ⟨hown, fun g hk => by
    rw [hk] at hb
    rcases hb with hb | hb
    · exact h.2.1 g hb.symm
    · have : g = w.heap.size := by simpa using hb
      have := h.2.2.size
      omega, Rw.grown_new (v' := u') hg (fun g hk => h.2.1 g hk) w0 (Nat.le_refl _) h.2.2⟩
theorem view_twice (w : World) (o : Go.Obj) (k : Int) (a b : ByteArray) : View ((w.alloc o).alloc (.cells #[.int .i64 k, .string a, .string b] 37 (0, 0))) All (.slice (some ⟨w.heap.size + 1, 0, none⟩) 1 1) [(k, a, b)] := by
  have h := view_one (cell_new (w.alloc o) (.cells #[.int .i64 k, .string a, .string b] 37 (0, 0)))
  have e : (w.alloc o).heap.size = w.heap.size + 1 := by simp
  rw [e] at h
  exact h
theorem fits64 {s r : List UInt8} {n : Nat} (h : r = s.drop n) (hn : n ≤ s.length) : s.length - r.length = n := by rw [h, List.length_drop]; omega
set_option maxHeartbeats 6400000 in
theorem gete_any (w : World) (s : ByteArray) (hs : s.size ≤ 140737488355328) :
    Calls Try.prog 16 #[.string s] w fun e w' => GetE w s.data.toList e w' := by
  obtain ⟨n, k, x, hg⟩ : ∃ n k x, gotN s.data.toList = (n, k, x) := ⟨_, _, _, rfl⟩
  have hks : k ≤ s.size := by
    have := (gotN_lt s.data.toList).2.2.1
    rw [hg] at this
    simpa using this
  have hn64 : n < 18446744073709551616 := by
    have := (gotN_lt s.data.toList).1
    rw [hg] at this
    exact this
  have HG : Hid (∀ w, Calls Try.prog 28 #[.string s] w fun e w' => e = .returned (.tuple #[.int .u64 (n : Int), .int .i64 (k : Int), .int .i64 (x : Int)]) ∧ New0 w w') := Lib.hid fun w => by
    have := Dig.get_any s (by omega) w
    rw [hg] at this
    exact this.mono fun e w' ⟨h1, h2⟩ => ⟨h1, newOf h2⟩
  have HP := Lib.hid (fun p hp w => getone_at s p hp (by omega) w)
  obtain ⟨sl, hsl⟩ : ∃ sl, s.data.toList = sl := ⟨_, rfl⟩
  have hsn : sl.length = s.size := by rw [← hsl]; simp
  rw [hsl] at hg HP ⊢
  clear hsl
  by_cases hx : x = 0
  · subst hx
    by_cases hn : 8 < n
    · have hD := Lib.hid (got_no (by rw [tk_long hg hn]) (by decide : (8 : Nat) ≠ 0))
      clear hg HP
      go_enter Try.func16, Try.ntmps16
      go_wp2_with fail
      refine (HG.out _).mono ?_
      rintro e w2 ⟨rfl, hu2⟩
      replace hu2 := Lib.hid hu2
      clear HG
      go_wp2_with fail
      go_ret3
      exact GetE.no hD.out rfl hu2.out
    · have hn8 : n ≤ 8 := by omega
      have hbad := Lib.hid (fun e h he => got_no (tk_bad (e := e) hg hn h he ▸ rfl : (tk sl).2.2 = e) he)
      have hchk := Lib.hid (fun l r h hl => got_no (by rw [tk_chk (l := l) (r := r) hg hn h hl]) hl)
      have hgood := Lib.hid (fun l r h hl => got_ok (tk_ok (l := l) (r := r) hg hn h hl))
      obtain ⟨i0, z0, hi, hz0, hz1, hz2, -⟩ := typM.info
      replace hz1 : i0.size = 3 := hz1
      clear hg hn
      go_enter Try.func16, Try.ntmps16
      go_wp2_with fail
      refine (HG.out _).mono ?_
      rintro e w3 ⟨rfl, hu2⟩
      replace hu2 := Lib.hid hu2
      clear HG
      go_wp2_with (refine wpList_make_own _ rfl _ _ _ rfl 0 37 i0 _ 3 Try.underlying22 hi hz0 hz1 _ _ _ n rfl rfl rfl ?mk1 ?mk2 (Nat.zero_le _) ?_)
      case mk1 => rw [hz2]; omega
      case mk2 => unfold maxLen; omega
      intro w4 hrow hg4
      have hM : Hid (Own1 w w4 (.slice (some ⟨w3.heap.size, 0, none⟩) 0 n) []) := Lib.hid ⟨hrow, fun g hk => by
        have hk' : w3.heap.size = g := by simpa [Value.ownBlock] using hk
        have := hu2.out.size
        omega, Upon.grown hu2.out hg4 (fun g hk => by cases hk)⟩
      clear hrow hg4 hi hz0 hz1 hz2 hu2
      go_wp2_with fail
      go_loopw [6, 8, 27] (fun pv u ov wr => ∃ (j p : Nat) (l : List M), ov = .int .u64 (j : Int) ∧ pv = .int .i64 (p : Int) ∧ j ≤ n ∧ p ≤ s.size ∧ Hid (l.length = j) ∧ Hid (Bnd l) ∧ Hid (Read n (sl.drop k) j l (sl.drop p)) ∧ Hid (Own1 w wr u l)) (fun _ _ ov _ => n - (intOf ov).toNat)
      case atStart => exact ⟨0, k, [], rfl, rfl, Nat.zero_le _, hks, Lib.hid rfl, Lib.hid (fun p hp => by simp at hp), Lib.hid (Read.start _ _), hM⟩
      case round =>
        clear hM
        obtain ⟨j, p, l, rfl, rfl, hj, hp, hlj, hsm, hrd, ho⟩ := hrel
        by_cases hlt : j < n
        · have HP1 := Lib.hid (fun w => HP.out p hp w)
          clear HP
          have hfew : l.length ≤ 8 := by have := hlj.out; omega
          obtain ⟨A7, c7, hu7, -, -⟩ := Rw.View.shape ho.out.1.view
          subst hu7
          go_wp2_with fail
          refine (HP1.out _).mono ?_
          rintro e w5 ⟨⟨kd, a, b, q, x, rfl, hbm, hcase⟩, hu5⟩
          have ho5 := Lib.hid ((ho.out.step hu5).step ((Upon.refl _ w5).alloc (.cells #[.int .i64 kd, .string a, .string b] 37 (0, 0))))
          clear HP1 ho
          replace hbm := Lib.hid hbm
          by_cases hx0 : x = 0
          · subst hx0
            obtain ⟨hq, t1⟩ : p + q ≤ s.size ∧ one (sl.drop p) = ((kd, a, b), sl.drop (p + q), 0) := by
              rcases hcase with ⟨h, -⟩ | ⟨-, h⟩
              · exact absurd rfl h
              · exact h
            have hrd' := Lib.hid (hrd.out.step hlt t1)
            have hsm' := Lib.hid (Bnd.snoc hsm.out hbm.out)
            have hsum : wrap64 ((p : Int) + (q : Int)) = ((p + q : Nat) : Int) := by unfold wrap64; omega
            clear hcase t1 hrd hsm hbad hchk hgood hbm
            have hM := Lib.hid (ho5.out.1.new ((Upon.refl _ _).alloc (.cells #[.int .i64 kd, .string a, .string b] 37 (0, 0))))
            have hO := Lib.hid (ho5.out.step ((Upon.refl _ _).alloc (.cells #[.int .i64 kd, .string a, .string b] 37 (0, 0))))
            clear ho5
            have hX := Lib.hid (view_twice w5 (.cells #[.int .i64 kd, .string a, .string b] 37 (0, 0)) kd a b)
            go_wp2_with (at_builtin; refine Rw.wpList_append typM rfl _ _ rfl _ _ l [(kd, a, b)] All rfl rfl hM.out hX.out (by rw [List.length_singleton]; omega) (by rw [List.length_singleton]; omega) ?_)
            intro v' w6 hown hgr hbl
            have h6 := Lib.hid (hO.out.app hown hgr (hbl.imp id fun h => h.trans (by simp)))
            clear hM hO hX hown hgr hbl
            go_wp2_with fail
            go_roundw
            case rel => exact ⟨j + 1, p + q, _, by go_num, rfl, hlt, hq, Lib.hid (by rw [List.length_append, hlj.out]; rfl), hsm', hrd', h6⟩
            case measure => simp [intOf]; omega
          · have hD : Hid (got sl = ([], 0, x)) := Lib.hid (hbad.out x (by
              rcases hcase with ⟨-, h2⟩ | ⟨h, -⟩
              · exact hrd.out.bad hlt h2 hx0
              · exact absurd h hx0) hx0)
            have dx : ((x : Int) != 0) = true := by rw [bne_iff_ne]; omega
            clear hcase hrd hsm hbad hchk hgood hx0 hbm
            go_wp2_with fail
            go_ret3
            exact GetE.no hD.out rfl ho5.out.2.2
        · have hps := Lib.hid (hrd.out.last hlt)
          obtain ⟨A7, c7, hu7, -, -⟩ := Rw.View.shape ho.out.1.view
          subst hu7
          clear HP hrd
          by_cases hok : chk l = 0
          · have HC := Lib.hid (check_any _ _ _ l ho.out.1.view hsm.out)
            have hD := Lib.hid (hgood.out l _ hps.out hok)
            rw [hok] at HC
            clear hps hsm hbad hchk hgood hok
            go_wp2_with fail
            refine HC.out.mono ?_
            rintro e w7 ⟨rfl, hu7⟩
            have h7 := Lib.hid (ho.out.step hu7)
            clear HC ho hu7
            go_wp2_with fail
            go_ret3
            exact GetE.yes hD.out (by rw [List.length_drop]; omega) h7.out.1.view.all h7.out.2.2
          · have HC := Lib.hid (check_any _ _ _ l ho.out.1.view hsm.out)
            have hD := Lib.hid (hchk.out l _ hps.out hok)
            obtain ⟨z, hz⟩ : ∃ z, chk l = z := ⟨_, rfl⟩
            rw [hz] at HC hD hok
            have dz : ((z : Int) != 0) = true := by rw [bne_iff_ne]; omega
            clear hps hsm hbad hchk hgood hok hz
            go_wp2_with fail
            refine HC.out.mono ?_
            rintro e w7 ⟨rfl, hu7⟩
            have h7 := Lib.hid (ho.out.step hu7)
            clear HC ho hu7
            go_wp2_with fail
            go_ret3
            exact GetE.no hD.out rfl h7.out.2.2
  · have dx : ((x : Int) != 0) = true := by rw [bne_iff_ne]; omega
    have hD := Lib.hid (got_no (by rw [tk_num hg hx]) hx)
    clear hg HP hx
    go_enter Try.func16, Try.ntmps16
    go_wp2_with fail
    refine (HG.out _).mono ?_
    rintro e w2 ⟨rfl, hu2⟩
    replace hu2 := Lib.hid hu2
    clear HG
    go_wp2_with fail
    go_ret3
    exact GetE.no hD.out rfl hu2.out
end Mt
end Go.Proofs.Ytckphnemnbejmaa
