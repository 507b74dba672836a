/- The library's contract on slices.SortFunc, laid at this program (the laying in plain words, as the shelf's own tool prints it); the series, sorted (layer 13). -/
import Derived.Shelf.SlGeneric
import Derived.Shelf.SlSortCmp.Whole1
import Derived.Shelf.SlSortCmp.NoneTotal
import Derived.Ground.SlsfProg
import Derived.Test.YtfheehlfodoimaaGreatHdCmp
import Derived.Test.YtfheehlfodoimaaGreatHdIter
set_option maxRecDepth 100000
namespace Go.Proofs.YtfheehlfodoimaaGreat
open Go.RowKit Go.Sort Go.Shelf Go.Proofs
namespace Hd
def sortSer_ren : Go.Shelf.Ren := ⟨fun | 6 => 86 | 15 => 92 | 14 => 91 | 28 => 103 | 29 => 104 | 20 => 95 | 21 => 96 | 22 => 97 | 23 => 98 | 24 => 99 | 25 => 100 | 26 => 101 | 27 => 102 | 46 => 107 | 47 => 108 | 48 => 109 | 49 => 110 | 50 => 111 | 57 => 113 | n => n, fun | 22 => 111 | 24 => 82 | 25 => 114 | 3 => 3 | 39 => 125 | 0 => 0 | 53 => 140 | 55 => 40 | 4 => 4 | 46 => 134 | 45 => 133 | 50 => 78 | 5 => 5 | 9 => 9 | 66 => 143 | 70 => 147 | 76 => 149 | 77 => 63 | n => n, fun | n => n⟩
theorem sortSer : Go.Proofs.SlLaysF.n6 Tryz.prog sortSer_ren := {
  mixed := by kernel_rfl
  f6 := ⟨Tryz.f86.name, by decide, Tryz.func86.trans (congrArg some (by kernel_rfl))⟩
  f14 := ⟨Tryz.f91.name, by decide, Tryz.func91.trans (congrArg some (by kernel_rfl))⟩
  f15 := Tryz.func92.trans (congrArg some (by kernel_rfl))
  f20 := ⟨Tryz.f95.name, by decide, Tryz.func95.trans (congrArg some (by kernel_rfl))⟩
  f21 := ⟨Tryz.f96.name, by decide, Tryz.func96.trans (congrArg some (by kernel_rfl))⟩
  f22 := ⟨Tryz.f97.name, by decide, Tryz.func97.trans (congrArg some (by kernel_rfl))⟩
  f23 := ⟨Tryz.f98.name, by decide, Tryz.func98.trans (congrArg some (by kernel_rfl))⟩
  f24 := ⟨Tryz.f99.name, by decide, Tryz.func99.trans (congrArg some (by kernel_rfl))⟩
  f25 := ⟨Tryz.f100.name, by decide, Tryz.func100.trans (congrArg some (by kernel_rfl))⟩
  f26 := ⟨Tryz.f101.name, by decide, Tryz.func101.trans (congrArg some (by kernel_rfl))⟩
  f27 := ⟨Tryz.f102.name, by decide, Tryz.func102.trans (congrArg some (by kernel_rfl))⟩
  f28 := Tryz.func103.trans (congrArg some (by kernel_rfl))
  f29 := Tryz.func104.trans (congrArg some (by kernel_rfl))
  f46 := ⟨Tryz.f107.name, by decide, Tryz.func107.trans (congrArg some (by kernel_rfl))⟩
  f47 := Tryz.func108.trans (congrArg some (by kernel_rfl))
  f48 := Tryz.func109.trans (congrArg some (by kernel_rfl))
  f49 := ⟨Tryz.f110.name, by decide, Tryz.func110.trans (congrArg some (by kernel_rfl))⟩
  f50 := ⟨Tryz.f111.name, by decide, Tryz.func111.trans (congrArg some (by kernel_rfl))⟩
  f57 := ⟨Tryz.f113.name, by decide, Tryz.func113.trans (congrArg some (by kernel_rfl))⟩
  t0 := Tryz.underlying0
  a0 := Tryz.isAgg0
  z0 := Tryz.sizeOf0
  v0 := Tryz.zeroValue0
  t3 := Tryz.underlying3
  a3 := Tryz.isAgg3
  z3 := Tryz.sizeOf3
  v3 := Tryz.zeroValue3
  t4 := Tryz.underlying4
  a4 := Tryz.isAgg4
  z4 := Tryz.sizeOf4
  v4 := Tryz.zeroValue4
  t5 := Tryz.underlying5
  a5 := Tryz.isAgg5
  z5 := Tryz.sizeOf5
  v5 := Tryz.zeroValue5
  t9 := Tryz.underlying9
  a9 := Tryz.isAgg9
  z9 := Tryz.sizeOf9
  v9 := Tryz.zeroValue9
  t22 := Tryz.underlying111
  a22 := Tryz.isAgg111
  z22 := Tryz.sizeOf111
  v22 := Tryz.zeroValue111
  a24 := Tryz.isAgg82
  z24 := Tryz.sizeOf82
  t25 := Tryz.underlying114
  a25 := Tryz.isAgg114
  z25 := Tryz.sizeOf114
  v25 := Tryz.zeroValue114
  t39 := Tryz.underlying125
  a39 := Tryz.isAgg125
  z39 := Tryz.sizeOf125
  v39 := Tryz.zeroValue125
  t45 := Tryz.underlying133
  a45 := Tryz.isAgg133
  z45 := Tryz.sizeOf133
  v45 := Tryz.zeroValue133
  t46 := Tryz.underlying134
  a46 := Tryz.isAgg134
  z46 := Tryz.sizeOf134
  v46 := Tryz.zeroValue134
  t50 := Tryz.underlying78
  a50 := Tryz.isAgg78
  z50 := Tryz.sizeOf78
  v50 := Tryz.zeroValue78
  t53 := Tryz.underlying140
  a53 := Tryz.isAgg140
  z53 := Tryz.sizeOf140
  v53 := Tryz.zeroValue140
  t55 := Tryz.underlying40
  a55 := Tryz.isAgg40
  z55 := Tryz.sizeOf40
  v55 := Tryz.zeroValue40
  t66 := Tryz.underlying143
  a66 := Tryz.isAgg143
  z66 := Tryz.sizeOf143
  v66 := Tryz.zeroValue143
  t70 := Tryz.underlying147
  a70 := Tryz.isAgg147
  z70 := Tryz.sizeOf147
  v70 := Tryz.zeroValue147
  t76 := Tryz.underlying149
  a76 := Tryz.isAgg149
  z76 := Tryz.sizeOf149
  v76 := Tryz.zeroValue149
  t77 := Tryz.underlying63
  a77 := Tryz.isAgg63
  z77 := Tryz.sizeOf63
  v77 := Tryz.zeroValue63 }

open Bit Dsk Ob Dig Nm
set_option linter.unusedVariables false
theorem uponSort {α : Type} [Inhabited α] (enc : α → Value) (w : World) (g m : Nat) (dk : Array α) (os : Array Go.Obj) : Dsk.Upon (fun k => k = g) w (sortWorld enc w g 0 m dk os) := by
  refine ⟨rfl, rfl, rfl, ?_, fun k hk hn => ?_⟩
  · simp [sortWorld, grow, putRow, mapBlock, Sort.ahead]
  · show ((mapBlock (Sort.ahead w m) g (putCells enc 0 dk)).heap ++ os)[k]? = w.heap[k]?
    rw [Array.getElem?_append_left (by simp [mapBlock, Sort.ahead]; exact hk)]
    simp only [mapBlock, Array.getElem?_modify]
    rw [if_neg (fun e => hn e.symm)]
    rfl
theorem blkSort {α : Type} [Inhabited α] (enc : α → Value) (w : World) (g m : Nat) (dk : Array α) (os : Array Go.Obj) {cur : Array Value} {T : TypeId} (hg : w.heap[g]? = some (.cells cur T (0, 0))) : (sortWorld enc w g 0 m dk os).heap[g]? = some (.cells (putCells enc 0 dk cur) T (0, 0)) := by
  show ((mapBlock (Sort.ahead w m) g (putCells enc 0 dk)).heap ++ os)[g]? = _
  have hlt := (Array.getElem?_eq_some_iff.1 hg).1
  rw [Array.getElem?_append_left (by simp [mapBlock, Sort.ahead]; exact hlt)]
  simp only [mapBlock, Array.getElem?_modify, if_true]
  show (w.heap[g]?).map _ = _
  rw [hg]; rfl
theorem cmp_ix {h : H} (hs : Srt h) (i j : Fin h.length) : (Lb.cmp h[i].lab h[j].lab < 0) ↔ i < j := by
  constructor
  · intro hlt
    rcases Nat.lt_trichotomy i.1 j.1 with h1 | h1 | h1
    · exact h1
    · exfalso
      have : i = j := Fin.ext h1
      subst this
      rw [Lb.cmp_self] at hlt; omega
    · exfalso
      have h2 : Lt h[j].lab h[i].lab := hs.at j.2 i.2 h1
      exact lt_not_self _ (lt_trans (show Lt h[i].lab h[j].lab from hlt) h2)
  · intro hlt
    exact hs.at i.2 j.2 hlt
section
variable {A R : Nat → Prop} {p b : Nat} {N : Nms} {bs : List Nat} {rs : List RR} {h : H}
abbrev Ix (h : H) := Fin h.length
theorem go41 (args : Array Value) (W : World) : (callFunc 69 args).run Tryz.prog W = .ok (.enter 69 args) W := by kernel_rfl
/-- Whatever order they stood in: sorted, they stand in the head's. -/
theorem sort_is {n : Nat} [Inhabited (Fin n)] {d d' : Array (Fin n)} (hd : d.toList.Perm (List.finRange n)) (hp : PermIn 0 d.size d d') {lt : Fin n → Fin n → Bool} (hlt : ∀ i j, lt i j = decide (i < j)) (hs : SortedIn lt 0 d.size d') : d'.toList = List.finRange n := by
  obtain ⟨h1, -, h3⟩ := hp
  have e1 : (d'.extract 0 d.size).toList = d'.toList := by rw [← h1]; simp
  have e2 : (d.extract 0 d.size).toList = d.toList := by simp
  rw [e1, e2] at h3
  have hsz : d.size = n := by have := hd.length_eq; simpa using this
  refine List.Perm.eq_of_pairwise (le := fun a c => a ≤ c) (fun a c _ _ k1 k2 => Fin.le_antisymm k1 k2) ?_ ?_ (h3.trans hd)
  · rw [List.pairwise_iff_getElem]
    intro i j hi hj hij
    have hi' : i < d'.size := by simpa using hi
    have hj' : j < d'.size := by simpa using hj
    have := hs i j (Nat.zero_le _) hij (by omega)
    rw [hlt, getElem!_pos d' j hj', getElem!_pos d' i hi'] at this
    have k := of_decide_eq_false this
    rw [Array.getElem_toList, Array.getElem_toList]
    exact Fin.not_lt.1 k
  · rw [List.pairwise_iff_getElem]
    intro i j hi hj hij
    simp only [List.getElem_finRange]
    exact Nat.le_of_lt hij
theorem place {bs xs : List Nat} (hn : bs.Nodup) (hp : xs.Perm bs) (h0 : 0 < bs.length) : ∃ d : List (Fin bs.length), d.Perm (List.finRange bs.length) ∧ d.map (fun i => bs[i]) = xs := by
  refine ⟨xs.map fun s => ⟨bs.idxOf s % bs.length, Nat.mod_lt _ h0⟩, ?_, ?_⟩
  · have e : bs.map (fun s => (⟨bs.idxOf s % bs.length, Nat.mod_lt _ h0⟩ : Fin bs.length)) = List.finRange bs.length := by
      apply List.ext_getElem
      · simp
      · intro i h1 h2
        have hi : i < bs.length := by simpa using h1
        simp only [List.getElem_map, List.getElem_finRange]
        apply Fin.ext
        show bs.idxOf bs[i] % bs.length = i
        have hlt : bs.idxOf bs[i] < bs.length := List.idxOf_lt_length_of_mem (List.getElem_mem hi)
        have heq : bs[bs.idxOf bs[i]] = bs[i] := List.getElem_idxOf hlt
        have hix : bs.idxOf bs[i] = i := by
          rcases Nat.lt_trichotomy (bs.idxOf bs[i]) i with k | k | k
          · exact absurd heq (List.pairwise_iff_getElem.1 hn _ i hlt hi k)
          · exact k
          · exact absurd heq.symm (List.pairwise_iff_getElem.1 hn i _ hi hlt k)
        rw [hix, Nat.mod_eq_of_lt hi]
    rw [← e]
    exact hp.map _
  · rw [List.map_map]
    conv => rhs; rw [← List.map_id xs]
    apply List.map_congr_left
    intro s hs
    have hm : s ∈ bs := hp.mem_iff.1 hs
    have hi : bs.idxOf s < bs.length := List.idxOf_lt_length_of_mem hm
    show bs[bs.idxOf s % bs.length]'(Nat.mod_lt _ h0) = s
    simp only [Nat.mod_eq_of_lt hi]
    exact List.getElem_idxOf hi
theorem ltI {h : H} (hs : Srt h) (i j : Fin h.length) : ltOf (fun i j : Fin h.length => Lb.cmp h[i].lab h[j].lab) i j = decide (i < j) := by
  unfold ltOf
  exact decide_eq_decide.2 (cmp_ix hs i j)
theorem swoI {h : H} (hs : Srt h) : SWO (ltOf (fun i j : Fin h.length => Lb.cmp h[i].lab h[j].lab)) where
  irrefl x := by rw [ltI hs]; simp
  trans x y z h1 h2 := by
    rw [ltI hs] at *
    exact decide_eq_true (Fin.lt_trans (of_decide_eq_true h1) (of_decide_eq_true h2))
  ntrans x y z h1 h2 := by
    rw [ltI hs] at *
    have k1 := of_decide_eq_false h1
    have k2 := of_decide_eq_false h2
    exact decide_eq_false (fun k => by
      have : x.1 < z.1 := k
      have k1' : ¬ x.1 < y.1 := k1
      have k2' : ¬ y.1 < z.1 := k2
      omega)
theorem sortS_any (w : World) (hh : HeadP w A R p b N bs rs h) (hs : Srt h) (v : Value) (xs : List Nat) (hm : Rw.Mine layZ 82 w v xs) (hp : xs.Perm bs) (hfew : h.length ≤ 1000000000) (hnA : ∀ k, v.ownBlock = some k → ¬ A k ∧ ¬ R k) :
    Calls Tryz.prog 86 #[v, .func (.func 69) #[] #[]] w fun e w' => e = .returned (.tuple #[]) ∧ Rw.Mine layZ 82 w' v bs ∧ Dsk.Upon (fun k => v.ownBlock = some k) w w' := by
  have hbl := hh.blen
  have hxl := hp.length_eq
  by_cases h0 : 0 < h.length
  · obtain ⟨g, c, rfl, hc1, hc2, hglt⟩ : ∃ g c, v = .slice (some ⟨g, 0, none⟩) xs.length c ∧ xs.length ≤ c ∧ c ≤ maxLen ∧ g < w.heap.size := by
      rcases Rw.Mine.shape hm with ⟨-, e⟩ | k
      · rw [e] at hxl; simp at hxl; omega
      · exact k
    obtain ⟨d, hd1, hd2⟩ := place hh.nod hp (by omega)
    obtain ⟨hgA, hgR⟩ := hnA g rfl
    have hinh : Inhabited (Fin h.length) := ⟨⟨0, h0⟩⟩
    -- d over h's places
    obtain ⟨dd, hdd⟩ : ∃ dd : List (Fin h.length), dd = d.map (Fin.cast hbl) := ⟨_, rfl⟩
    have hdd1 : dd.Perm (List.finRange h.length) := by
      rw [hdd]
      have e : (List.finRange bs.length).map (Fin.cast hbl) = List.finRange h.length := by
        apply List.ext_getElem
        · simp [hbl]
        · intro i h1 h2
          simp
      rw [← e]
      exact hd1.map _
    obtain ⟨enc, henc⟩ : ∃ enc : Fin h.length → Value, enc = fun i => encQ (bs[i.1]'(by rw [hbl]; exact i.2)) := ⟨_, rfl⟩
    have hdd2 : dd.map enc = xs.map encQ := by
      rw [hdd, List.map_map, ← hd2, List.map_map]
      apply List.map_congr_left
      intro i _
      rw [henc]; rfl
    have hddl : dd.length = xs.length := by have := congrArg List.length hdd2; simpa using this
    have hcells : ∀ j (hj : j < xs.length), w.cell? ⟨g, j, none⟩ = some (encQ xs[j]) ∧ w.frozen? ⟨g, j, none⟩ = false := fun j hj => by
      have := Rw.Mine.cells hm hj (t := 0) rfl
      rw [show j * layZ.k + 0 = j by show j * 1 + 0 = j; omega] at this
      exact ⟨this, Rw.Mine.frozen hm j⟩
    have hH : Holds enc w g 0 dd.toArray := fun j hj => by
      have hj' : j < dd.length := by simpa using hj
      obtain ⟨k1, k2⟩ := hcells j (by omega)
      rw [Nat.zero_add, getElem!_pos dd.toArray j hj]
      refine ⟨?_, k2⟩
      rw [k1]
      have e : (dd.map enc)[j]'(by simpa using hj') = (xs.map encQ)[j]'(by simp; omega) := by simp only [hdd2]
      rw [List.getElem_map, List.getElem_map] at e
      simp only [List.getElem_toArray]
      rw [e]
    have hcmp : CmpLays1 Tryz.prog 69 #[] enc (fun i j : Fin h.length => Lb.cmp h[i].lab h[j].lab) g 0 dd.toArray.size w := fun m os dk _ x y => by
      have hu := uponSort enc w g m dk os
      have hhw := hh.upon hu (fun k hk e => hgA (e ▸ hk)) (fun k hk e => hgR (e ▸ hk))
      obtain ⟨hb1, hr1, hk1, hl1, -⟩ := hhw.at x.2
      obtain ⟨hb2, hr2, hk2, hl2, -⟩ := hhw.at y.2
      obtain ⟨A1, c1, e1, -, -⟩ := Rw.View.shape hl1
      obtain ⟨A2, c2, e2, -, -⟩ := Rw.View.shape hl2
      rw [e1] at hl1 hk1
      rw [e2] at hl2 hk2
      have ex : enc x = .pointer (some ⟨bs[x.1]'(by rw [hbl]; exact x.2), 0, none⟩) := by rw [henc]; rfl
      have ey : enc y = .pointer (some ⟨bs[y.1]'(by rw [hbl]; exact y.2), 0, none⟩) := by rw [henc]; rfl
      show Calls Tryz.prog 69 #[enc x, enc y] _ _
      rw [ex, ey]
      refine (scompare_any _ R _ _ A1 A2 c1 c2 _ _ hk1.cells.1 hk2.cells.1 hl1 hl2).mono ?_
      rintro e w' ⟨he, q, os', hw⟩
      exact ⟨he, q, os', hw⟩
    have hone : OneCell enc := fun x => by rw [henc]; rfl
    have hcall := Any.slices_SortFunc sortSer enc hone _ (swoI hs) 69 #[] g 0 c dd.toArray w go41 hcmp hH hglt (by simp; omega)
    have esz : #[Value.slice (some ⟨g, 0, none⟩) xs.length c, .func (.func 69) #[] #[]] = #[Value.slice (some ⟨g, 0, none⟩) dd.toArray.size c, .func (.func 69) #[] #[]] := by simp [hddl]
    rw [esz]
    refine hcall.mono ?_
    rintro e w' ⟨he, d', n, os, hpi, hsi, rfl⟩
    have hres := sort_is (d := dd.toArray) (d' := d') (by simpa using hdd1) hpi (ltI hs) hsi
    have hu := uponSort enc w g n d' os
    refine ⟨he, ?_, hu.mono fun k _ e => by rw [e]; rfl⟩
    rcases hm.2 with ⟨hv0, -⟩ | ⟨g', c', cur, hv, -, hg, k1, k2, k3, k4⟩
    · cases hv0
    · injection hv with e1 e2 e3
      injection e1 with e1
      injection e1 with e1
      subst e1 e3
      have hg2 := blkSort enc w g n d' os hg
      have hsz : d'.size = h.length := by rw [← Array.length_toList, hres]; simp
      have hbx : bs.length = xs.length := hxl.symm
      refine ⟨by rw [Rw.cells_len], .inr ⟨g, c, _, by rw [hbx], Nat.zero_le _, hg2, by omega, hc2, by simp [putCells]; exact k3, ?_⟩⟩
      apply List.ext_getElem
      · rw [Rw.cells_len, List.length_take]
        simp only [putCells, Array.length_toList, Array.size_mapIdx]
        have : bs.length * layZ.k ≤ cur.size := by rw [k3]; show bs.length * 1 ≤ c * 1; omega
        omega
      · intro i h1 h2
        have hi : i < bs.length := by rw [Rw.cells_len] at h2; have : bs.length * layZ.k = bs.length * 1 := rfl; omega
        rw [List.getElem_take, Array.getElem_toList]
        simp only [putCells, Array.getElem_mapIdx]
        rw [if_pos (by omega)]
        have e2 : d'[i - 0]! = (⟨i, by omega⟩ : Fin h.length) := by
          rw [Nat.sub_zero, getElem!_pos d' i (by omega), ← Array.getElem_toList]
          simp only [hres, List.getElem_finRange]
          rfl
        rw [e2, henc]
        have e3 := Rw.cells_get layZ bs i hi 0 (by decide)
        rw [show i * layZ.k + 0 = i by show i * 1 + 0 = i; omega] at e3
        have e4 : (Rw.cells layZ bs)[i] = encQ bs[i] := by
          have := List.getElem?_eq_getElem h2
          rw [this] at e3
          exact Option.some.inj e3
        rw [e4]
  · have hb0 : bs = [] := List.eq_nil_of_length_eq_zero (by omega)
    have hx0 : xs = [] := List.eq_nil_of_length_eq_zero (by omega)
    subst hb0 hx0
    obtain ⟨a, c, rfl, -, -⟩ := Rw.View.shape (Rw.Mine.view hm)
    exact (AnyF.slices_SortFunc_none { sortSer with } a c _ w).mono fun e w' ⟨h1, h2⟩ => ⟨h1, by rw [h2]; exact hm, by rw [h2]; exact Dsk.Upon.refl _ _⟩
end
end Hd
end Go.Proofs.YtfheehlfodoimaaGreat
