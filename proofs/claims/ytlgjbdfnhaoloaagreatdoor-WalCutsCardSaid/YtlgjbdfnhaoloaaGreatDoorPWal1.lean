/- Parts, put together: WalStrc, WalPure, WalMem, WalFound, WalFr, WalAll. -/
import Derived.Shelf.LaysM
import Derived.Shelf.Strconv.Itoa3
import Derived.Shelf.LaysC
import Derived.Shelf.Strconv.AtoiAll
import Derived.Test.YtlgjbdfnhaoloaaGreatDoorProg
import Derived.Test.YtlgjbdfnhaoloaaGreatDoorPDisk1
import Derived.Test.YtlgjbdfnhaoloaaGreatDoorPFrame
import Derived.Lib.ItoaNum
import Derived.Lib.ItoaMem
import Derived.Lib.AtoiTie
import Derived.Lib.AtoiAll
import Derived.Test.YtlgjbdfnhaoloaaGreatDoorPDisk3
import Derived.Lib.ItoaLen
import Derived.Lib.SmallJoins
import Derived.Deep.RegionHeld3
import Derived.Deep.AppendLies
import Derived.Deep.RegionWith
import Derived.Deep.RegionLaw
import Derived.Outline

/- The library's contracts on strconv.Itoa and strconv.Atoi, laid at this program: the layings in plain words, as the shelf's own tool prints them. -/
section
namespace Go.Proofs.YtlgjbdfnhaoloaaGreatDoor
open Go.Shelf Go.Proofs
namespace Strc
def laysM171_ren : Go.Shelf.Ren := ⟨fun | 171 => 81 | 243 => 93 | 246 => 104 | 283 => 119 | 284 => 120 | 285 => 121 | 286 => 122 | 129 => 115 | 317 => 131 | 318 => 132 | 319 => 133 | 320 => 134 | 337 => 136 | 338 => 137 | n => n, fun | 3 => 3 | 9 => 9 | 2 => 2 | 4 => 4 | 171 => 148 | 0 => 0 | 53 => 33 | 37 => 42 | 5 => 5 | 173 => 150 | 212 => 163 | 51 => 88 | 20 => 20 | 213 => 164 | 46 => 107 | 232 => 169 | 233 => 170 | n => n, fun | 17 => 3 | 18 => 4 | 19 => 5 | n => n⟩
theorem laysM171 : Go.Proofs.LaysM.n171 Tryz.prog laysM171_ren := {
  mixed := by kernel_rfl
  f129 := Tryz.func115.trans (congrArg some (by kernel_rfl))
  f171 := Tryz.func81.trans (congrArg some (by kernel_rfl))
  f243 := Tryz.func93.trans (congrArg some (by kernel_rfl))
  f246 := Tryz.func104.trans (congrArg some (by kernel_rfl))
  f283 := Tryz.func119.trans (congrArg some (by kernel_rfl))
  f284 := Tryz.func120.trans (congrArg some (by kernel_rfl))
  f285 := Tryz.func121.trans (congrArg some (by kernel_rfl))
  f286 := Tryz.func122.trans (congrArg some (by kernel_rfl))
  f317 := Tryz.func131.trans (congrArg some (by kernel_rfl))
  f318 := Tryz.func132.trans (congrArg some (by kernel_rfl))
  f319 := Tryz.func133.trans (congrArg some (by kernel_rfl))
  f320 := Tryz.func134.trans (congrArg some (by kernel_rfl))
  f337 := Tryz.func136.trans (congrArg some (by kernel_rfl))
  f338 := Tryz.func137.trans (congrArg some (by kernel_rfl))
  t0 := Tryz.underlying0
  a0 := Tryz.isAgg0
  z0 := Tryz.sizeOf0
  v0 := Tryz.zeroValue0
  t2 := Tryz.underlying2
  a2 := Tryz.isAgg2
  z2 := Tryz.sizeOf2
  v2 := Tryz.zeroValue2
  t3 := Tryz.underlying3
  a3 := Tryz.isAgg3
  z3 := Tryz.sizeOf3
  v3 := Tryz.zeroValue3
  t4 := Tryz.underlying4
  a4 := Tryz.isAgg4
  z4 := Tryz.sizeOf4
  v4 := Tryz.zeroValue4
  t5 := Tryz.underlying5
  a5 := Tryz.isAgg5
  z5 := Tryz.sizeOf5
  v5 := Tryz.zeroValue5
  t9 := Tryz.underlying9
  a9 := Tryz.isAgg9
  z9 := Tryz.sizeOf9
  v9 := Tryz.zeroValue9
  t20 := Tryz.underlying20
  a20 := Tryz.isAgg20
  z20 := Tryz.sizeOf20
  v20 := Tryz.zeroValue20
  t37 := Tryz.underlying42
  a37 := Tryz.isAgg42
  z37 := Tryz.sizeOf42
  v37 := Tryz.zeroValue42
  t46 := Tryz.underlying107
  a46 := Tryz.isAgg107
  z46 := Tryz.sizeOf107
  v46 := Tryz.zeroValue107
  t51 := Tryz.underlying88
  a51 := Tryz.isAgg88
  z51 := Tryz.sizeOf88
  v51 := Tryz.zeroValue88
  t53 := Tryz.underlying33
  a53 := Tryz.isAgg33
  z53 := Tryz.sizeOf33
  v53 := Tryz.zeroValue33
  t171 := Tryz.underlying148
  a171 := Tryz.isAgg148
  z171 := Tryz.sizeOf148
  v171 := Tryz.zeroValue148
  t173 := Tryz.underlying150
  a173 := Tryz.isAgg150
  z173 := Tryz.sizeOf150
  v173 := Tryz.zeroValue150
  t212 := Tryz.underlying163
  a212 := Tryz.isAgg163
  z212 := Tryz.sizeOf163
  v212 := Tryz.zeroValue163
  t213 := Tryz.underlying164
  a213 := Tryz.isAgg164
  z213 := Tryz.sizeOf164
  t232 := Tryz.underlying169
  a232 := Tryz.isAgg169
  z232 := Tryz.sizeOf169
  v232 := Tryz.zeroValue169
  t233 := Tryz.underlying170
  a233 := Tryz.isAgg170
  z233 := Tryz.sizeOf170
  v233 := Tryz.zeroValue170
  g17 := by kernel_rfl
  g18 := by kernel_rfl
  g19 := by kernel_rfl
  i0 := by kernel_rfl
  i2 := by kernel_rfl
  i3 := by kernel_rfl
  i4 := by kernel_rfl
  i5 := by kernel_rfl
  i9 := by kernel_rfl
  i20 := by kernel_rfl
  i37 := by kernel_rfl
  i46 := by kernel_rfl
  i51 := by kernel_rfl
  i53 := by kernel_rfl
  i171 := by kernel_rfl
  i173 := by kernel_rfl
  i212 := by kernel_rfl
  i232 := by kernel_rfl
  i233 := by kernel_rfl
  m17 := by kernel_rfl
  m18 := by kernel_rfl
  m19 := by kernel_rfl }
open Go.RowKit Go.Sort Go.Lib in
theorem strconv_Itoa (n : Int) (h0 : -9223372036854775808 ≤ n) (h1 : n ≤ 9223372036854775807) (w : World) (htab : Lib.TabIs Tryz.prog w "internal/strconv.uint64pow10" .u64 Lib.pow10Tab) :
    Calls Tryz.prog 81 #[.int .i64 n] w fun e w' => e = .returned (.string ⟨(Lib.itoa n).toArray⟩) ∧ ∃ k os, w' = grow (w.drewN k) os := Any.strconv_Itoa laysM171 n h0 h1 w htab
def laysC172_ren : Go.Shelf.Ren := ⟨fun | 172 => 76 | 244 => 89 | 245 => 90 | 247 => 99 | 279 => 100 | 280 => 101 | 281 => 102 | 282 => 103 | 287 => 116 | 316 => 117 | 171 => 81 | 205 => 118 | 321 => 129 | 322 => 130 | 243 => 93 | 246 => 104 | 283 => 119 | 284 => 120 | 285 => 121 | 286 => 122 | 129 => 115 | 317 => 131 | 318 => 132 | 319 => 133 | 320 => 134 | 337 => 136 | 338 => 137 | n => n, fun | 9 => 9 | 3 => 3 | 75 => 94 | 76 => 95 | 4 => 4 | 5 => 5 | 167 => 125 | 37 => 42 | 0 => 0 | 85 => 126 | 2 => 2 | 168 => 128 | 53 => 33 | 175 => 143 | 46 => 107 | 210 => 146 | 127 => 111 | 145 => 161 | 143 => 159 | 21 => 21 | 171 => 148 | 173 => 150 | 212 => 163 | 51 => 88 | 20 => 20 | 213 => 164 | 232 => 169 | 233 => 170 | 80 => 66 | n => n, fun | 15 => 1 | 16 => 2 | 17 => 3 | 18 => 4 | 19 => 5 | n => n⟩
theorem laysC172 : Go.Proofs.LaysC.n172 Tryz.prog laysC172_ren := {
  mixed := by kernel_rfl
  f129 := Tryz.func115.trans (congrArg some (by kernel_rfl))
  f171 := Tryz.func81.trans (congrArg some (by kernel_rfl))
  f172 := Tryz.func76.trans (congrArg some (by kernel_rfl))
  f205 := Tryz.func118.trans (congrArg some (by kernel_rfl))
  f243 := Tryz.func93.trans (congrArg some (by kernel_rfl))
  f244 := Tryz.func89.trans (congrArg some (by kernel_rfl))
  f245 := Tryz.func90.trans (congrArg some (by kernel_rfl))
  f246 := Tryz.func104.trans (congrArg some (by kernel_rfl))
  f247 := Tryz.func99.trans (congrArg some (by kernel_rfl))
  f279 := Tryz.func100.trans (congrArg some (by kernel_rfl))
  f280 := Tryz.func101.trans (congrArg some (by kernel_rfl))
  f281 := Tryz.func102.trans (congrArg some (by kernel_rfl))
  f282 := Tryz.func103.trans (congrArg some (by kernel_rfl))
  f283 := Tryz.func119.trans (congrArg some (by kernel_rfl))
  f284 := Tryz.func120.trans (congrArg some (by kernel_rfl))
  f285 := Tryz.func121.trans (congrArg some (by kernel_rfl))
  f286 := Tryz.func122.trans (congrArg some (by kernel_rfl))
  f287 := Tryz.func116.trans (congrArg some (by kernel_rfl))
  f316 := Tryz.func117.trans (congrArg some (by kernel_rfl))
  f317 := Tryz.func131.trans (congrArg some (by kernel_rfl))
  f318 := Tryz.func132.trans (congrArg some (by kernel_rfl))
  f319 := Tryz.func133.trans (congrArg some (by kernel_rfl))
  f320 := Tryz.func134.trans (congrArg some (by kernel_rfl))
  f321 := Tryz.func129.trans (congrArg some (by kernel_rfl))
  f322 := Tryz.func130.trans (congrArg some (by kernel_rfl))
  f337 := Tryz.func136.trans (congrArg some (by kernel_rfl))
  f338 := Tryz.func137.trans (congrArg some (by kernel_rfl))
  t0 := Tryz.underlying0
  a0 := Tryz.isAgg0
  z0 := Tryz.sizeOf0
  v0 := Tryz.zeroValue0
  t2 := Tryz.underlying2
  a2 := Tryz.isAgg2
  z2 := Tryz.sizeOf2
  v2 := Tryz.zeroValue2
  t3 := Tryz.underlying3
  a3 := Tryz.isAgg3
  z3 := Tryz.sizeOf3
  v3 := Tryz.zeroValue3
  t4 := Tryz.underlying4
  a4 := Tryz.isAgg4
  z4 := Tryz.sizeOf4
  v4 := Tryz.zeroValue4
  t5 := Tryz.underlying5
  a5 := Tryz.isAgg5
  z5 := Tryz.sizeOf5
  v5 := Tryz.zeroValue5
  t9 := Tryz.underlying9
  a9 := Tryz.isAgg9
  z9 := Tryz.sizeOf9
  v9 := Tryz.zeroValue9
  t20 := Tryz.underlying20
  a20 := Tryz.isAgg20
  z20 := Tryz.sizeOf20
  v20 := Tryz.zeroValue20
  t21 := Tryz.underlying21
  a21 := Tryz.isAgg21
  z21 := Tryz.sizeOf21
  v21 := Tryz.zeroValue21
  t37 := Tryz.underlying42
  a37 := Tryz.isAgg42
  z37 := Tryz.sizeOf42
  v37 := Tryz.zeroValue42
  t46 := Tryz.underlying107
  a46 := Tryz.isAgg107
  z46 := Tryz.sizeOf107
  v46 := Tryz.zeroValue107
  t51 := Tryz.underlying88
  a51 := Tryz.isAgg88
  z51 := Tryz.sizeOf88
  v51 := Tryz.zeroValue88
  t53 := Tryz.underlying33
  a53 := Tryz.isAgg33
  z53 := Tryz.sizeOf33
  v53 := Tryz.zeroValue33
  t75 := Tryz.underlying94
  a75 := Tryz.isAgg94
  z75 := Tryz.sizeOf94
  v75 := Tryz.zeroValue94
  t76 := Tryz.underlying95
  a76 := Tryz.isAgg95
  z76 := Tryz.sizeOf95
  v76 := Tryz.zeroValue95
  t85 := Tryz.underlying126
  a85 := Tryz.isAgg126
  z85 := Tryz.sizeOf126
  v85 := Tryz.zeroValue126
  t127 := Tryz.underlying111
  a127 := Tryz.isAgg111
  z127 := Tryz.sizeOf111
  v127 := Tryz.zeroValue111
  t143 := Tryz.underlying159
  a143 := Tryz.isAgg159
  z143 := Tryz.sizeOf159
  v143 := Tryz.zeroValue159
  t145 := Tryz.underlying161
  a145 := Tryz.isAgg161
  z145 := Tryz.sizeOf161
  v145 := Tryz.zeroValue161
  t167 := Tryz.underlying125
  a167 := Tryz.isAgg125
  z167 := Tryz.sizeOf125
  v167 := Tryz.zeroValue125
  t168 := Tryz.underlying128
  a168 := Tryz.isAgg128
  z168 := Tryz.sizeOf128
  v168 := Tryz.zeroValue128
  t171 := Tryz.underlying148
  a171 := Tryz.isAgg148
  z171 := Tryz.sizeOf148
  v171 := Tryz.zeroValue148
  t173 := Tryz.underlying150
  a173 := Tryz.isAgg150
  z173 := Tryz.sizeOf150
  v173 := Tryz.zeroValue150
  t175 := Tryz.underlying143
  a175 := Tryz.isAgg143
  z175 := Tryz.sizeOf143
  v175 := Tryz.zeroValue143
  t210 := Tryz.underlying146
  a210 := Tryz.isAgg146
  z210 := Tryz.sizeOf146
  v210 := Tryz.zeroValue146
  t212 := Tryz.underlying163
  a212 := Tryz.isAgg163
  z212 := Tryz.sizeOf163
  v212 := Tryz.zeroValue163
  t213 := Tryz.underlying164
  a213 := Tryz.isAgg164
  z213 := Tryz.sizeOf164
  t232 := Tryz.underlying169
  a232 := Tryz.isAgg169
  z232 := Tryz.sizeOf169
  v232 := Tryz.zeroValue169
  t233 := Tryz.underlying170
  a233 := Tryz.isAgg170
  z233 := Tryz.sizeOf170
  v233 := Tryz.zeroValue170
  g15 := by kernel_rfl
  g16 := by kernel_rfl
  g17 := by kernel_rfl
  g18 := by kernel_rfl
  g19 := by kernel_rfl
  t80 := Tryz.underlying66
  a80 := Tryz.isAgg66
  z80 := Tryz.sizeOf66
  v80 := Tryz.zeroValue66
  i0 := by kernel_rfl
  i2 := by kernel_rfl
  i3 := by kernel_rfl
  i4 := by kernel_rfl
  i5 := by kernel_rfl
  i9 := by kernel_rfl
  i20 := by kernel_rfl
  i21 := by kernel_rfl
  i37 := by kernel_rfl
  i46 := by kernel_rfl
  i51 := by kernel_rfl
  i53 := by kernel_rfl
  i75 := by kernel_rfl
  i76 := by kernel_rfl
  i80 := by kernel_rfl
  i85 := by kernel_rfl
  i127 := by kernel_rfl
  i143 := by kernel_rfl
  i145 := by kernel_rfl
  i167 := by kernel_rfl
  i168 := by kernel_rfl
  i171 := by kernel_rfl
  i173 := by kernel_rfl
  i175 := by kernel_rfl
  i210 := by kernel_rfl
  i212 := by kernel_rfl
  i232 := by kernel_rfl
  i233 := by kernel_rfl
  m15 := by kernel_rfl
  m16 := by kernel_rfl
  m17 := by kernel_rfl
  m18 := by kernel_rfl
  m19 := by kernel_rfl
  c0 := by kernel_rfl
  c2 := by kernel_rfl
  c3 := by kernel_rfl
  c4 := by kernel_rfl
  c5 := by kernel_rfl
  c9 := by kernel_rfl
  c20 := by kernel_rfl
  c21 := by kernel_rfl
  c37 := by kernel_rfl
  c46 := by kernel_rfl
  c51 := by kernel_rfl
  c53 := by kernel_rfl
  c75 := by kernel_rfl
  c76 := by kernel_rfl
  c80 := by kernel_rfl
  c85 := by kernel_rfl
  c127 := by kernel_rfl
  c143 := by kernel_rfl
  c145 := by kernel_rfl
  c167 := by kernel_rfl
  c168 := by kernel_rfl
  c171 := by kernel_rfl
  c173 := by kernel_rfl
  c175 := by kernel_rfl
  c210 := by kernel_rfl
  c212 := by kernel_rfl
  c213 := by kernel_rfl
  c232 := by kernel_rfl
  c233 := by kernel_rfl }
open Go.RowKit in
theorem strconv_Atoi_ok (s : ByteArray) (hmax : s.size ≤ 9223372036854775806) (v : Int) (h : Lib.atoiAll s.data.toList = .ok v) (w : World) :
    Calls Tryz.prog 76 #[.string s] w fun e w' => e = .returned (.tuple #[.int .i64 v, .nilIface]) ∧ (w' = w ∨ ∃ t, w' = Lib.bytesWorld w 5 t) := Any.strconv_Atoi_ok laysC172 s hmax v h w
open Go.RowKit in
theorem strconv_Atoi_syntax (s : ByteArray) (hlim : s.size ≤ 281474976710656) (h : Lib.atoiAll s.data.toList = .«syntax») (ev : Value) (w : World) (hv : w.cell? ⟨1, 0, none⟩ = some ev) (hev : ev = .nilIface ∨ ∃ te pe, ev = .iface te pe) :
    Calls Tryz.prog 76 #[.string s] w fun e w' => ∃ N, e = .returned (.tuple #[.int .i64 (0), .iface 128 (.pointer (some ⟨N, 0, none⟩))]) ∧ w.heap.size ≤ N ∧ w'.heap[N]? = some (.cells #[.string ⟨#[65, 116, 111, 105]⟩, .string s, ev] 146 (0, 0)) ∧ Below w.heap.size w w' := Any.strconv_Atoi_syntax laysC172 s hlim h ev w hv hev
open Go.RowKit in
theorem strconv_Atoi_range (s : ByteArray) (hlim : s.size ≤ 281474976710656) (h : Lib.atoiAll s.data.toList = .range) (ev : Value) (w : World) (hv : w.cell? ⟨2, 0, none⟩ = some ev) (hev : ev = .nilIface ∨ ∃ te pe, ev = .iface te pe) :
    Calls Tryz.prog 76 #[.string s] w fun e w' => ∃ N, e = .returned (.tuple #[.int .i64 (Lib.atoiSat s.data.toList), .iface 128 (.pointer (some ⟨N, 0, none⟩))]) ∧ w.heap.size ≤ N ∧ w'.heap[N]? = some (.cells #[.string ⟨#[65, 116, 111, 105]⟩, .string s, ev] 146 (0, 0)) ∧ Below w.heap.size w w' := Any.strconv_Atoi_range laysC172 s hlim h ev w hv hev
end Strc
end Go.Proofs.YtlgjbdfnhaoloaaGreatDoor
end

/- The log (layer 5) as plain data: a segment's name, the good part of its bytes, what each call does. Plain facts on names and sizes. -/
section
namespace Go.Proofs.YtlgjbdfnhaoloaaGreatDoor
namespace Wal
open Dig Frm Dsk

/-! ### names -/
/-- A segment's name. -/
def nameL (n : Nat) : Str := 119 :: (Lib.itoa ((100000000 + n : Nat) : Int)).drop 1
def nameB (n : Nat) : ByteArray := ⟨(nameL n).toArray⟩
theorem nameB_list (n : Nat) : (nameB n).data.toList = nameL n := by simp [nameB]
/-- The number that a name tells. -/
def firstN (k : Str) : Option Nat :=
  match Lib.atoiAll (k.drop 1) with
  | .ok v => if 1 ≤ v ∧ v ≤ 99999999 ∧ nameL v.toNat = k then some v.toNat else none
  | _ => none

theorem name_digits (n : Nat) (h : n ≤ 99999999) : nameL n = [119, UInt8.ofNat (48 + n / 10000000 % 10), UInt8.ofNat (48 + n / 1000000 % 10), UInt8.ofNat (48 + n / 100000 % 10), UInt8.ofNat (48 + n / 10000 % 10), UInt8.ofNat (48 + n / 1000 % 10), UInt8.ofNat (48 + n / 100 % 10), UInt8.ofNat (48 + n / 10 % 10), UInt8.ofNat (48 + n % 10)] := by
  unfold nameL
  rw [Lib.itoa_nonneg, Lib.decDigits_eq, Lib.nDigits_unique 8 _ (by omega) (by omega)]
  have e : ∀ j, j ≤ 7 → Lib.dg (100000000 + n) j = UInt8.ofNat (48 + n / 10 ^ j % 10) := by
    intro j hj
    unfold Lib.dg
    congr 2
    have : j = 0 ∨ j = 1 ∨ j = 2 ∨ j = 3 ∨ j = 4 ∨ j = 5 ∨ j = 6 ∨ j = 7 := by omega
    rcases this with rfl | rfl | rfl | rfl | rfl | rfl | rfl | rfl <;> omega
  have e0 := e 0 (by omega); have e1 := e 1 (by omega); have e2 := e 2 (by omega); have e3 := e 3 (by omega)
  have e4 := e 4 (by omega); have e5 := e 5 (by omega); have e6 := e 6 (by omega); have e7 := e 7 (by omega)
  simp [List.range_succ, e0, e1, e2, e3, e4, e5, e6, e7]

theorem digit_nat (d : Nat) (h : d < 10) : (UInt8.ofNat (48 + d)).toNat = 48 + d := by rw [UInt8.toNat_ofNat']; omega
theorem digit_val (d : Nat) (h : d < 10) : Lib.digitVal (UInt8.ofNat (48 + d)) = some d := by
  unfold Lib.digitVal; rw [digit_nat d h, if_pos (by omega)]; congr 1; omega
theorem atoi_name (n : Nat) (h : n ≤ 99999999) : Lib.atoiAll ((nameL n).drop 1) = .ok (n : Int) := by
  rw [name_digits n h, List.drop_succ_cons, List.drop_zero, Lib.atoiAll_short _ (by simp)]
  have d7 : n / 10000000 % 10 < 10 := by omega
  have d6 : n / 1000000 % 10 < 10 := by omega
  have d5 : n / 100000 % 10 < 10 := by omega
  have d4 : n / 10000 % 10 < 10 := by omega
  have d3 : n / 1000 % 10 < 10 := by omega
  have d2 : n / 100 % 10 < 10 := by omega
  have d1 : n / 10 % 10 < 10 := by omega
  have d0 : n % 10 < 10 := by omega
  have hn : ((((((((0 * 10 + n / 10000000 % 10) * 10 + n / 1000000 % 10) * 10 + n / 100000 % 10) * 10 + n / 10000 % 10) * 10 + n / 1000 % 10) * 10 + n / 100 % 10) * 10 + n / 10 % 10) * 10 + n % 10) = n := by omega
  have h43 : UInt8.ofNat (48 + n / 10000000 % 10) ≠ 43 := by intro e; have := congrArg UInt8.toNat e; rw [digit_nat _ d7] at this; simp at this; omega
  have h45 : UInt8.ofNat (48 + n / 10000000 % 10) ≠ 45 := by intro e; have := congrArg UInt8.toNat e; rw [digit_nat _ d7] at this; simp at this; omega
  have hd : Lib.decFrom 0 [UInt8.ofNat (48 + n / 10000000 % 10), UInt8.ofNat (48 + n / 1000000 % 10), UInt8.ofNat (48 + n / 100000 % 10), UInt8.ofNat (48 + n / 10000 % 10), UInt8.ofNat (48 + n / 1000 % 10), UInt8.ofNat (48 + n / 100 % 10), UInt8.ofNat (48 + n / 10 % 10), UInt8.ofNat (48 + n % 10)] = some n := by
    simp only [Lib.decFrom, digit_val _ d7, digit_val _ d6, digit_val _ d5, digit_val _ d4, digit_val _ d3, digit_val _ d2, digit_val _ d1, digit_val _ d0]
    exact congrArg some hn
  simp only [Lib.atoi, beq_iff_eq, h43, h45, if_false]
  simp only [Lib.decNat, hd]
  rfl

theorem first_name (n : Nat) (h1 : 1 ≤ n) (h : n ≤ 99999999) : firstN (nameL n) = some n := by
  unfold firstN
  rw [atoi_name n h]
  simp only
  rw [if_pos ⟨by omega, by omega, by simp⟩]
  simp
theorem name_inj {a b : Nat} (ha : a ≤ 99999999) (hb : b ≤ 99999999) (h : nameL a = nameL b) : a = b := by
  have e := atoi_name a ha
  rw [h, atoi_name b hb] at e
  injection e with e
  omega
theorem name_length (n : Nat) (h : n ≤ 99999999) : (nameL n).length = 9 := by rw [name_digits n h]; rfl
theorem digit_sign (d : Nat) (h : d < 10) : isSign (UInt8.ofNat (48 + d)) = true := by
  have : d = 0 ∨ d = 1 ∨ d = 2 ∨ d = 3 ∨ d = 4 ∨ d = 5 ∨ d = 6 ∨ d = 7 ∨ d = 8 ∨ d = 9 := by omega
  rcases this with rfl | rfl | rfl | rfl | rfl | rfl | rfl | rfl | rfl | rfl <;> decide
theorem name_is_name (n : Nat) (h : n ≤ 99999999) : isName (nameL n) = true := by
  rw [name_digits n h]
  have hw : isSign 119 = true := by decide
  simp only [isName, List.all_cons, List.all_nil, digit_sign _ (Nat.mod_lt _ (by omega)), hw]
  rfl
theorem before_step {x y : Nat} {r s : Str} (hx : x < 10) (hy : y < 10) (h : x < y ∨ (x = y ∧ bytesBefore r s = true)) : bytesBefore (UInt8.ofNat (48 + x) :: r) (UInt8.ofNat (48 + y) :: s) = true := by
  unfold bytesBefore
  rcases h with h | ⟨rfl, h⟩
  · have : UInt8.ofNat (48 + x) < UInt8.ofNat (48 + y) := by rw [UInt8.lt_iff_toNat_lt, digit_nat _ hx, digit_nat _ hy]; omega
    generalize UInt8.ofNat (48 + x) = p at *
    generalize UInt8.ofNat (48 + y) = q at *
    simp [this]
  · simp [h]
theorem before_same {c : UInt8} {r s : Str} (h : bytesBefore r s = true) : bytesBefore (c :: r) (c :: s) = true := by
  unfold bytesBefore; simp [h]
theorem name_before {a b : Nat} (hb : b ≤ 99999999) (h : a < b) : bytesBefore (nameL a) (nameL b) = true := by
  rw [name_digits a (by omega), name_digits b hb]
  refine before_same ?_
  have m : ∀ x : Nat, x % 10 < 10 := fun x => Nat.mod_lt _ (by omega)
  by_cases e7 : a / 10000000 % 10 = b / 10000000 % 10
  · refine before_step (m _) (m _) (.inr ⟨e7, ?_⟩)
    by_cases e6 : a / 1000000 % 10 = b / 1000000 % 10
    · refine before_step (m _) (m _) (.inr ⟨e6, ?_⟩)
      by_cases e5 : a / 100000 % 10 = b / 100000 % 10
      · refine before_step (m _) (m _) (.inr ⟨e5, ?_⟩)
        by_cases e4 : a / 10000 % 10 = b / 10000 % 10
        · refine before_step (m _) (m _) (.inr ⟨e4, ?_⟩)
          by_cases e3 : a / 1000 % 10 = b / 1000 % 10
          · refine before_step (m _) (m _) (.inr ⟨e3, ?_⟩)
            by_cases e2 : a / 100 % 10 = b / 100 % 10
            · refine before_step (m _) (m _) (.inr ⟨e2, ?_⟩)
              by_cases e1 : a / 10 % 10 = b / 10 % 10
              · refine before_step (m _) (m _) (.inr ⟨e1, ?_⟩)
                exact before_step (m _) (m _) (.inl (by omega))
              · exact before_step (m _) (m _) (.inl (by omega))
            · exact before_step (m _) (m _) (.inl (by omega))
          · exact before_step (m _) (m _) (.inl (by omega))
        · exact before_step (m _) (m _) (.inl (by omega))
      · exact before_step (m _) (m _) (.inl (by omega))
    · exact before_step (m _) (m _) (.inl (by omega))
  · exact before_step (m _) (m _) (.inl (by omega))
theorem nameL_ne_t (n : Nat) : nameL n ≠ [116] := by unfold nameL; intro h; injection h with h _; exact absurd h (by decide)

/-! ### sizes -/
/-- How many bytes each count of records has. -/
def psums (l : List Nat) : List Nat := (List.range (l.length + 1)).map fun k => (l.take k).sum
theorem psums_length (l : List Nat) : (psums l).length = l.length + 1 := by simp [psums]
theorem psums_get (l : List Nat) (k : Nat) (h : k ≤ l.length) : (psums l)[k]? = some ((l.take k).sum) := by
  unfold psums; rw [List.getElem?_map, List.getElem?_range (by omega)]; rfl
theorem psums_snoc (l : List Nat) (z : Nat) : psums (l ++ [z]) = psums l ++ [l.sum + z] := by
  unfold psums
  rw [List.length_append, List.length_singleton, List.range_succ, List.map_append]
  congr 1
  · apply List.map_congr_left
    intro k hk
    rw [List.mem_range] at hk
    rw [List.take_append_of_le_length (by omega)]
  · rw [List.map_singleton, List.take_of_length_le (by simp)]; simp
theorem psums_take (l : List Nat) (k : Nat) (h : k ≤ l.length) : psums (l.take k) = (psums l).take (k + 1) := by
  unfold psums
  rw [List.length_take, Nat.min_eq_left h, ← List.map_take, List.take_range, Nat.min_eq_left (by omega)]
  apply List.map_congr_left
  intro j hj
  rw [List.mem_range] at hj
  rw [List.take_take, Nat.min_eq_left (by omega)]
theorem sum_take_le (l : List Nat) (k : Nat) : (l.take k).sum ≤ l.sum := by
  have h := congrArg List.sum (List.take_append_drop k l)
  rw [List.sum_append] at h
  omega

/-! ### segments, logs -/
structure Seg where
  first : Nat
  lens : List Nat
  marked : Bool
  deriving Inhabited
def Seg.last (s : Seg) : Nat := s.first + s.lens.length - 1
def Seg.size (s : Seg) : Nat := s.lens.sum
def Seg.name (s : Seg) : Str := nameL s.first

/-- The good part: how many bytes each record has, from a place on. -/
def goodF : Nat → ByteArray → Nat → List Nat
  | 0, _, _ => []
  | f + 1, b, m => if (gotF (b.extract m b.size)).err = 0 ∧ (gotF (b.extract m b.size)).kind = 1 then (gotF (b.extract m b.size)).size :: goodF f b (m + (gotF (b.extract m b.size)).size) else []
def good (b : ByteArray) : List Nat := goodF (b.size + 1) b 0

/-- What is read of a file, as a text. -/
def fileB (st : St) (k : Str) : ByteArray := ⟨(readA st k).toArray⟩
def foundOne (st : St) (k : Str) : Option Seg := (firstN k).map fun n => ⟨n, good (fileB st k), false⟩
def found (st : St) : List Seg := (names st).filterMap (foundOne st)

def belongF (base : Nat) : List Seg → Nat → Nat → Nat → Nat × Nat
  | [], _, c, l => (c, l)
  | s :: r, i, c, l => if (s.first = l + 1 ∨ (i = 0 ∧ s.first ≤ base + 1)) ∧ s.lens ≠ [] then belongF base r (i + 1) (i + 1) s.last else (c, l)
def belong (all : List Seg) (base : Nat) : Nat := if (belongF base all 0 0 0).2 < base then 0 else (belongF base all 0 0 0).1

/-- Those that go are removed, one by one, up to an error. -/
def takeL {α : Type} (nm : α → Str) (goes : Nat → Bool) : Nat → List α → St → Int → List α × St × Int
  | _, [], st, e => ([], st, e)
  | j, x :: r, st, e =>
    if e ≠ 0 ∨ goes j = false then (x :: (takeL nm goes (j + 1) r st e).1, (takeL nm goes (j + 1) r st e).2)
    else ((if remE st (nm x) = 0 then [] else [x]) ++ (takeL nm goes (j + 1) r (remS st (nm x)) (remE st (nm x))).1, (takeL nm goes (j + 1) r (remS st (nm x)) (remE st (nm x))).2)
theorem takeL_map {α β : Type} (f : α → β) (nm : β → Str) (goes : Nat → Bool) : ∀ (l : List α) (j : Nat) (st : St) (e : Int), takeL nm goes j (l.map f) st e = ((takeL (fun x => nm (f x)) goes j l st e).1.map f, (takeL (fun x => nm (f x)) goes j l st e).2)
  | [], _, _, _ => rfl
  | x :: r, j, st, e => by
    rw [List.map_cons]
    unfold takeL
    rw [takeL_map f nm goes r (j + 1) st e, takeL_map f nm goes r (j + 1) (remS st (nm (f x))) (remE st (nm (f x)))]
    split
    · rfl
    · split <;> rfl
theorem takeL_sub {α : Type} (nm : α → Str) (goes : Nat → Bool) : ∀ (l : List α) (j : Nat) (st : St) (e : Int), (takeL nm goes j l st e).1.Sublist l
  | [], _, _, _ => List.Sublist.slnil
  | x :: r, j, st, e => by
    unfold takeL
    split
    · exact (takeL_sub nm goes r (j + 1) st e).cons_cons x
    · split
      · exact (takeL_sub nm goes r (j + 1) _ _).cons x
      · exact (takeL_sub nm goes r (j + 1) _ _).cons_cons x

structure Lg where
  segs : List Seg
  hand : Bool
  nm : Bool
  last : Nat
  dur : Nat

structure Tidied where
  segs : List Seg
  st : St
  err : Int
def tidyL (goes : Nat → Bool) (segs : List Seg) (st : St) : Tidied :=
  if (takeL Seg.name goes 0 segs st 0).2.2 ≠ 0 ∨ (takeL Seg.name goes 0 segs st 0).1.length = segs.length then ⟨(takeL Seg.name goes 0 segs st 0).1, (takeL Seg.name goes 0 segs st 0).2.1, (takeL Seg.name goes 0 segs st 0).2.2⟩
  else ⟨(takeL Seg.name goes 0 segs st 0).1, snS (takeL Seg.name goes 0 segs st 0).2.1, snE (takeL Seg.name goes 0 segs st 0).2.1⟩

def lastOf (segs : List Seg) (l : Nat) : Nat := match segs.getLast? with | some s => s.last | none => l
def Lg.first (lg : Lg) : Nat := match lg.segs with | [] => lg.last + 1 | s :: _ => s.first

structure Opened where
  lg : Option Lg
  st : St
  err : Int
def openT (st : St) (base : Nat) : Tidied := tidyL (fun j => decide (belong (found st) base ≤ j)) (found st) st
def openL (st : St) (base : Int) : Opened :=
  if base < 0 ∨ 99999998 < base then ⟨none, st, 2⟩
  else if st.dead then ⟨none, st, 11⟩
  else if (openT st base.toNat).err ≠ 0 then ⟨none, (openT st base.toNat).st, (openT st base.toNat).err⟩
  else ⟨some ⟨(openT st base.toNat).segs, false, false, lastOf (openT st base.toNat).segs base.toNat, lastOf (openT st base.toNat).segs base.toNat⟩, (openT st base.toNat).st, 0⟩

/-- A record of a segment. -/
def readFromL (st : St) (s : Seg) (n : Nat) : ByteArray × Int :=
  if readE st s.name ≠ 0 then (⟨#[]⟩, readE st s.name)
  else if (fileB st s.name).size < (s.lens.take (n - s.first)).sum then (⟨#[]⟩, 12)
  else if (gotF ((fileB st s.name).extract (s.lens.take (n - s.first)).sum (fileB st s.name).size)).err ≠ 0 then (⟨#[]⟩, 12)
  else ((gotF ((fileB st s.name).extract (s.lens.take (n - s.first)).sum (fileB st s.name).size)).data, 0)
def readL (st : St) (n : Int) : List Seg → ByteArray × Int
  | [] => (⟨#[]⟩, 12)
  | s :: r => if (s.first : Int) ≤ n ∧ n ≤ (s.last : Int) then readFromL st s n.toNat else readL st n r

/-- Where a record goes: a new segment, or the one in hand. -/
def begins (lg : Lg) : Bool := !lg.hand || decide ((match lg.segs.getLast? with | some s => s.lens.length | none => 0) = 16)
def target (lg : Lg) : Seg := if begins lg then ⟨lg.last + 1, [], false⟩ else lg.segs.getLast?.getD default
structure Put where
  lg : Lg
  st : St
  n : Nat
  err : Int
def appended (lg : Lg) (z : Nat) : Lg :=
  { segs := (if begins lg then lg.segs else lg.segs.dropLast) ++ [⟨(target lg).first, (target lg).lens ++ [z], true⟩], hand := true, nm := lg.nm || begins lg, last := lg.last + 1, dur := lg.dur }
def appendL (lg : Lg) (st : St) (s : ByteArray) : Put :=
  if putE 1 s ≠ 0 then ⟨lg, st, 0, putE 1 s⟩
  else if 99999999 ≤ lg.last then ⟨lg, st, 0, 4⟩
  else if appE st (target lg).name (putS 1 s).data.toList ≠ 0 then ⟨lg, appS st (target lg).name (putS 1 s).data.toList, 0, appE st (target lg).name (putS 1 s).data.toList⟩
  else ⟨appended lg (putS 1 s).size, appS st (target lg).name (putS 1 s).data.toList, lg.last + 1, 0⟩

def syncSegs : List Seg → St → Tidied
  | [], st => ⟨[], st, 0⟩
  | s :: r, st =>
    if s.marked then
      if syncE st s.name ≠ 0 then ⟨s :: r, syncS st s.name, syncE st s.name⟩
      else ⟨{ s with marked := false } :: (syncSegs r (syncS st s.name)).segs, (syncSegs r (syncS st s.name)).st, (syncSegs r (syncS st s.name)).err⟩
    else ⟨s :: (syncSegs r st).segs, (syncSegs r st).st, (syncSegs r st).err⟩
structure Done where
  lg : Lg
  st : St
  err : Int
def syncL (lg : Lg) (st : St) : Done :=
  if (syncSegs lg.segs st).err ≠ 0 then ⟨{ lg with segs := (syncSegs lg.segs st).segs }, (syncSegs lg.segs st).st, (syncSegs lg.segs st).err⟩
  else if lg.nm then
    if snE (syncSegs lg.segs st).st ≠ 0 then ⟨{ lg with segs := (syncSegs lg.segs st).segs }, snS (syncSegs lg.segs st).st, snE (syncSegs lg.segs st).st⟩
    else ⟨{ lg with segs := (syncSegs lg.segs st).segs, nm := false, dur := lg.last }, snS (syncSegs lg.segs st).st, 0⟩
  else ⟨{ lg with segs := (syncSegs lg.segs st).segs, dur := lg.last }, (syncSegs lg.segs st).st, 0⟩

def dropGoes (segs : List Seg) (n : Int) (j : Nat) : Bool := decide (j + 1 ≠ segs.length) && decide (((segs.getD j default).last : Int) < n)
def dropL (lg : Lg) (st : St) (n : Int) : Done :=
  if lg.segs = [] then ⟨lg, st, 0⟩
  else ⟨{ lg with segs := (tidyL (dropGoes lg.segs n) lg.segs st).segs }, (tidyL (dropGoes lg.segs n) lg.segs st).st, (tidyL (dropGoes lg.segs n) lg.segs st).err⟩

/-- The names last; n is the last number. -/
def endL (lg : Lg) (st : St) (n : Nat) : Done :=
  if snE st ≠ 0 then ⟨lg, snS st, snE st⟩ else ⟨{ lg with nm := false, last := n, dur := n }, snS st, 0⟩

def spareL : Str := [116]
/-- A file has other bytes from now on. -/
def replaceL (st : St) (k s : Str) : St × Int :=
  let st0 := if readE st spareL = 0 then remS st spareL else st
  let e0 := if readE st spareL = 0 then remE st spareL else 0
  if e0 ≠ 0 then (st0, e0)
  else if appE st0 spareL s ≠ 0 then (appS st0 spareL s, appE st0 spareL s)
  else if syncE (appS st0 spareL s) spareL ≠ 0 then (syncS (appS st0 spareL s) spareL, syncE (appS st0 spareL s) spareL)
  else (renS (syncS (appS st0 spareL s) spareL) spareL k, renE (syncS (appS st0 spareL s) spareL) spareL k)

/-- The last segment without its records above n. -/
def shortenL (segs : List Seg) (st : St) (n : Nat) : Tidied :=
  match segs.getLast? with
  | none => ⟨segs, st, 0⟩
  | some s =>
    if s.last ≤ n then ⟨segs, st, 0⟩
    else if readE st s.name ≠ 0 then ⟨segs, st, readE st s.name⟩
    else
      let r := replaceL st s.name ((readA st s.name).take (s.lens.take (n - s.first + 1)).sum)
      if r.2 ≠ 0 then ⟨segs, r.1, r.2⟩ else ⟨segs.dropLast ++ [{ s with lens := s.lens.take (n - s.first + 1) }], r.1, 0⟩

def cutT (lg : Lg) (st : St) (n : Nat) : List Seg × St × Int := takeL Seg.name (fun j => decide (n < (lg.segs.reverse.getD j default).first)) 0 lg.segs.reverse st 0
def cutL (lg : Lg) (st : St) (n : Int) : Done :=
  if n < (lg.first : Int) - 1 ∨ (lg.last : Int) < n then ⟨lg, st, 2⟩
  else if n = (lg.last : Int) then ⟨{ lg with hand := false }, st, 0⟩
  else
    let t := cutT lg st n.toNat
    if t.2.2 ≠ 0 then ⟨{ lg with hand := false, segs := t.1.reverse }, t.2.1, t.2.2⟩
    else
      let q := shortenL t.1.reverse t.2.1 n.toNat
      if q.err ≠ 0 then ⟨{ lg with hand := false, segs := q.segs }, q.st, q.err⟩
      else endL { lg with hand := false, segs := q.segs } q.st n.toNat

def resetL (lg : Lg) (st : St) (n : Int) : Done :=
  if n < 0 ∨ 99999998 < n then ⟨lg, st, 2⟩
  else
    let t := takeL Seg.name (fun _ => true) 0 lg.segs st 0
    if t.2.2 ≠ 0 then ⟨{ lg with hand := false, segs := t.1 }, t.2.1, t.2.2⟩
    else endL { lg with hand := false, segs := t.1 } t.2.1 n.toNat
end Wal
end Go.Proofs.YtlgjbdfnhaoloaaGreatDoor
end

/- Segments of the log (layer 5) in memory; the package-level variables that the walks read; a segment's name, count, last number and size. -/
section
namespace Go.Proofs.YtlgjbdfnhaoloaaGreatDoor
open Go.RowKit Go.Sort
namespace Wal
open Dig Frm Dsk

/-- The package-level variables as their text lays them, all below B. -/
structure Env (B : Nat) (w : World) : Prop where
  tab : Crc.Tab w
  pow : Lib.TabIs Tryz.prog w "internal/strconv.uint64pow10" .u64 Lib.pow10Tab
  es : ∃ t p, w.cell? ⟨1, 0, none⟩ = some (.iface t p)
  er : ∃ t p, w.cell? ⟨2, 0, none⟩ = some (.iface t p)
  l0 : 0 < B
  l1 : 1 < B
  l2 : 2 < B
  l3 : 3 < B
  le : B ≤ w.heap.size

theorem Env.kept {B : Nat} {w w' : World} (h : Env B w) (hk : ∀ b, b < B → w'.heap[b]? = w.heap[b]?) (hs : w.heap.size ≤ w'.heap.size) : Env B w' := by
  have hc : ∀ b o, b < B → w'.cell? ⟨b, o, none⟩ = w.cell? ⟨b, o, none⟩ := fun b o hb => World.cell?_of_block (w := w) (a := ⟨b, o, none⟩) (hk b hb)
  refine ⟨⟨(hc 0 0 h.l0).trans h.tab.c0, (hc 0 1 h.l0).trans h.tab.c1, Nat.lt_of_lt_of_le h.tab.pos hs⟩, ?_, ?_, ?_, h.l0, h.l1, h.l2, h.l3, Nat.le_trans h.le hs⟩
  · have hp := h.pow
    unfold Lib.TabIs World.var? at hp ⊢
    have hg : Tryz.prog.globalNamed "internal/strconv.uint64pow10" = some 3 := by kernel_rfl
    rw [hg] at hp ⊢
    simp only [Option.bind_some] at hp ⊢
    rw [hk _ h.l3]
    exact hp
  · obtain ⟨t, p, e⟩ := h.es; exact ⟨t, p, (hc _ 0 h.l1).trans e⟩
  · obtain ⟨t, p, e⟩ := h.er; exact ⟨t, p, (hc _ 0 h.l2).trans e⟩
theorem Env.upon {B : Nat} {S : Nat → Prop} {w w' : World} (h : Env B w) (hu : Upon S w w') (hS : ∀ b, S b → B ≤ b) : Env B w' :=
  h.kept (fun b hb => hu.block b (Nat.lt_of_lt_of_le hb h.le) fun hs => by have := hS b hs; omega) hu.size
theorem Env.below {B : Nat} {w w' : World} (h : Env B w) (hb : Below w.heap.size w w') : Env B w' :=
  h.kept (fun b hlt => hb.block b (Nat.lt_of_lt_of_le hlt h.le)) hb.size

/-! ### a segment in memory -/
structure GS where
  b : Nat
  v : Value
  s : Seg

def segCells (x : GS) : Array Value := #[.int .i64 (x.s.first : Int), x.v, .bool x.s.marked]
def intsV (l : List Nat) : List Value := l.map fun (n : Nat) => .int .i64 (n : Int)

structure SegAt (w : World) (x : GS) : Prop where
  cell : w.heap[x.b]? = some (.cells (segCells x) 68 (0, 0))
  row : w.ownsRow 0 3 1 x.v (x.s.lens.length + 1) (intsV (psums x.s.lens))
/-- The blocks of a segment. -/
def own (x : GS) (b : Nat) : Prop := b = x.b ∨ x.v.ownBlock = some b

/-- What bounds hold of a segment's numbers. -/
structure FineS (s : Seg) : Prop where
  pos : 1 ≤ s.first
  top : s.first ≤ 99999999
  size : s.lens.sum ≤ 1000000000000
  len : s.lens.length ≤ s.lens.sum

theorem SegAt.kept {w w' : World} {x : GS} (h : SegAt w x) (hk : ∀ b, own x b → w'.heap[b]? = w.heap[b]?) : SegAt w' x :=
  ⟨(hk _ (.inl rfl)).trans h.cell, ownsRow_kept h.row fun b hb => hk b (.inr hb)⟩
theorem SegAt.lt {w : World} {x : GS} (h : SegAt w x) : ∀ b, own x b → b < w.heap.size := fun b hb => hb.elim (fun e => e ▸ lt_of_block h.cell) fun e => (h.row.lt b e).2
theorem SegAt.below {w w' : World} {x : GS} (h : SegAt w x) (hb : Below w.heap.size w w') : SegAt w' x := h.kept fun b ho => hb.block b (h.lt b ho)
theorem SegAt.shape {w : World} {x : GS} (h : SegAt w x) : ∃ g c, x.v = .slice (some ⟨g, 0, none⟩) (x.s.lens.length + 1) c ∧ g < w.heap.size ∧ (x.s.lens.length + 1 ≤ c) ∧ c ≤ maxLen := by
  rcases h.row.2 with ⟨_, h0⟩ | ⟨g, cap, cur, hv, _, hg, h1, h2, _⟩
  · omega
  · exact ⟨g, cap, hv, lt_of_block hg, h1, h2⟩
theorem SegAt.cells {w : World} {x : GS} (h : SegAt w x) : w.cell? ⟨x.b, 0, none⟩ = some (.int .i64 (x.s.first : Int)) ∧ w.cell? ⟨x.b, 1, none⟩ = some x.v ∧ w.cell? ⟨x.b, 2, none⟩ = some (.bool x.s.marked) ∧ ∀ o, w.frozen? ⟨x.b, o, none⟩ = false := by
  refine ⟨?_, ?_, ?_, fun o => Lib.frozen_of_heap h.cell o⟩ <;> (rw [Lib.cell_of_heap h.cell]; rfl)
theorem SegAt.cell_at {w : World} {x : GS} (h : SegAt w x) {g : Nat} (hg : x.v.ownBlock = some g) (k : Nat) (hk : k ≤ x.s.lens.length) : w.cell? ⟨g, k, none⟩ = some (.int .i64 ((x.s.lens.take k).sum : Nat)) := by
  have := h.row.cells hg k (.int .i64 ((x.s.lens.take k).sum : Nat)) (by unfold intsV; rw [List.getElem?_map, psums_get _ _ hk]; rfl)
  rw [Lib.add_plain, Nat.zero_add] at this
  exact this

theorem count_any (x : GS) (w : World) (h : SegAt w x) (hf : FineS x.s) :
    Calls Tryz.prog 30 #[.pointer (some ⟨x.b, 0, none⟩)] w fun e w' => e = .returned (.int .i64 (x.s.lens.length : Int)) ∧ w = w' := by
  obtain ⟨g, c, hv, -, -, -⟩ := h.shape
  obtain ⟨-, c1, -, -⟩ := h.cells
  rw [hv] at c1
  have hz := hf.size
  have hl := hf.len
  generalize x.s.lens.length = n at *
  clear hv h hf
  go_enter Tryz.func30, Tryz.ntmps30
  go_wp2
  go_ret
  exact ⟨by congr 2, rfl⟩

theorem SegAt.drewN {w : World} {x : GS} (h : SegAt w x) (n : Nat) : SegAt (w.drewN n) x := ⟨h.cell, h.row⟩
theorem count_quiet (x : GS) (w : World) (h : SegAt w x) (hf : FineS x.s) (n : Nat) :
    Calls Tryz.prog 30 #[.pointer (some ⟨x.b, 0, none⟩)] (w.drewN n) fun e w'' => e = .returned (.int .i64 (x.s.lens.length : Int)) ∧ ∃ m, w'' = w.drewN m :=
  (count_any x _ (h.drewN n) hf).mono fun _ _ ⟨he, hw⟩ => ⟨he, n, hw.symm⟩

set_option maxHeartbeats 400000 in
theorem last_any (x : GS) (w : World) (h : SegAt w x) (hf : FineS x.s) :
    Calls Tryz.prog 28 #[.pointer (some ⟨x.b, 0, none⟩)] w fun e w' => e = .returned (.int .i64 (x.s.last : Int)) ∧ ∃ n, w' = w.drewN n := by
  have hc := Lib.hid (count_quiet x w h hf)
  obtain ⟨c0, -, -, -⟩ := h.cells
  have hz := hf.size
  have hl := hf.len
  have hp := hf.pos
  have ht := hf.top
  have hv : (x.s.last : Int) = (x.s.first : Int) + (x.s.lens.length : Int) - 1 := by unfold Seg.last; omega
  rw [hv]
  generalize x.s.lens.length = n at *
  generalize x.s.first = f at *
  clear hv h hf
  go_enter Tryz.func28, Tryz.ntmps28
  go_wp2_with fail
  go_quiet ((go_at_call 30; exact hc.out _))
  go_wp2
  go_ret
  exact ⟨rfl, _, rfl⟩

set_option maxHeartbeats 400000 in
theorem size_any (x : GS) (w : World) (h : SegAt w x) (hf : FineS x.s) :
    Calls Tryz.prog 64 #[.pointer (some ⟨x.b, 0, none⟩)] w fun e w' => e = .returned (.int .i64 (x.s.size : Int)) ∧ ∃ n, w' = w.drewN n := by
  have hc := Lib.hid (count_quiet x w h hf)
  obtain ⟨g, c, hv, hg, hcap, hmax⟩ := h.shape
  have hce := h.cell_at (g := g) (by rw [hv]; rfl) x.s.lens.length (Nat.le_refl _)
  rw [List.take_of_length_le (Nat.le_refl _)] at hce
  obtain ⟨-, c1, -, -⟩ := h.cells
  rw [hv] at c1
  have hz := hf.size
  have hl := hf.len
  unfold Seg.size
  generalize x.s.lens.length = n at *
  generalize x.s.lens.sum = z at *
  have hlt : (n : Int) < ((n + 1 : Nat) : Int) := by omega
  clear hv h hf hg
  go_enter Tryz.func64, Tryz.ntmps64
  go_wp2_with fail
  go_quiet ((go_at_call 30; exact hc.out _))
  go_wp2
  go_ret
  exact ⟨rfl, _, rfl⟩

/-! ### names -/
theorem below_grow (w : World) (k : Nat) (os : Array Obj) : Below w.heap.size w (grow (w.drewN k) os) :=
  ⟨rfl, rfl, rfl, by simp [grow], fun j hj => by simp [grow, Array.getElem?_append, hj]⟩

set_option maxHeartbeats 400000 in
theorem nameOf_any (n : Nat) (hn : n ≤ 1000000000000000) (B : Nat) (w : World) (he : Env B w) :
    Calls Tryz.prog 63 #[.int .i64 (n : Int)] w fun e w' => e = .returned (.string (nameB n)) ∧ Below w.heap.size w w' := by
  have h0 : 0 ≤ (100000000 : Int) + (n : Int) := by omega
  have hit := Lib.hid (Strc.strconv_Itoa ((100000000 : Int) + (n : Int)) (by omega) (by omega) w he.pow)
  have hlen : 1 ≤ (Lib.itoa ((100000000 : Int) + (n : Int))).length := by
    have e : (100000000 : Int) + (n : Int) = ((100000000 + n : Nat) : Int) := by omega
    rw [e, Lib.itoa_nonneg, Lib.decDigits_length]
    exact Lib.nDigits_pos _
  have hlen2 := Lib.itoa_length_le ((100000000 : Int) + (n : Int)) (by omega) (by omega)
  have hN : Hid (∀ d : ByteArray, d.data.toList = Lib.itoa ((100000000 : Int) + (n : Int)) → (⟨#[119]⟩ : ByteArray) ++ d.extract 1 d.size = nameB n) := Lib.hid (by
    intro d hd
    apply bytes_ext
    rw [ByteArray.data_append, Array.toList_append, tail_list, hd, nameB_list]
    unfold nameL
    have e : (100000000 : Int) + (n : Int) = ((100000000 + n : Nat) : Int) := by omega
    rw [e]
    rfl)
  obtain ⟨d, hd⟩ : ∃ d : ByteArray, d = ⟨(Lib.itoa ((100000000 : Int) + (n : Int))).toArray⟩ := ⟨_, rfl⟩
  have hdl : d.data.toList = Lib.itoa ((100000000 : Int) + (n : Int)) := by rw [hd]
  have hsz : d.size = (Lib.itoa ((100000000 : Int) + (n : Int))).length := by rw [← hdl]; simp
  have hs1 : 1 ≤ d.size := by omega
  have hs2 : d.size ≤ 21 := by omega
  rw [← hd] at hit
  have HN := Lib.hid (hN.out d hdl)
  have hadd := fun (W : World) => run_string_add_sum (P := Tryz.prog) W ⟨#[119]⟩ (d.extract 1 d.size) (by have e1 : (⟨#[119]⟩ : ByteArray).size = 1 := rfl; rw [ByteArray.size_extract]; omega)
  rw [HN.out] at hadd
  clear hd hdl hsz hlen hlen2 hN he h0
  go_enter Tryz.func63, Tryz.ntmps63
  go_wp2_with fail
  refine hit.out.mono ?_
  rintro e w1 ⟨rfl, k, os, rfl⟩
  have hb := Lib.hid (below_grow w k os)
  generalize grow (w.drewN k) os = w1 at *
  have hadd1 := hadd w1
  clear hadd hit
  go_wp2
  go_ret
  exact ⟨rfl, hb.out⟩

set_option maxHeartbeats 400000 in
theorem name_any (x : GS) (B : Nat) (w : World) (h : SegAt w x) (hf : FineS x.s) (he : Env B w) :
    Calls Tryz.prog 33 #[.pointer (some ⟨x.b, 0, none⟩)] w fun e w' => e = .returned (.string (nameB x.s.first)) ∧ Below w.heap.size w w' := by
  obtain ⟨c0, -, -, -⟩ := h.cells
  have hn := Lib.hid (nameOf_any x.s.first (by have := hf.top; omega) B w he)
  clear h hf he
  go_enter Tryz.func33, Tryz.ntmps33
  go_wp2_with fail
  refine hn.out.mono ?_
  rintro e w1 ⟨rfl, hb⟩
  replace hb := Lib.hid hb
  go_wp2
  go_ret
  exact ⟨rfl, hb.out⟩

/-- What firstOf answers. -/
def firstV (k : Str) : Value := match firstN k with | some n => .tuple #[.int .i64 (n : Int), .bool true] | none => .tuple #[.int .i64 0, .bool false]

theorem below_atoi {w w' : World} {t : TypeId} (h : w' = w ∨ ∃ s, w' = Lib.bytesWorld w t s) : Below w.heap.size w w' := by
  rcases h with rfl | ⟨s, rfl⟩
  · exact Below.refl _ _
  · exact Joins.below_bytesWorld _ w t s (Nat.le_refl _)

set_option maxHeartbeats 800000 in
theorem firstOf_any (k : ByteArray) (h1 : 1 ≤ k.size) (h2 : k.size ≤ 1000000) (B : Nat) (w : World) (he : Env B w) :
    Calls Tryz.prog 51 #[.string k] w fun e w' => e = .returned (firstV k.data.toList) ∧ Below w.heap.size w w' := by
  have hd : (k.extract 1 k.size).data.toList = k.data.toList.drop 1 := tail_list k
  have hz : (k.extract 1 k.size).size ≤ 1000000 := by rw [ByteArray.size_extract]; omega
  obtain ⟨te, pe, hes⟩ := he.es
  obtain ⟨tr, pr, her⟩ := he.er
  unfold firstV firstN
  cases hat : Lib.atoiAll (k.data.toList.drop 1) with
  | ok v =>
    have hv := Lib.atoiAll_bounds hat
    have ha := Lib.hid (Strc.strconv_Atoi_ok (k.extract 1 k.size) (by omega) v (by rw [hd]; exact hat) w)
    have HE := Lib.hid he
    simp only
    clear hat hd hes her he
    by_cases hlo : v < 1
    · rw [if_neg (by omega)]
      go_enter Tryz.func51, Tryz.ntmps51
      go_wp2_with fail
      refine ha.out.mono ?_
      rintro e w1 ⟨rfl, hw1⟩
      have hb := Lib.hid (below_atoi hw1)
      clear hw1 ha
      go_wp2
      go_ret2
      exact ⟨rfl, hb.out⟩
    · by_cases hhi : 99999999 < v
      · rw [if_neg (by omega)]
        go_enter Tryz.func51, Tryz.ntmps51
        go_wp2_with fail
        refine ha.out.mono ?_
        rintro e w1 ⟨rfl, hw1⟩
        have hb := Lib.hid (below_atoi hw1)
        clear hw1 ha
        go_wp2
        go_ret2
        exact ⟨rfl, hb.out⟩
      · obtain ⟨n, rfl⟩ := Int.eq_ofNat_of_zero_le (show 0 ≤ v by omega)
        have hn := Lib.hid (fun w' (hb : Below w.heap.size w w') => nameOf_any n (by omega) B w' (HE.out.below hb))
        have hlo' : 1 ≤ (n : Int) := by omega
        have hhi' : (n : Int) ≤ 99999999 := by omega
        clear hv hlo hhi HE
        by_cases hk : nameL n = k.data.toList
        · rw [if_pos ⟨by omega, by omega, by simpa using hk⟩]
          have hk' : nameB n = k := bytes_ext (by rw [nameB_list]; exact hk)
          simp only [Int.toNat_natCast]
          rw [hk'] at hn
          clear hk hk'
          go_enter Tryz.func51, Tryz.ntmps51
          go_wp2_with fail
          refine ha.out.mono ?_
          rintro e w1 ⟨rfl, hw1⟩
          have hb := Lib.hid (below_atoi hw1)
          clear hw1 ha
          go_wp2_with fail
          refine (hn.out _ hb.out).mono ?_
          rintro e w2 ⟨rfl, hb2⟩
          replace hb2 := Lib.hid (chain2 hb.out hb2)
          clear hn hb
          go_wp2
          go_ret2
          exact ⟨rfl, hb2.out⟩
        · rw [if_neg (fun h => hk (by simpa using h.2.2))]
          have hk' := neq_lists (a := nameB n) (b := k) (fun e => hk (by rw [← e, nameB_list]))
          clear hk
          go_enter Tryz.func51, Tryz.ntmps51
          go_wp2_with fail
          refine ha.out.mono ?_
          rintro e w1 ⟨rfl, hw1⟩
          have hb := Lib.hid (below_atoi hw1)
          clear hw1 ha
          go_wp2_with fail
          refine (hn.out _ hb.out).mono ?_
          rintro e w2 ⟨rfl, hb2⟩
          replace hb2 := Lib.hid (chain2 hb.out hb2)
          clear hn hb
          go_wp2
          go_ret2
          exact ⟨rfl, hb2.out⟩
  | «syntax» =>
    have ha := Lib.hid (Strc.strconv_Atoi_syntax (k.extract 1 k.size) (by omega) (by rw [hd]; exact hat) _ w hes (.inr ⟨_, _, rfl⟩))
    simp only
    clear hat hd hes her he
    go_enter Tryz.func51, Tryz.ntmps51
    go_wp2_with fail
    refine ha.out.mono ?_
    rintro e w1 ⟨N, rfl, -, -, hb⟩
    replace hb := Lib.hid hb
    clear ha
    go_wp2
    go_ret2
    exact ⟨rfl, hb.out⟩
  | range =>
    have ha := Lib.hid (Strc.strconv_Atoi_range (k.extract 1 k.size) (by omega) (by rw [hd]; exact hat) _ w her (.inr ⟨_, _, rfl⟩))
    simp only
    clear hat hd hes her he
    go_enter Tryz.func51, Tryz.ntmps51
    go_wp2_with fail
    refine ha.out.mono ?_
    rintro e w1 ⟨N, rfl, -, -, hb⟩
    replace hb := Lib.hid hb
    clear ha
    go_wp2
    go_ret2
    exact ⟨rfl, hb.out⟩
end Wal
end Go.Proofs.YtlgjbdfnhaoloaaGreatDoor
end

/- Segments that are made, that grow, that are found on a disk (layer 5). -/
section
set_option linter.unusedSimpArgs false
set_option linter.unusedVariables false
namespace Go.Proofs.YtlgjbdfnhaoloaaGreatDoor
open Go.RowKit Go.Sort
namespace Wal
open Dig Frm Dsk

/-- What newSegment leaves. -/
def NewSeg (n : Nat) (w : World) (e : Ending) (w' : World) : Prop :=
  ∃ x : GS, e = .returned (.pointer (some ⟨x.b, 0, none⟩)) ∧ x.s = ⟨n, [], false⟩ ∧ SegAt w' x ∧ (∀ b, own x b → w.heap.size ≤ b) ∧ Below w.heap.size w w'

theorem cell_new2 (w : World) (o o2 : Obj) : ((w.alloc o).alloc o2).heap[w.heap.size]? = some o ∧ ((w.alloc o).alloc o2).heap[w.heap.size + 1]? = some o2 := by
  constructor
  · rw [Below.heap_alloc _ _ _ (by simp)]; exact cell_new w o
  · have := cell_new (w.alloc o) o2
    simpa using this

theorem new_seg (n : Nat) (w : World) :
    NewSeg n w (.returned (.pointer (some ⟨w.heap.size + 1, 0, none⟩))) ((w.alloc (.cells #[.int .i64 0] 3 (0, 0))).alloc (.cells #[.int .i64 (n : Int), .slice (some ⟨w.heap.size, 0, none⟩) 1 1, .bool false] 68 (0, 0))) := by
  obtain ⟨h1, h2⟩ := cell_new2 w (.cells #[.int .i64 0] 3 (0, 0)) (.cells #[.int .i64 (n : Int), .slice (some ⟨w.heap.size, 0, none⟩) 1 1, .bool false] 68 (0, 0))
  refine ⟨⟨w.heap.size + 1, .slice (some ⟨w.heap.size, 0, none⟩) 1 1, ⟨n, [], false⟩⟩, rfl, rfl, ⟨h2, ⟨rfl, .inr ⟨w.heap.size, 1, _, rfl, Nat.zero_le _, h1, Nat.le_refl _, by unfold maxLen; omega, rfl, rfl⟩⟩⟩, ?_, ?_⟩
  · rintro b (rfl | e)
    · exact Nat.le_succ _
    · simp [Value.ownBlock] at e; omega
  · exact ((Below.refl _ w).alloc (Nat.le_refl _) _).alloc (by simp) _

set_option maxHeartbeats 400000 in
theorem newSeg_any (n : Nat) (w : World) : Calls Tryz.prog 31 #[.int .i64 (n : Int)] w (NewSeg n w) := by
  have H := Lib.hid (new_seg n w)
  go_enter Tryz.func31, Tryz.ntmps31
  go_wp2
  go_ret
  exact H.out

/-- What grow leaves. -/
def Grew (x : GS) (z : Nat) (w : World) (e : Ending) (w' : World) : Prop :=
  e = .returned (.tuple #[]) ∧ ∃ v', SegAt w' ⟨x.b, v', { x.s with lens := x.s.lens ++ [z] }⟩ ∧ (∀ b, own ⟨x.b, v', { x.s with lens := x.s.lens ++ [z] }⟩ b → own x b ∨ w.heap.size ≤ b) ∧ Upon (own x) w w'

theorem infoI : (Tryz.prog.info? 3).map (fun i => (i.zero, i.size, i.bytes)) = some (some (.int .i64 0), 1, 8) := by kernel_rfl

theorem cell_of_seg {w : World} {x : GS} (h : w.heap[x.b]? = some (.cells (segCells x) 68 (0, 0))) : w.cell? ⟨x.b, 1, none⟩ = some x.v := by rw [Lib.cell_of_heap h]; rfl
theorem set_at {w : World} {p o : Nat} {c : Array Value} {v : Value} {T : TypeId} {z : Nat × Nat} (h : w.heap[p]? = some (.cells c T z)) : (w.setCell ⟨p, o, none⟩ v).heap[p]? = some (.cells (c.setIfInBounds o v) T z) := by
  simp [World.setCell, Array.getElem?_modify, h]
theorem SegAt.ne {w : World} {x : GS} (h : SegAt w x) : x.v.ownBlock ≠ some x.b := by
  intro e
  rcases h.row.2 with ⟨hv, _⟩ | ⟨gb, cap, cur, hv, _, hg, _⟩
  · rw [hv] at e; cases e
  · rw [hv] at e; cases e; rw [h.cell] at hg; simp at hg

theorem grew_of {w w2 : World} {x : GS} {z g cap : Nat} (h : SegAt w x) (hf : Hid (FineS x.s)) (hz : z ≤ 1000000000000)
    (hown : w2.ownsRow 0 3 1 (.slice (some ⟨g, 0, none⟩) (x.s.lens.length + 1 + 1) cap) (x.s.lens.length + 1 + 1) (intsV (psums x.s.lens) ++ [.int .i64 (IntKind.i64.wrap ((x.s.size : Int) + (z : Int)))]))
    (hs : w.heap.size + 1 ≤ w2.heap.size) (hos : w2.os = w.os) (htape : w2.tape = w.tape) (hout : w2.output = w.output) (hk : ∀ k, k < w.heap.size → some k ≠ x.v.ownBlock → w2.heap[k]? = w.heap[k]?)
    (hat : x.v.ownBlock = some g ∨ g = w.heap.size + 1) (hlt : g < w2.heap.size) :
    Grew x z w (.returned (.tuple #[])) (w2.setCell ⟨x.b, 1, none⟩ (.slice (some ⟨g, 0, none⟩) (x.s.lens.length + 1 + 1) cap)) := by
  have hlb := lt_of_block h.cell
  have hgb : g ≠ x.b := by
    rintro rfl
    rcases hat with e | e
    · exact h.ne e
    · omega
  have hb2 : w2.heap[x.b]? = some (.cells (segCells x) 68 (0, 0)) := (hk x.b hlb (fun e => h.ne e.symm)).trans h.cell
  have hsum : IntKind.i64.wrap ((x.s.size : Int) + (z : Int)) = ((x.s.lens.sum + z : Nat) : Int) := by
    have := hf.out.size
    rw [IntWalk.i64_in _ (by unfold Seg.size; omega)]; unfold Seg.size; omega
  refine ⟨rfl, .slice (some ⟨g, 0, none⟩) (x.s.lens.length + 1 + 1) cap, ⟨?_, ?_⟩, ?_, ?_⟩
  · rw [set_at hb2]; rfl
  · refine ownsRow_kept (w := w2) ?_ (fun b hb => Below.heap_setCell _ _ _ _ (fun e => hgb ((Option.some.inj (show some g = some b from hb)).trans e)))
    simp only [List.length_append, List.length_singleton]
    unfold intsV at hown ⊢
    rw [psums_snoc, List.map_append, List.map_singleton, ← hsum]
    exact hown
  · rintro b (rfl | e)
    · exact .inl (.inl rfl)
    · simp [Value.ownBlock] at e
      subst e
      rcases hat with e | e
      · exact .inl (.inr e)
      · exact .inr (by omega)
  · refine Upon.setCell (p := ⟨x.b, 1, none⟩) ⟨hos, htape, hout, by omega, fun k hk' hn => hk k hk' (fun e => hn (.inr e.symm))⟩ (.inl (.inl rfl)) _

set_option maxHeartbeats 1600000 in
set_option maxRecDepth 100000 in
theorem grow_any (x : GS) (z : Nat) (w : World) (h : SegAt w x) (hf : FineS x.s) (hz : z ≤ 1000000000000) :
    Calls Tryz.prog 34 #[.pointer (some ⟨x.b, 0, none⟩), .int .i64 (z : Int)] w (Grew x z w) := by
  obtain ⟨i0, hi, hz0, hz1, hz2⟩ := info_parts infoI
  have hsz := Lib.hid (fun (w' : World) (hk : SegAt w' x) => size_any x w' hk hf)
  obtain ⟨-, c1, -, fr⟩ := h.cells
  have f1 := fr 1
  have hh := Lib.hid h
  have hl : x.s.lens.length ≤ 1000000000000 := Nat.le_trans hf.len hf.size
  have hss : x.s.size ≤ 1000000000000 := hf.size
  have lb := Lib.hid (lt_of_block h.cell)
  have hne := Lib.hid h.ne
  have hf' := Lib.hid hf
  have c1a := fun (n : Nat) (o : Obj) => (World.cell?_alloc_lt (w.drewN n) o ⟨x.b, 1, none⟩ lb.out).trans c1
  clear h fr
  go_enter Tryz.func34, Tryz.ntmps34
  go_wp2_with fail
  go_region_law (first
    | (refine step_append_lies (o := ⟨some 14, _, _, _, _, _⟩) _ (by rfl) _ _ _ (by rfl) 0 3 i0 (.int .i64 0) 1 8 Tryz.underlying24 hi hz0 hz1 hz2 rfl (by omega) _ (x.s.lens.length + 1) (intsV (psums x.s.lens)) (by rfl) (ownsRow_kept hh.out.row (fun b hb => Below.heap_alloc _ _ _ (hh.out.row.lt b hb).2)) ⟨w.heap.size, 0, none⟩ 1 1 [_] (by rfl) rfl (cell_one_new _ _ _) (by simp [Value.oneCell']) (by omega) (by unfold maxLen; omega) (by omega) (by omega) _ rfl ?_
       intro g cap w2 hown hgrow hat hlt
       have hsz2 : w.heap.size + 1 ≤ w2.heap.size := by have := hgrow.size; simp at this; omega
       have hkk : ∀ k, k < w.heap.size → some k ≠ x.v.ownBlock → w2.heap[k]? = w.heap[k]? := fun k hk hn => (hgrow.block k (by simp; omega) hn).trans (Below.heap_alloc _ _ k hk)
       have hat' : x.v.ownBlock = some g ∨ g = w.heap.size + 1 := hat.imp id (fun e => by simpa using e)
       have hb2 : w2.heap[x.b]? = some (.cells (segCells x) 68 (0, 0)) := (hkk x.b lb.out (fun e => hne.out e.symm)).trans hh.out.cell
       have d1 := cell_of_seg hb2
       have g1 := Lib.frozen_of_heap hb2 1
       have HG := Lib.hid (grew_of hh.out hf' hz hown hsz2 hgrow.os hgrow.tape hgrow.output hkk hat' hlt)
       clear hown hgrow hat hlt hb2 hsz2 hkk hat')
    | (go_simp; go_at_call 64; refine (hsz.out w.drew (hh.out.kept (w' := w.drew) fun _ _ => rfl)).mono ?_; rintro e w1 ⟨rfl, n, rfl⟩))
  all_goals (go_wp2; go_end0; exact HG.out)

/-! ### the good part -/
theorem goodF_sum : ∀ (f : Nat) (b : ByteArray) (m : Nat), m ≤ b.size → (goodF f b m).sum + m ≤ b.size ∧ (goodF f b m).length ≤ (goodF f b m).sum
  | 0, _, _, h => by simp [goodF]; exact h
  | f + 1, b, m, h => by
    unfold goodF
    split
    · rename_i hc
      have hg := gotF_ok _ hc.1
      have hz : (b.extract m b.size).size = b.size - m := len_of b m b.size (Nat.le_refl _)
      have ih := goodF_sum f b (m + (gotF (b.extract m b.size)).size) (by omega)
      simp only [List.sum_cons, List.length_cons]
      omega
    · simp; exact h
theorem good_fine (n : Nat) (b : ByteArray) (m : Bool) (h1 : 1 ≤ n) (h2 : n ≤ 99999999) (hb : b.size ≤ 1000000000000) : FineS ⟨n, good b, m⟩ := by
  have h := goodF_sum (b.size + 1) b 0 (Nat.zero_le _)
  exact ⟨h1, h2, by show (goodF _ b 0).sum ≤ _; omega, h.2⟩

/-- How many entries a segment's row of sizes has, in memory. -/
def rowLen (w : World) (b : Nat) : Nat := match w.cell? ⟨b, 1, none⟩ with
  | some (.slice _ n _) => n
  | _ => 0
theorem row_len {w : World} {x : GS} (h : SegAt w x) : rowLen w x.b = x.s.lens.length + 1 := by
  obtain ⟨g, c, hv, -, -, -⟩ := h.shape
  unfold rowLen
  rw [h.cells.2.1, hv]

/-- What foundSegment leaves. -/
def FoundSeg (n : Nat) (b : ByteArray) (w : World) (e : Ending) (w' : World) : Prop :=
  ∃ x : GS, e = .returned (.pointer (some ⟨x.b, 0, none⟩)) ∧ x.s = ⟨n, good b, false⟩ ∧ SegAt w' x ∧ (∀ b, own x b → w.heap.size ≤ b) ∧ Below w.heap.size w w'

/-- What holds at the head of each round. -/
def Finding (n : Nat) (b : ByteArray) (b0 : Nat) (w wr : World) : Prop :=
  ∃ (x : GS) (f : Nat), x.b = b0 ∧ x.s.first = n ∧ x.s.marked = false ∧ x.s.lens.length ≤ x.s.lens.sum ∧ x.s.lens.sum ≤ b.size ∧ b.size < x.s.lens.sum + f ∧ good b = x.s.lens ++ goodF f b x.s.lens.sum ∧ SegAt wr x ∧ (∀ c, own x c → w.heap.size ≤ c) ∧ Below w.heap.size w wr

theorem of_drewN {w w2 : World} {n : Nat} (h : Below (w.drewN n).heap.size (w.drewN n) w2) : Below w.heap.size w w2 := chain2 (w1 := w.drewN n) ⟨rfl, rfl, rfl, Nat.le_refl _, fun _ _ => rfl⟩ h
theorem finding_next {n : Nat} {b : ByteArray} {w wr w2 w4 : World} {x : GS} {f gz : Nat} {o : Obj} {e : Ending} (hs : SegAt wr x) (ho : ∀ c, own x c → w.heap.size ≤ c) (hb : Below w.heap.size w wr) (n1 : Nat) (hb2 : Below (wr.drewN n1).heap.size (wr.drewN n1) w2)
    (hf : x.s.first = n) (hm : x.s.marked = false) (hl : x.s.lens.length ≤ x.s.lens.sum) (hle : x.s.lens.sum ≤ b.size) (hlt : b.size < x.s.lens.sum + (f + 1)) (hg0 : 0 < gz) (hg1 : gz ≤ b.size - x.s.lens.sum)
    (hg : good b = x.s.lens ++ [gz] ++ goodF f b (x.s.lens.sum + gz)) (h : Grew x gz (w2.alloc o) e w4) : e = .returned (.tuple #[]) ∧ Finding n b x.b w w4 ∧ b.size + 2 - rowLen w4 x.b < b.size + 2 - rowLen wr x.b := by
  obtain ⟨he, v', h1, h2, h3⟩ := h
  have hb2 := of_drewN hb2
  have hbel2 : Below w.heap.size w w2 := hb.trans (hb2.mono hb.size)
  have hsz2 : wr.heap.size ≤ w2.heap.size := hb2.size
  refine ⟨he, ⟨⟨x.b, v', { x.s with lens := x.s.lens ++ [gz] }⟩, f, rfl, hf, hm, by simp; omega, by simp; omega, by simp; omega, by rw [hg]; simp, h1, ?_, ?_⟩, ?_⟩
  · intro c hc
    rcases h2 c hc with h | h
    · exact ho c h
    · simp at h; have := hbel2.size; omega
  · exact (hbel2.alloc hbel2.size o).trans (h3.below (by simp; have := hbel2.size; omega) ho)
  · have e1 := row_len h1
    simp at e1
    rw [row_len hs, e1]
    omega

set_option maxHeartbeats 1600000 in
set_option maxRecDepth 100000 in
theorem foundSegment_any (n : Nat) (b : ByteArray) (h1 : 1 ≤ n) (h2 : n ≤ 99999999) (hb : b.size ≤ 1000000000000) (B : Nat) (w : World) (he : Env B w) :
    Calls Tryz.prog 53 #[.int .i64 (n : Int), .string b] w (FoundSeg n b w) := by
  have hn := Lib.hid (newSeg_any n w)
  have HE := Lib.hid he
  clear he
  go_enter Tryz.func53, Tryz.ntmps53
  go_wp2_with fail
  refine hn.out.mono ?_
  rintro e w1 ⟨x0, rfl, hx, hs, ho, hbel⟩
  have HS := Lib.hid (show Finding n b x0.b w w1 from ⟨x0, b.size + 1, rfl, by rw [hx], by rw [hx], by rw [hx]; simp, by rw [hx]; simp, by rw [hx]; simp, by rw [hx]; rfl, hs, ho, hbel⟩)
  clear hx hs ho hbel hn
  generalize x0.b = b0 at *
  clear x0
  go_wp2_with fail
  go_loopw [7] (fun _ wr => Finding n b b0 w wr) (fun _ wr => b.size + 2 - rowLen wr b0)
  case atStart => exact HS.out
  case round =>
    obtain ⟨x, f, rfl, hf, hm, hl, hle, hlt, hg, hs, ho, hbel⟩ := hrel
    have hfine : FineS x.s := ⟨by omega, by omega, by omega, hl⟩
    have HZ := Lib.hid (size_any x wr hs hfine)
    have HL := Lib.hid (row_len hs)
    have hget := Lib.hid (fun (n : Nat) => Frm.get_any (b.extract x.s.lens.sum b.size) (by rw [ByteArray.size_extract]; omega) (wr.drewN n) ⟨(HE.out.below hbel).tab.c0, (HE.out.below hbel).tab.c1, (HE.out.below hbel).tab.pos⟩)
    have hgz : (b.extract x.s.lens.sum b.size).size = b.size - x.s.lens.sum := len_of b _ b.size (Nat.le_refl _)
    obtain ⟨f, rfl⟩ : ∃ q, f = q + 1 := ⟨f - 1, by omega⟩
    have hsz : x.s.size = x.s.lens.sum := rfl
    rw [hsz] at HZ
    by_cases hc : (gotF (b.extract x.s.lens.sum b.size)).err = 0 ∧ (gotF (b.extract x.s.lens.sum b.size)).kind = 1
    · have hok := gotF_ok _ hc.1
      rw [hgz] at hok
      have hg2 : good b = (x.s.lens ++ [(gotF (b.extract x.s.lens.sum b.size)).size]) ++ goodF f b (x.s.lens.sum + (gotF (b.extract x.s.lens.sum b.size)).size) := by
        rw [hg]
        conv => lhs; unfold goodF
        rw [if_pos hc]
        simp
      generalize gotF (b.extract x.s.lens.sum b.size) = g at *
      obtain ⟨gk, gd, gz, ge⟩ := g
      obtain ⟨rfl, rfl⟩ := hc
      simp only at hok hg2 hget
      obtain ⟨hg0, hg1, -, -⟩ := hok
      have HG := Lib.hid (fun (w' : World) (hs' : SegAt w' x) => grow_any x gz w' hs' hfine (by omega))
      have HS := Lib.hid hs
      have HO := Lib.hid ho
      have HB := Lib.hid hbel
      have HG2 := Lib.hid hg2
      have HM := Lib.hid hm
      have HF := Lib.hid hf
      have hlim : (x.s.lens.sum : Int) ≤ (b.size : Int) := by omega
      clear hs ho hbel hg hg2 hfine hsz hgz hm hf
      go_wp2_with fail
      refine HZ.out.mono ?_
      rintro e w1 ⟨rfl, n1, rfl⟩
      go_wp2_with fail
      refine (hget.out n1).mono ?_
      rintro e w2 ⟨rfl, hb2⟩
      replace hb2 := Lib.hid hb2
      go_wp2_with fail
      refine (HG.out _ ((HS.out.kept (w' := w2) fun b hb => hb2.out.block b (HS.out.lt b hb)).kept fun b hb => Below.heap_alloc _ _ b (Nat.lt_of_lt_of_le (HS.out.lt b hb) hb2.out.size))).mono ?_
      rintro e w4 hgr
      obtain ⟨rfl, H1, H2⟩ := finding_next HS.out HO.out HB.out n1 hb2.out HF.out HM.out hl hle hlt hg0 hg1 HG2.out hgr
      replace H1 := Lib.hid H1
      replace H2 := Lib.hid H2
      clear hgr HG HS HO HB HG2 HZ hget HL
      go_wp2
      go_roundw
      case rel => exact H1.out
      case measure => exact H2.out
    · have hgd : good b = x.s.lens := by
        rw [hg]
        conv => lhs; unfold goodF
        rw [if_neg hc]
        simp
      have HF0 := Lib.hid (show ∀ w', Below wr.heap.size wr w' → FoundSeg n b w (.returned (.pointer (some ⟨x.b, 0, none⟩))) w' from fun w' hb' => by
        refine ⟨x, rfl, ?_, hs.below hb', ho, hbel.trans (hb'.mono hbel.size)⟩
        cases x with | mk xb xv xs => cases xs with | mk a l m => simp at *; exact ⟨hf, hgd.symm, hm⟩)
      have hlim : (x.s.lens.sum : Int) ≤ (b.size : Int) := by omega
      have hle := gotF_le (b.extract x.s.lens.sum b.size)
      clear hg hgd hgz hs ho hbel hm hf hsz HL
      by_cases hc1 : (gotF (b.extract x.s.lens.sum b.size)).err = 0
      · have hk : (gotF (b.extract x.s.lens.sum b.size)).kind ≠ 1 := fun h => hc ⟨hc1, h⟩
        generalize gotF (b.extract x.s.lens.sum b.size) = g at *
        obtain ⟨gk, gd, gz, ge⟩ := g
        simp only at hc1 hk hget
        subst hc1
        have hkk : ((gk : Int) == 1) = false := by simp; omega
        have hkn : ((gk : Int) != 1) = true := by simp; omega
        clear hc
        go_wp2_with fail
        refine HZ.out.mono ?_
        rintro e w1 ⟨rfl, n1, rfl⟩
        go_wp2_with fail
        refine (hget.out n1).mono ?_
        rintro e w2 ⟨rfl, hb2⟩
        have HX := Lib.hid (fun o => HF0.out (w2.alloc o) ((of_drewN hb2).alloc (of_drewN hb2).size o))
        clear hb2 hget HF0 HZ
        go_wp2
        go_ret
        exact HX.out _
      · generalize gotF (b.extract x.s.lens.sum b.size) = g at *
        obtain ⟨gk, gd, gz, ge⟩ := g
        simp only at hc1 hget
        have hkn : ((ge : Int) != 0) = true := by simp; omega
        clear hc
        go_wp2_with fail
        refine HZ.out.mono ?_
        rintro e w1 ⟨rfl, n1, rfl⟩
        go_wp2_with fail
        refine (hget.out n1).mono ?_
        rintro e w2 ⟨rfl, hb2⟩
        have HX := Lib.hid (fun o => HF0.out (w2.alloc o) ((of_drewN hb2).alloc (of_drewN hb2).size o))
        clear hb2 hget HF0 HZ
        go_wp2
        go_ret
        exact HX.out _
end Wal
end Go.Proofs.YtlgjbdfnhaoloaaGreatDoor
end

/- What is carried from call to call while a function of the log (layer 5) runs: the disk, the variables, blocks of its own; a row of segments in memory; all segments on a disk. -/
section
set_option linter.unusedSimpArgs false
set_option linter.unusedVariables false
namespace Go.Proofs.YtlgjbdfnhaoloaaGreatDoor
open Go.RowKit Go.Sort
namespace Wal
open Dig Frm Dsk

/-- From W on, in which S was owned: the disk is st, the blocks of T are the log's; nothing else has turned. -/
structure Fr (B : Nat) (W : World) (S : Nat → Prop) (pd : Nat) (st : St) (T : Nat → Prop) (w : World) : Prop where
  env : Env B w
  disk : ∃ Sd, IsDisk w Sd pd st ∧ (∀ b, Sd b → ¬ T b) ∧ ∀ b, Sd b → S b ∨ W.heap.size ≤ b
  lt : ∀ b, T b → b < w.heap.size
  tin : ∀ b, T b → S b ∨ W.heap.size ≤ b
  upon : Upon S W w
  lo : B ≤ W.heap.size
  low : ∀ b, S b → B ≤ b

theorem Fr.start {B : Nat} {w : World} {S : Nat → Prop} {pd : Nat} {st : St} (he : Env B w) (hd : IsDisk w S pd st) (hS : ∀ b, S b → B ≤ b) : Fr B w S pd st (fun _ => False) w :=
  ⟨he, ⟨S, hd, fun _ _ h => h, fun _ h => .inl h⟩, fun _ h => h.elim, fun _ h => h.elim, Upon.refl _ _, he.le, hS⟩
/-- What the log writes to its own blocks, and makes. -/
theorem Fr.own {B : Nat} {W w w1 : World} {S T : Nat → Prop} {pd : Nat} {st : St} (h : Fr B W S pd st T w) (hu : Upon T w w1) : Fr B W S pd st (more T w w1) w1 := by
  obtain ⟨Sd, hd, h1, h2⟩ := h.disk
  have hT : ∀ b, T b → B ≤ b := fun b hb => (h.tin b hb).elim (h.low b) fun h' => Nat.le_trans h.lo h'
  refine ⟨h.env.upon hu hT, ⟨Sd, hd.upon hu h1, ?_, h2⟩, ?_, ?_, ?_, h.lo, h.low⟩
  · rintro b hb (hb' | hb')
    · exact h1 b hb hb'
    · have := hd.lt b hb; omega
  · rintro b (hb | hb)
    · exact Nat.lt_of_lt_of_le (h.lt b hb) hu.size
    · exact hb.2
  · rintro b (hb | hb)
    · exact h.tin b hb
    · exact .inr (Nat.le_trans h.upon.size hb.1)
  · refine h.upon.trans' hu fun i hi hs => ?_
    rcases h.tin i hs with h' | h'
    · exact h'
    · omega
theorem Fr.below {B : Nat} {W w w1 : World} {S T : Nat → Prop} {pd : Nat} {st : St} (h : Fr B W S pd st T w) (hb : Below w.heap.size w w1) : Fr B W S pd st (more T w w1) w1 := h.own (Upon.of_below hb T)
theorem Fr.narrow {B : Nat} {W w : World} {S T T' : Nat → Prop} {pd : Nat} {st : St} (h : Fr B W S pd st T w) (hT : ∀ b, T' b → T b) : Fr B W S pd st T' w := by
  obtain ⟨Sd, hd, h1, h2⟩ := h.disk
  exact ⟨h.env, ⟨Sd, hd, fun b hb hb' => h1 b hb (hT b hb'), h2⟩, fun b hb => h.lt b (hT b hb), fun b hb => h.tin b (hT b hb), h.upon, h.lo, h.low⟩
/-- Behind a step of the disk. -/
theorem Fr.step {B : Nat} {W w : World} {S T : Nat → Prop} {pd : Nat} {st st' : St} (h : Fr B W S pd st T w) {f : FuncId} {args : Array Value} {P : Ending → Prop}
    (hc : ∀ Sd, IsDisk w Sd pd st → Calls Tryz.prog f args w fun e w' => P e ∧ Step Sd pd st' w w') :
    Calls Tryz.prog f args w fun e w' => P e ∧ Fr B W S pd st' T w' ∧ (∀ b, T b → w'.heap[b]? = w.heap[b]?) ∧ w.heap.size ≤ w'.heap.size := by
  obtain ⟨Sd, hd, h1, h2⟩ := h.disk
  refine (hc Sd hd).mono fun e w' ⟨hp, ⟨⟨Sd', hd', k1, k2⟩, hu⟩⟩ => ?_
  have hSd : ∀ b, Sd b → B ≤ b := fun b hb => (h2 b hb).elim (h.low b) fun h' => Nat.le_trans h.lo h'
  refine ⟨hp, ⟨h.env.upon hu hSd, ⟨Sd', hd', ?_, ?_⟩, fun b hb => Nat.lt_of_lt_of_le (h.lt b hb) hu.size, h.tin, ?_, h.lo, h.low⟩, fun b hb => hu.block b (h.lt b hb) (fun hs => h1 b hs hb), hu.size⟩
  · intro b hb hT
    rcases k2 b hb with h' | h'
    · exact h1 b h' hT
    · have := h.lt b hT; omega
  · intro b hb
    rcases k2 b hb with h' | h'
    · exact h2 b h'
    · exact .inr (Nat.le_trans h.upon.size h')
  · refine h.upon.trans' hu fun i hi hs => ?_
    rcases h2 i hs with h' | h'
    · exact h'
    · omega
theorem Fr.fine {B : Nat} {W w : World} {S T : Nat → Prop} {pd : Nat} {st : St} (h : Fr B W S pd st T w) : Fine st := let ⟨_, hd, _, _⟩ := h.disk; hd.fine

/-! ### segments -/
def ptrV (x : GS) : Value := .pointer (some ⟨x.b, 0, none⟩)
structure SegsAt (w : World) (T : Nat → Prop) (l : List GS) : Prop where
  seg : ∀ x ∈ l, SegAt w x
  inT : ∀ x ∈ l, ∀ b, own x b → T b
  apart : l.Pairwise fun x y => ∀ b, own x b → ¬ own y b
  fine : ∀ x ∈ l, FineS x.s
structure RowAt (w : World) (T : Nat → Prop) (l : List GS) (v : Value) : Prop where
  row : w.ownsRow 0 54 1 v l.length (l.map ptrV)
  inT : ∀ b, v.ownBlock = some b → T b

theorem SegsAt.kept {w w' : World} {T : Nat → Prop} {l : List GS} (h : SegsAt w T l) (hk : ∀ b, T b → w'.heap[b]? = w.heap[b]?) : SegsAt w' T l :=
  ⟨fun x hx => (h.seg x hx).kept fun b hb => hk b (h.inT x hx b hb), h.inT, h.apart, h.fine⟩
theorem SegsAt.mono {w : World} {T T' : Nat → Prop} {l : List GS} (h : SegsAt w T l) (hT : ∀ b, T b → T' b) : SegsAt w T' l := ⟨h.seg, fun x hx b hb => hT b (h.inT x hx b hb), h.apart, h.fine⟩
theorem SegsAt.sub {w : World} {T : Nat → Prop} {l l' : List GS} (h : SegsAt w T l) (hs : l'.Sublist l) : SegsAt w T l' :=
  ⟨fun x hx => h.seg x (hs.subset hx), fun x hx => h.inT x (hs.subset hx), h.apart.sublist hs, fun x hx => h.fine x (hs.subset hx)⟩
theorem RowAt.kept {w w' : World} {T : Nat → Prop} {l : List GS} {v : Value} (h : RowAt w T l v) (hk : ∀ b, T b → w'.heap[b]? = w.heap[b]?) : RowAt w' T l v :=
  ⟨ownsRow_kept h.row fun b hb => hk b (h.inT b hb), h.inT⟩
theorem RowAt.mono {w : World} {T T' : Nat → Prop} {l : List GS} {v : Value} (h : RowAt w T l v) (hT : ∀ b, T b → T' b) : RowAt w T' l v := ⟨h.row, fun b hb => hT b (h.inT b hb)⟩
theorem RowAt.nil (w : World) (T : Nat → Prop) : RowAt w T [] (.slice none 0 0) := ⟨World.ownsRow_nil _ _ _ _, fun b hb => by cases hb⟩
theorem RowAt.shape {w : World} {T : Nat → Prop} {l : List GS} {v : Value} (h : RowAt w T l v) : ∃ g c a, v = .slice a l.length c ∧ (l ≠ [] → a = some ⟨g, 0, none⟩) ∧ l.length ≤ c ∧ c ≤ maxLen ∧
    (l ≠ [] → g < w.heap.size ∧ T g ∧ ∀ (j : Nat) x, l[j]? = some x → w.cell? ⟨g, j, none⟩ = some (ptrV x)) := by
  have hcells := fun g => h.row.cells (g := g)
  rcases h.row.2 with ⟨hv, h0⟩ | ⟨g, cap, cur, hv, _, hg, h1, h2, _⟩
  · exact ⟨0, 0, none, by rw [hv, h0], fun hn => absurd (List.eq_nil_of_length_eq_zero h0) hn, by omega, by unfold maxLen; omega, fun hn => absurd (List.eq_nil_of_length_eq_zero h0) hn⟩
  · refine ⟨g, cap, some ⟨g, 0, none⟩, hv, fun _ => rfl, h1, h2, fun _ => ⟨lt_of_block hg, h.inT g (by rw [hv]; rfl), fun j x hx => ?_⟩⟩
    have := hcells g (by rw [hv]; rfl) j (ptrV x) (by rw [List.getElem?_map, hx]; rfl)
    rw [Lib.add_plain, Nat.zero_add] at this
    exact this
theorem RowAt.type {w : World} {T : Nat → Prop} {l : List GS} {v : Value} (h : RowAt w T l v) : ∀ b, v.ownBlock = some b → ∃ c, w.heap[b]? = some (.cells c 54 (0, 0)) := by
  intro b hb
  rcases h.row.2 with ⟨hv, _⟩ | ⟨g, cap, cur, hv, _, hg, _⟩
  · rw [hv] at hb; cases hb
  · rw [hv] at hb; cases hb; exact ⟨_, hg⟩
/-- The row of pointers lies in none of the segments' blocks. -/
theorem own_type {w : World} {x : GS} (h : SegAt w x) {b : Nat} (hb : own x b) : ∃ c T, w.heap[b]? = some (.cells c T (0, 0)) ∧ (T = 68 ∨ T = 3) := by
  rcases hb with rfl | e
  · exact ⟨_, _, h.cell, .inl rfl⟩
  · rcases h.row.2 with ⟨hv, _⟩ | ⟨g, cap, cur, hv, _, hg, _⟩
    · rw [hv] at e; cases e
    · rw [hv] at e; cases e; exact ⟨_, _, hg, .inr rfl⟩
theorem RowAt.ne {w : World} {T : Nat → Prop} {l : List GS} {v : Value} (h : RowAt w T l v) {x : GS} (hx : SegAt w x) {b : Nat} (hb : v.ownBlock = some b) : ¬ own x b := by
  intro ho
  obtain ⟨c, h1⟩ := h.type b hb
  obtain ⟨c2, T2, h2, h3⟩ := own_type hx ho
  rw [h1] at h2
  simp at h2
  rcases h3 with rfl | rfl <;> exact absurd h2.2 (by decide)
/-- A new segment behind the others. -/
theorem SegsAt.snoc {w : World} {T : Nat → Prop} {l : List GS} {x : GS} (h : SegsAt w T l) (hx : SegAt w x) (hT : ∀ b, own x b → T b) (hf : FineS x.s) (hn : ∀ y ∈ l, ∀ b, own y b → ¬ own x b) : SegsAt w T (l ++ [x]) := by
  refine ⟨?_, ?_, ?_, ?_⟩
  · intro y hy; rcases List.mem_append.1 hy with hy | hy
    · exact h.seg y hy
    · simp at hy; subst hy; exact hx
  · intro y hy; rcases List.mem_append.1 hy with hy | hy
    · exact h.inT y hy
    · simp at hy; subst hy; exact hT
  · rw [List.pairwise_append]
    refine ⟨h.apart, List.pairwise_singleton _ _, fun a ha b hb => ?_⟩
    simp at hb; subst hb; exact hn a ha
  · intro y hy; rcases List.mem_append.1 hy with hy | hy
    · exact h.fine y hy
    · simp at hy; subst hy; exact hf
end Wal
end Go.Proofs.YtlgjbdfnhaoloaaGreatDoor
end

/- All segments on a disk (layer 5), and how many of them belong to a log. -/
section
set_option linter.unusedSimpArgs false
set_option linter.unusedVariables false
namespace Go.Proofs.YtlgjbdfnhaoloaaGreatDoor
open Go.RowKit Go.Sort
namespace Wal
open Dig Frm Dsk

theorem read_file (st : St) (h : ∀ f ∈ st.F, f.s.length ≤ 1000000000000) (k : Str) : (fileB st k).size ≤ 1000000000000 := by
  show (readA st k).toArray.size ≤ _
  have e : (readA st k).toArray.size = (readA st k).length := rfl
  rw [e]
  unfold readA
  split
  · simp
  · split
    · rename_i i hi
      rw [List.getD_eq_getElem?_getD]
      cases hf : st.F[i]? with
      | none => show ([] : Str).length ≤ _; simp
      | some f => exact h f (List.mem_of_getElem? hf)
    · simp
theorem names_ok {st : St} (h : Fine st) : ∀ x ∈ names st, 1 ≤ x.length ∧ x.length ≤ 32 := by
  intro x hx
  unfold names at hx
  split at hx
  · cases hx
  · obtain ⟨p, hp, rfl⟩ := List.mem_map.1 hx
    exact h.nmN.nm p hp
theorem names_len {st : St} (h : Fine st) : (names st).length ≤ 64 := by
  unfold names
  split
  · simp
  · rw [List.length_map]; exact h.nmN.len

/-- What foundSegments leaves. -/
def FoundAll (B : Nat) (W : World) (S : Nat → Prop) (pd : Nat) (st : St) (e : Ending) (w' : World) : Prop :=
  ∃ T l v, e = .returned v ∧ Fr B W S pd st T w' ∧ SegsAt w' T l ∧ RowAt w' T l v ∧ l.map (·.s) = found st

/-- What holds at the head of each round. -/
def Upto (B : Nat) (W : World) (S : Nat → Prop) (pd : Nat) (st : St) (gb : Nat) (k : Nat) (v : Value) (wr : World) : Prop :=
  ∃ T l, Fr B W S pd st T wr ∧ SegsAt wr T l ∧ RowAt wr T l v ∧ l.map (·.s) = ((names st).take k).filterMap (foundOne st) ∧
    (names st ≠ [] → T gb ∧ ∀ (j : Nat) x, (names st)[j]? = some x → wr.cell? ⟨gb, j, none⟩ = some (.string ⟨x.toArray⟩)) ∧ (names st ≠ [] → ∃ c, wr.heap[gb]? = some (.cells c 9 (0, 0)))

theorem row_block {w : World} {base : Nat} {v : Value} {l : List Str} (h : w.ownsRow base 9 1 v l.length (l.map encStr)) : ∃ gb, (l ≠ [] → ∃ c, w.heap[gb]? = some (.cells c 9 (0, 0))) ∧
    ∃ c a, v = .slice a l.length c ∧ (l ≠ [] → a = some ⟨gb, 0, none⟩ ∧ base ≤ gb ∧ gb < w.heap.size ∧ ∀ j x, l[j]? = some x → w.cell? ⟨gb, j, none⟩ = some (.string ⟨x.toArray⟩)) := by
  have hcells := fun g => h.cells (g := g)
  rcases h.2 with ⟨hv, h0⟩ | ⟨gb, cap, cur, hv, hb, hg, _⟩
  · exact ⟨0, fun hn => absurd (List.eq_nil_of_length_eq_zero h0) hn, 0, none, by rw [hv, h0], fun hn => absurd (List.eq_nil_of_length_eq_zero h0) hn⟩
  · refine ⟨gb, fun _ => ⟨_, hg⟩, cap, _, hv, fun _ => ⟨rfl, hb, lt_of_block hg, fun j x hx => ?_⟩⟩
    have := hcells gb (by rw [hv]; rfl) j (encStr x) (by rw [List.getElem?_map, hx]; rfl)
    rw [Lib.add_plain, Nat.zero_add] at this
    exact this

theorem upto_start {B : Nat} {w w1 : World} {S : Nat → Prop} {pd : Nat} {st : St} {v : Value} (h : Fr B w S pd st (fun _ => False) w) (hrow : w1.ownsRow w.heap.size 9 1 v (names st).length ((names st).map encStr)) (hb : Below w.heap.size w w1) :
    ∃ gb a c, v = .slice a (names st).length c ∧ (names st ≠ [] → a = some ⟨gb, 0, none⟩) ∧ Upto B w S pd st gb 0 (.slice none 0 0) w1 := by
  obtain ⟨gb, hc0, c, a, hv, hc⟩ := row_block hrow
  refine ⟨gb, a, c, hv, fun hn => (hc hn).1, _, [], h.below hb, ⟨by simp, by simp, List.Pairwise.nil, by simp⟩, RowAt.nil _ _, by simp, fun hn => ⟨.inr ⟨(hc hn).2.1, (hc hn).2.2.1⟩, (hc hn).2.2.2⟩, hc0⟩
theorem below_upon {w w1 : World} (hb : Below w.heap.size w w1) (T : Nat → Prop) : Upon T w w1 := Upon.of_below hb T
theorem found_snoc {st : St} {k : Nat} {x : Str} (h : (names st)[k]? = some x) : ((names st).take (k + 1)).filterMap (foundOne st) = ((names st).take k).filterMap (foundOne st) ++ (foundOne st x).toList := by
  have hk := (List.getElem?_eq_some_iff.1 h).1
  have hx := (List.getElem?_eq_some_iff.1 h).2
  rw [List.take_succ_eq_append_getElem hk, List.filterMap_append, hx]
  cases hh : foundOne st x <;> simp [hh]

theorem first_bounds {k : Str} {n : Nat} (h : firstN k = some n) : 1 ≤ n ∧ n ≤ 99999999 := by
  unfold firstN at h
  split at h
  · split at h
    · rename_i hc; cases h; omega
    · cases h
  · cases h

/-- A name that is none of a segment's. -/
theorem upto_skip {B : Nat} {W wr w1 : World} {S : Nat → Prop} {pd : Nat} {st : St} {gb k : Nat} {v : Value} {x : Str} (h : Upto B W S pd st gb k v wr) (hx : (names st)[k]? = some x) (hn : firstN x = none) (hb : Below wr.heap.size wr w1) :
    Upto B W S pd st gb (k + 1) v w1 := by
  obtain ⟨T, l, h1, h2, h3, h4, h5, h6⟩ := h
  have hk : ∀ b, T b → w1.heap[b]? = wr.heap[b]? := fun b hb' => hb.block b (h1.lt b hb')
  refine ⟨more T wr w1, l, h1.below hb, (h2.kept hk).mono fun b h => .inl h, (h3.kept hk).mono fun b h => .inl h, ?_, fun hne => ⟨.inl (h5 hne).1, fun j y hy => ?_⟩, fun hne => ?_⟩
  · rw [found_snoc hx, h4]
    simp [foundOne, hn]
  · exact (World.cell?_of_block (w := wr) (a := ⟨gb, j, none⟩) (hk gb (h5 hne).1)).trans ((h5 hne).2 j y hy)
  · obtain ⟨c, hc⟩ := h6 hne; exact ⟨c, (hk gb (h5 hne).1).trans hc⟩

/-- A segment more. -/
theorem upto_add {B : Nat} {W wr w1 w2 w3 w5 : World} {S T : Nat → Prop} {pd : Nat} {st : St} {gb k n : Nat} {v v' : Value} {x : Str} {l : List GS} {y : GS} (hx : (names st)[k]? = some x) (hn : firstN x = some n) (hb : Below wr.heap.size wr w1)
    (h1 : Fr B W S pd st T wr) (h2 : SegsAt wr T l) (h3 : RowAt wr T l v) (h4 : l.map (·.s) = ((names st).take k).filterMap (foundOne st))
    (h5 : names st ≠ [] → T gb ∧ ∀ (j : Nat) x, (names st)[j]? = some x → wr.cell? ⟨gb, j, none⟩ = some (.string ⟨x.toArray⟩)) (h6 : names st ≠ [] → ∃ c, wr.heap[gb]? = some (.cells c 9 (0, 0)))
    (f2 : Fr B W S pd st (more T wr w1) w2) (k2 : ∀ b, more T wr w1 b → w2.heap[b]? = w1.heap[b]?) (z2 : w1.heap.size ≤ w2.heap.size)
    (hy : y.s = ⟨n, good (fileB st x), false⟩) (hfy : FineS y.s) (hs : SegAt w3 y) (ho : ∀ b, own y b → w2.heap.size ≤ b) (hb3 : Below w2.heap.size w2 w3)
    (hrow : w5.ownsRow 0 54 1 v' (l.length + 1) (l.map ptrV ++ [ptrV y])) (hg : (w3.alloc (.cells #[ptrV y] 54 (0, 0))).grownBy w5 v.ownBlock) (hv' : v'.ownBlock = v.ownBlock ∨ v'.ownBlock = some (w3.heap.size + 1)) :
    Upto B W S pd st gb (k + 1) v' w5 := by
  have s1 := hb.size
  have s3 := hb3.size
  have s5 : w3.heap.size + 1 ≤ w5.heap.size := by have := hg.size; simpa using this
  have f3 := f2.below hb3
  have hT : ∀ b, T b → more (more T wr w1) w2 w3 b := fun b h => .inl (.inl h)
  have hu : Upon (more (more T wr w1) w2 w3) w3 w5 := ((Upon.refl _ w3).alloc _).grown hg fun k hk => .inl (hT k (h3.inT k hk))
  have f5 := f3.own hu
  have hlt : ∀ b, T b → b < wr.heap.size := h1.lt
  have hk3 : ∀ b, T b → w3.heap[b]? = wr.heap[b]? := fun b h => by
    have := hlt b h
    rw [hb3.block b (by omega), k2 b (.inl h), hb.block b this]
  have hk : ∀ b, T b → v.ownBlock ≠ some b → w5.heap[b]? = wr.heap[b]? := fun b h hne => by
    have := hlt b h
    rw [hg.block b (by simp; omega) (fun e => hne e.symm), Below.heap_alloc _ _ b (by omega)]
    exact hk3 b h
  have hT5 : ∀ b, T b → more (more (more T wr w1) w2 w3) w3 w5 b := fun b h => .inl (hT b h)
  have hl5 : SegsAt w5 (more (more (more T wr w1) w2 w3) w3 w5) l := by
    refine ⟨fun z hz => (h2.seg z hz).kept fun b hb' => hk b (h2.inT z hz b hb') (fun e => h3.ne (h2.seg z hz) e hb'), fun z hz b hb' => hT5 b (h2.inT z hz b hb'), h2.apart, h2.fine⟩
  have hy5 : SegAt w5 y := hs.kept fun b hb' => by
    have h := hs.lt b hb'
    have h' := ho b hb'
    rw [hg.block b (by simp; omega) (fun e => by have := hlt b (h3.inT b e.symm); omega), Below.heap_alloc _ _ b h]
  have hgb : names st ≠ [] → w5.heap[gb]? = wr.heap[gb]? := fun hne => by
    refine hk gb (h5 hne).1 fun e => ?_
    obtain ⟨c, hc⟩ := h6 hne
    obtain ⟨c', hc'⟩ := h3.type gb e
    rw [hc] at hc'
    simp at hc'
  refine ⟨_, l ++ [y], f5, hl5.snoc hy5 ?_ hfy ?_, ⟨?_, ?_⟩, ?_, fun hne => ⟨hT5 gb (h5 hne).1, fun j z hz => ?_⟩, fun hne => ?_⟩
  · intro b hb'
    have h := hs.lt b hb'
    have h' := ho b hb'
    exact .inl (.inr ⟨h', h⟩)
  · intro z hz b hz' hy'
    have h := hlt b (h2.inT z hz b hz')
    have h' := ho b hy'
    omega
  · rw [List.length_append, List.map_append]; exact hrow
  · intro b hb'
    rcases hv' with e | e
    · rw [e] at hb'; exact hT5 b (h3.inT b hb')
    · rw [e] at hb'; cases hb'
      exact .inr ⟨by omega, (hrow.lt _ e).2⟩
  · rw [found_snoc hx, List.map_append, h4]
    simp [foundOne, hn, hy]
  · exact (World.cell?_of_block (w := wr) (a := ⟨gb, j, none⟩) (hgb hne)).trans ((h5 hne).2 j z hz)
  · obtain ⟨c, hc⟩ := h6 hne; exact ⟨c, (hgb hne).trans hc⟩

theorem infoS : (Tryz.prog.info? 54).map (fun i => (i.zero, i.size, i.bytes)) = some (some (.pointer none), 1, 8) := by kernel_rfl

set_option maxHeartbeats 1600000 in
set_option maxRecDepth 100000 in
theorem foundSegments_any (B : Nat) (S : Nat → Prop) (pd : Nat) (st : St) (hF : ∀ f ∈ st.F, f.s.length ≤ 1000000000000) (w : World) (h : Fr B w S pd st (fun _ => False) w) :
    Calls Tryz.prog 23 #[.pointer (some ⟨pd, 0, none⟩)] w (FoundAll B w S pd st) := by
  obtain ⟨i0, hi, hz0, hz1, hz2⟩ := info_parts infoS
  obtain ⟨Sd, hd, -, -⟩ := h.disk
  have HN := Lib.hid (names_any Sd pd st w hd)
  have hlen := names_len h.fine
  have HOK := Lib.hid (names_ok h.fine)
  have H := Lib.hid h
  clear hd h
  go_enter Tryz.func23, Tryz.ntmps23
  go_wp2_with fail
  refine HN.out.mono ?_
  rintro e w1 ⟨v0, rfl, hrow, -, hb⟩
  obtain ⟨gb, a, c, rfl, ha, hup⟩ := upto_start H.out hrow hb
  have HA := Lib.hid ha
  have HU := Lib.hid hup
  clear ha hup hrow hb HN H
  go_wp2_with fail
  go_loopw [3, 13] (fun v0 i wr => ∃ k : Nat, k ≤ (names st).length ∧ i = .int .i64 k ∧ ∃ v, v = v0 ∧ Upto B w S pd st gb k v wr) (fun _ i _ => (names st).length - (intOf i).toNat)
  case atStart => exact ⟨0, Nat.zero_le _, rfl, _, rfl, HU.out⟩
  case round =>
    obtain ⟨k, hk, rfl, v, rfl, hup⟩ := hrel
    have HUP := Lib.hid hup
    clear hup
    by_cases hlt : k < (names st).length
    · obtain ⟨x, hx⟩ : ∃ x, (names st)[k]? = some x := ⟨_, List.getElem?_eq_getElem hlt⟩
      have hne : names st ≠ [] := by intro e; rw [e] at hlt; simp at hlt
      obtain ⟨T, l, h1, h2, h3, h4, h5, h6⟩ := HUP.out
      have hxl := HOK.out x (List.mem_of_getElem? hx)
      have hxs : (⟨x.toArray⟩ : ByteArray).size = x.length := rfl
      have hcell := (h5 hne).2 k x hx
      obtain rfl := HA.out hne
      have HFI := Lib.hid (firstOf_any ⟨x.toArray⟩ (by omega) (by omega) B wr h1.env)
      rw [show (⟨x.toArray⟩ : ByteArray).data.toList = x by simp] at HFI
      have HX := Lib.hid hx
      cases hn : firstN x with
      | none =>
        have HK := Lib.hid (fun w1 (hb : Below wr.heap.size wr w1) => upto_skip HUP.out hx hn hb)
        have hfv : firstV x = .tuple #[.int .i64 0, .bool false] := by unfold firstV; rw [hn]
        rw [hfv] at HFI
        clear h1 h2 h3 h4 h5 h6 hn hfv hx HUP hne hxl hxs
        go_wp2_with fail
        refine HFI.out.mono ?_
        rintro e w2 ⟨rfl, hb2⟩
        have HU2 := Lib.hid (HK.out w2 hb2)
        clear hb2 HK HFI
        go_wp2
        go_roundw
        case rel => exact ⟨k + 1, by omega, by go_num, _, rfl, HU2.out⟩
        case measure => simp [intOf]; omega
      | some n =>
        obtain ⟨n1, n2⟩ := first_bounds hn
        have hfv : firstV x = .tuple #[.int .i64 (n : Int), .bool true] := by unfold firstV; rw [hn]
        rw [hfv] at HFI
        have hfile := read_file st hF x
        have HRD := Lib.hid (fun w1 (hb : Below wr.heap.size wr w1) => (h1.below hb).step (P := fun e => e = .returned (.tuple #[.string (fileB st x), .int .i64 (readE st x)])) fun Sd hd => by
          have := read_any Sd pd st ⟨x.toArray⟩ (by unfold maxLen; omega) w1 hd
          rw [show (⟨x.toArray⟩ : ByteArray).data.toList = x by simp] at this
          exact this)
        have HFS := Lib.hid (fun w2 (he : Env B w2) => foundSegment_any n (fileB st x) n1 n2 hfile B w2 he)
        have HAD := Lib.hid (fun w1 w2 w3 w5 v' y hb f2 k2 z2 hy hfy hs ho hb3 hrow hg hv' => upto_add (gb := gb) (k := k) (w1 := w1) (w2 := w2) (w3 := w3) (w5 := w5) (v' := v') (y := y) hx hn hb h1 h2 h3 h4 h5 h6 f2 k2 z2 hy hfy hs ho hb3 hrow hg hv')
        have HRW := Lib.hid h3
        have HT := Lib.hid h1.lt
        have hll : l.length ≤ 64 := by
          have e := congrArg List.length h4
          rw [List.length_map] at e
          have := List.length_filterMap_le (foundOne st) ((names st).take k)
          rw [List.length_take] at this
          omega
        clear h1 h2 h3 h4 h5 h6 hn hfv hx HUP hne hxl hxs HX
        generalize fileB st x = D at *
        go_wp2_with fail
        refine HFI.out.mono ?_
        rintro e w2 ⟨rfl, hb2⟩
        have HB2 := Lib.hid hb2
        have HR2 := Lib.hid (HRD.out w2 hb2)
        clear hb2 HRD HFI
        go_wp2_with fail
        refine HR2.out.mono ?_
        rintro e w3 ⟨rfl, f3, k3, z3⟩
        have HF3 := Lib.hid f3
        have HK3 := Lib.hid k3
        have HZ3 := Lib.hid z3
        clear f3 k3 z3 HR2
        go_wp2_with fail
        refine (HFS.out w3 HF3.out.env).mono ?_
        rintro e w4 ⟨y, rfl, hy, hs, ho, hb4⟩
        have HAD2 := Lib.hid (fun w5 v' hrow hg hv' => HAD.out w2 w3 w4 w5 v' y HB2.out HF3.out HK3.out HZ3.out hy (by rw [hy]; exact good_fine n D false n1 n2 hfile) hs ho hb4 hrow hg hv')
        have HRW4 := Lib.hid (show w4.ownsRow 0 54 1 v l.length (l.map ptrV) from ownsRow_kept HRW.out.row fun b hb' => by
          have h := HRW.out.inT b hb'
          have h' := HT.out b h
          rw [hb4.block b (by have := HB2.out.size; have := HZ3.out; omega), HK3.out b (.inl h), HB2.out.block b h'])
        clear hy hs ho hb4 HAD HF3 HK3 HZ3 HB2 HRW HT HFS
        go_wp2_with (at_builtin; refine wpList_append_own_at _ rfl _ _ 52 rfl 0 54 i0 (.pointer none) 1 8 Tryz.underlying52 hi hz0 hz1 hz2 rfl (by decide) _ _ _ rfl (HRW4.out.alloc _) ⟨w4.heap.size, 0, none⟩ 1 1 [_] rfl rfl (cell_one_new _ _ _) (by simp [Value.oneCell']) (by unfold maxLen; omega) (by omega) (by simp) ?_)
        intro v' w5 hrow hg _ hv'
        have HU2 := Lib.hid (HAD2.out w5 v' hrow hg (by simpa using hv'))
        clear hrow hg hv' HRW4 HAD2
        go_wp2
        go_roundw
        case rel => exact ⟨k + 1, by omega, by go_num, _, rfl, HU2.out⟩
        case measure => simp [intOf]; omega
    · obtain rfl : k = (names st).length := by omega
      have HF := Lib.hid (fun v (h : Upto B w S pd st gb (names st).length v wr) => (show FoundAll B w S pd st (.returned v) wr by
        obtain ⟨T, l, h1, h2, h3, h4, -, -⟩ := h
        exact ⟨T, l, v, rfl, h1, h2, h3, by rw [h4, List.take_of_length_le (Nat.le_refl _)]; rfl⟩))
      go_wp2
      go_ret
      exact HF.out _ HUP.out

/-! ### which belong to a log -/
theorem belong_step {base : Nat} {s : Seg} {r : List Seg} {i c l : Nat} (h : s.first = l + 1 ∨ (i = 0 ∧ s.first ≤ base + 1)) (hl : s.lens ≠ []) : belongF base (s :: r) i c l = belongF base r (i + 1) (i + 1) s.last := by
  conv => lhs; unfold belongF
  rw [if_pos ⟨h, hl⟩]
theorem belong_stop {base : Nat} {s : Seg} {r : List Seg} {i c l : Nat} (h : ¬ ((s.first = l + 1 ∨ (i = 0 ∧ s.first ≤ base + 1)) ∧ s.lens ≠ [])) : belongF base (s :: r) i c l = (c, l) := by
  unfold belongF
  rw [if_neg h]
theorem belongF_bound {base : Nat} : ∀ (r : List Seg) (i c l : Nat), (∀ s ∈ r, FineS s) → l ≤ 2000000000000 → (belongF base r i c l).2 ≤ 2000000000000
  | [], _, _, _, _, h => h
  | s :: r, i, c, l, hr, h => by
    unfold belongF
    split
    · refine belongF_bound r _ _ _ (fun t ht => hr t (List.mem_cons_of_mem _ ht)) ?_
      have hs := hr s List.mem_cons_self
      have := hs.top; have := hs.size; have := hs.len
      unfold Seg.last; omega
    · exact h

/-- What holds at the head of each round. -/
def Belongs (l : List GS) (base : Nat) (w : World) (k c la : Nat) (wr : World) : Prop := la ≤ 2000000000000 ∧ belongF base (l.map (·.s)) 0 0 0 = belongF base ((l.map (·.s)).drop k) k c la ∧ ∃ n, wr = w.drewN n

set_option maxHeartbeats 1600000 in
set_option maxRecDepth 100000 in
theorem belonging_any (T : Nat → Prop) (l : List GS) (v : Value) (base : Nat) (hb : base ≤ 99999998) (w : World) (hs : SegsAt w T l) (hr : RowAt w T l v) :
    Calls Tryz.prog 24 #[v, .int .i64 (base : Int)] w fun e w' => e = .returned (.int .i64 (belong (l.map (·.s)) base : Nat)) ∧ ∃ n, w' = w.drewN n := by
  obtain ⟨g, c, a, rfl, ha, hl1, hl2, hc⟩ := hr.shape
  unfold maxLen at hl2
  have HA := Lib.hid ha
  have HC := Lib.hid hc
  have HS := Lib.hid hs
  -- behind the loop
  have HE := Lib.hid (show ∀ c la : Nat, la < base → belongF base (l.map (·.s)) 0 0 0 = (c, la) → belong (l.map (·.s)) base = 0 from fun c la h he => by unfold belong; rw [he, if_pos h])
  have HE2 := Lib.hid (show ∀ c la : Nat, ¬ la < base → belongF base (l.map (·.s)) 0 0 0 = (c, la) → belong (l.map (·.s)) base = c from fun c la h he => by unfold belong; rw [he, if_neg h])
  generalize hN : belong (l.map (·.s)) base = N at *
  have HX := Lib.hid hN
  clear ha hc hs hr hN
  go_enter Tryz.func24, Tryz.ntmps24
  go_wp2_with fail
  go_loopw [5, 6, 12] (fun cv lv i wr => ∃ k c la : Nat, k ≤ l.length ∧ i = .int .i64 k ∧ cv = .int .i64 c ∧ lv = .int .i64 la ∧ Belongs l base w k c la wr) (fun _ _ i _ => l.length - (intOf i).toNat)
  case atStart => exact ⟨0, 0, 0, Nat.zero_le _, rfl, rfl, rfl, by omega, rfl, 0, rfl⟩
  case round =>
    obtain ⟨k, c, la, hk, rfl, rfl, rfl, hla, hbe, n, rfl⟩ := hrel
    by_cases hlt : k < l.length
    · obtain ⟨x, hx⟩ : ∃ x, l[k]? = some x := ⟨_, List.getElem?_eq_getElem hlt⟩
      have hne : l ≠ [] := by intro e; rw [e] at hlt; simp at hlt
      obtain rfl := HA.out hne
      obtain ⟨-, -, hcell⟩ := HC.out hne
      have hcx := hcell k x hx
      unfold ptrV at hcx
      have hseg := HS.out.seg x (List.mem_of_getElem? hx)
      have hfine := HS.out.fine x (List.mem_of_getElem? hx)
      obtain ⟨c0, -, -, -⟩ := hseg.cells
      have hd : (l.map (·.s)).drop k = x.s :: (l.map (·.s)).drop (k + 1) := by
        have hk' : k < (l.map (·.s)).length := by simpa using hlt
        rw [List.drop_eq_getElem_cons hk']
        congr 1
        rw [List.getElem_map, (List.getElem?_eq_some_iff.1 hx).2]
      rw [hd] at hbe
      have HB := Lib.hid hbe
      have HL := Lib.hid (fun n => last_any x (w.drewN n) (hseg.drewN n) hfine)
      have HCT := Lib.hid (fun n => count_any x (w.drewN n) (hseg.drewN n) hfine)
      have hpos := hfine.pos
      have htop := hfine.top
      have hsz := hfine.size
      have hln := hfine.len
      have HLA := Lib.hid (show x.s.last ≤ 2000000000000 by unfold Seg.last; omega)
      clear hcell hd hx hne hbe hseg hfine
      by_cases h1 : x.s.first = la + 1
      · have e1 : ((x.s.first : Int) == (la : Int) + 1) = true := by simp; omega
        have hfit : x.s.first = la + 1 ∨ (k = 0 ∧ x.s.first ≤ base + 1) := .inl h1
        clear h1
        by_cases hz : x.s.lens = []
        · have e2 : ((x.s.lens.length : Int) == 0) = true := by rw [hz]; rfl
          have hst := Lib.hid (HB.out.trans (belong_stop (fun h => h.2 hz)))
          clear HB hz hfit
          by_cases hbl : la < base
          · obtain rfl := HE.out c la hbl hst.out
            clear HE HE2 hst HX
            have hbl' : (la : Int) < (base : Int) := by omega
            go_wp2_with (go_at_call 30; refine (HCT.out _).mono ?_; rintro e w2 ⟨rfl, rfl⟩)
            go_ret
            exact ⟨rfl, n, rfl⟩
          · obtain rfl := HE2.out c la hbl hst.out
            clear HE HE2 hst HX
            have hbl' : ¬ (la : Int) < (base : Int) := by omega
            go_wp2_with (go_at_call 30; refine (HCT.out _).mono ?_; rintro e w2 ⟨rfl, rfl⟩)
            go_ret
            exact ⟨rfl, n, rfl⟩
        · have e2 : ((x.s.lens.length : Int) == 0) = false := by simp; exact hz
          have HN := Lib.hid (show belongF base (l.map (·.s)) 0 0 0 = belongF base ((l.map (·.s)).drop (k + 1)) (k + 1) (k + 1) x.s.last by rw [HB.out, belong_step hfit hz])
          clear HB hfit HE HE2
          go_wp2_with fail
          refine (HCT.out _).mono ?_
          rintro e w2 ⟨rfl, rfl⟩
          go_wp2_with fail
          refine (HL.out _).mono ?_
          rintro e w2 ⟨rfl, m, rfl⟩
          go_wp2
          go_roundw
          case rel => exact ⟨k + 1, k + 1, x.s.last, by omega, by go_num, by go_num, rfl, HLA.out, HN.out, n + m, by first | rfl | rw [World.drewN_drewN]⟩
          case measure => simp [intOf]; omega
      · have e1 : ((x.s.first : Int) == (la : Int) + 1) = false := by simp; omega
        by_cases h2 : k = 0
        · have e3 : ((k : Int) == 0) = true := by simp; omega
          by_cases h3 : x.s.first ≤ base + 1
          · have e4 : (x.s.first : Int) ≤ (base : Int) + 1 := by omega
            have hfit : x.s.first = la + 1 ∨ (k = 0 ∧ x.s.first ≤ base + 1) := .inr ⟨h2, h3⟩
            clear h1 h2 h3
            by_cases hz : x.s.lens = []
            · have e2 : ((x.s.lens.length : Int) == 0) = true := by rw [hz]; rfl
              have hst := Lib.hid (HB.out.trans (belong_stop (fun h => h.2 hz)))
              clear HB hz hfit
              by_cases hbl : la < base
              · obtain rfl := HE.out c la hbl hst.out
                clear HE HE2 hst HX
                have hbl' : (la : Int) < (base : Int) := by omega
                go_wp2_with (go_at_call 30; refine (HCT.out _).mono ?_; rintro e w2 ⟨rfl, rfl⟩)
                go_ret
                exact ⟨rfl, n, rfl⟩
              · obtain rfl := HE2.out c la hbl hst.out
                clear HE HE2 hst HX
                have hbl' : ¬ (la : Int) < (base : Int) := by omega
                go_wp2_with (go_at_call 30; refine (HCT.out _).mono ?_; rintro e w2 ⟨rfl, rfl⟩)
                go_ret
                exact ⟨rfl, n, rfl⟩
            · have e2 : ((x.s.lens.length : Int) == 0) = false := by simp; exact hz
              have HN := Lib.hid (show belongF base (l.map (·.s)) 0 0 0 = belongF base ((l.map (·.s)).drop (k + 1)) (k + 1) (k + 1) x.s.last by rw [HB.out, belong_step hfit hz])
              clear HB hfit HE HE2
              go_wp2_with fail
              refine (HCT.out _).mono ?_
              rintro e w2 ⟨rfl, rfl⟩
              go_wp2_with fail
              refine (HL.out _).mono ?_
              rintro e w2 ⟨rfl, m, rfl⟩
              go_wp2
              go_roundw
              case rel => exact ⟨k + 1, k + 1, x.s.last, by omega, by go_num, by go_num, rfl, HLA.out, HN.out, n + m, by first | rfl | rw [World.drewN_drewN]⟩
              case measure => simp [intOf]; omega
          · have e4 : ¬ (x.s.first : Int) ≤ (base : Int) + 1 := by omega
            have hst := Lib.hid (HB.out.trans (belong_stop (fun h => by omega)))
            clear HB h1 h2 h3
            by_cases hbl : la < base
            · obtain rfl := HE.out c la hbl hst.out
              clear HE HE2 hst HX
              have hbl' : (la : Int) < (base : Int) := by omega
              go_wp2_with (go_at_call 30; refine (HCT.out _).mono ?_; rintro e w2 ⟨rfl, rfl⟩)
              go_ret
              exact ⟨rfl, n, rfl⟩
            · obtain rfl := HE2.out c la hbl hst.out
              clear HE HE2 hst HX
              have hbl' : ¬ (la : Int) < (base : Int) := by omega
              go_wp2_with (go_at_call 30; refine (HCT.out _).mono ?_; rintro e w2 ⟨rfl, rfl⟩)
              go_ret
              exact ⟨rfl, n, rfl⟩
        · have e3 : ((k : Int) == 0) = false := by simp; omega
          have hst := Lib.hid (HB.out.trans (belong_stop (fun h => by omega)))
          clear HB h1 h2
          by_cases hbl : la < base
          · obtain rfl := HE.out c la hbl hst.out
            clear HE HE2 hst HX
            have hbl' : (la : Int) < (base : Int) := by omega
            go_wp2_with (go_at_call 30; refine (HCT.out _).mono ?_; rintro e w2 ⟨rfl, rfl⟩)
            go_ret
            exact ⟨rfl, n, rfl⟩
          · obtain rfl := HE2.out c la hbl hst.out
            clear HE HE2 hst HX
            have hbl' : ¬ (la : Int) < (base : Int) := by omega
            go_wp2_with (go_at_call 30; refine (HCT.out _).mono ?_; rintro e w2 ⟨rfl, rfl⟩)
            go_ret
            exact ⟨rfl, n, rfl⟩
    · obtain rfl : k = l.length := by omega
      have hst := Lib.hid (show belongF base (l.map (·.s)) 0 0 0 = (c, la) by rw [hbe, List.drop_of_length_le (by simp)]; rfl)
      clear hbe
      by_cases hbl : la < base
      · obtain rfl := HE.out c la hbl hst.out
        clear HE HE2 hst HX
        have hbl' : (la : Int) < (base : Int) := by omega
        go_wp2
        go_ret
        exact ⟨rfl, n, rfl⟩
      · obtain rfl := HE2.out c la hbl hst.out
        clear HE HE2 hst HX
        have hbl' : ¬ (la : Int) < (base : Int) := by omega
        go_wp2
        go_ret
        exact ⟨rfl, n, rfl⟩
end Wal
end Go.Proofs.YtlgjbdfnhaoloaaGreatDoor
end
