/- The program's reader of bits as a row of bits that are left. -/
import Derived.Test.YtadlkfdjdjaakaaDoorPBit2
import Derived.Test.YtadlkfdjdjaakaaDoorObj2
set_option maxRecDepth 100000
namespace Go.Proofs.YtadlkfdjdjaakaaDoor
open Go.RowKit Go.Sort
namespace Bit
open Dsk Ob
set_option linter.unusedVariables false

/-- The reader at block q has the bits K left. -/
def IsRK (w : World) (S : Nat → Prop) (q : Nat) (K : List Bool) : Prop := ∃ s a e, IsR w S q s a e ∧ bitsAt s.data.toList a (e - a) = K
theorem objRK (q : Nat) (K : List Bool) : Thing (fun w S => IsRK w S q K) where
  kept := fun _ _ _ ⟨s, a, e, h, k⟩ hk hs => ⟨s, a, e, h.kept hk hs, k⟩
  lt := fun _ _ ⟨_, _, _, h, _⟩ => h.lt
theorem rkGet_ok (S : Nat → Prop) (q : Nat) (K : List Bool) (m : Nat) (w : World) (h : IsRK w S q K) (hm : m ≤ 64) (hle : m ≤ K.length) :
    Calls Tryd.prog 62 #[.pointer (some ⟨q, 0, none⟩), .int .i64 (m : Int)] w fun x w' => x = .returned (.tuple #[.int .u64 (numOf (K.take m) : Int), .bool true]) ∧ ObjStep (fun w S => IsRK w S q (K.drop m)) S w w' := by
  obtain ⟨s, a, e, h, rfl⟩ := h
  rw [bitsAt_length] at hle
  rw [bitsAt_take _ _ _ _ hle, bitsAt_drop _ _ _ _ hle]
  refine (get_ok S q s a e m w h hm hle).mono fun x w' ⟨hx, hs⟩ => ⟨hx, hs.mono fun S' h' => ⟨s, a + m, e, h', ?_⟩⟩
  rw [Nat.sub_sub]
theorem rkGet_no (S : Nat → Prop) (q : Nat) (K : List Bool) (n : Int) (w : World) (h : IsRK w S q K) (hn : n < 0 ∨ 64 < n ∨ (K.length : Int) < n) :
    Calls Tryd.prog 62 #[.pointer (some ⟨q, 0, none⟩), .int .i64 n] w fun x w' => x = .returned (.tuple #[.int .u64 0, .bool false]) ∧ ObjStep (fun w S => IsRK w S q K) S w w' := by
  obtain ⟨s, a, e, h, rfl⟩ := h
  rw [bitsAt_length] at hn
  have := h.le
  exact (get_no S q s a e n w h (by omega)).mono fun x w' ⟨hx, hs⟩ => ⟨hx, hs.mono fun S' h' => ⟨s, a, e, h', rfl⟩⟩
theorem rkLeft (S : Nat → Prop) (q : Nat) (K : List Bool) (w : World) (h : IsRK w S q K) :
    Calls Tryd.prog 41 #[.pointer (some ⟨q, 0, none⟩)] w fun x w' => x = .returned (.int .i64 (K.length : Int)) ∧ ∃ n, w' = w.drewN n := by
  obtain ⟨s, a, e, h, rfl⟩ := h
  rw [bitsAt_length]
  exact left_any S q s a e w h
/-- Of what was packed. -/
theorem rkOf {w : World} {S : Nat → Prop} {q : Nat} {s : ByteArray} {L : List Bool} (hs : s.data.toList = pack L) (h : IsR w S q s 0 L.length) : IsRK w S q L :=
  ⟨s, 0, L.length, h, by rw [hs, Nat.sub_zero, bitsAt_pack L 0 L.length (by omega)]; simp⟩
end Bit
end Go.Proofs.YtadlkfdjdjaakaaDoor
