/- What a crash takes of the numbers that it is given (layer 4): picker and its closure. -/
import Derived.Test.YtfpphahdbhelcaaDiskLay
namespace Go.Proofs.Ytfpphahdbhelcaa
open Go.RowKit
namespace Dsk
open Go.Maps

/-- The slice v holds the numbers ks, in block db. -/
def KeepAt (w : World) (v : Value) (ks : List Int) (db : Nat) : Prop :=
  ∃ a c, v = .slice a ks.length c ∧ ks.length ≤ c ∧ c ≤ maxLen ∧ (ks ≠ [] → ∃ o, a = some ⟨db, o, none⟩ ∧ ∀ j x, ks[j]? = some x → w.cell? ⟨db, o + j, none⟩ = some (.int .i64 x) ∧ -9223372036854775808 ≤ x ∧ x ≤ 9223372036854775807)

theorem KeepAt.kept {w w' : World} {v : Value} {ks : List Int} {db : Nat} (h : KeepAt w v ks db) (hk : ks ≠ [] → w'.heap[db]? = w.heap[db]?) : KeepAt w' v ks db := by
  obtain ⟨a, c, hv, h1, h2, h3⟩ := h
  refine ⟨a, c, hv, h1, h2, fun hn => ?_⟩
  obtain ⟨o, ha, hc⟩ := h3 hn
  exact ⟨o, ha, fun j x hx => ⟨(World.cell?_of_block (w := w) (a := ⟨db, o + j, none⟩) (hk hn)).trans (hc j x hx).1, (hc j x hx).2⟩⟩
theorem KeepAt.nil (w : World) (db : Nat) : KeepAt w (.slice none 0 0) [] db := ⟨none, 0, rfl, Nat.le_refl _, Nat.zero_le _, fun h => absurd rfl h⟩
theorem KeepAt.ne {w : World} {v : Value} {ks : List Int} {db kb : Nat} {x : Value} {T : TypeId} (h : KeepAt w v ks db) (hb : w.heap[kb]? = some (.cells #[x] T (0, 0))) (hx : ∀ q n, x ≠ .int q n) : ks ≠ [] → db ≠ kb := by
  rintro hn rfl
  obtain ⟨a, c, hv, h1, h2, h3⟩ := h
  obtain ⟨o, ha, hc⟩ := h3 hn
  cases ks with
  | nil => exact hn rfl
  | cons y r =>
    have := (hc 0 y rfl).1
    rw [Lib.cell_of_heap hb] at this
    cases o with
    | zero => simp at this; exact hx _ _ this
    | succ m => simp at this

theorem cell_of_slice {w : World} {kb : Nat} {v v' : Value} (h : w.heap[kb]? = some (.cells #[v] 27 (0, 0))) : (w.setCell ⟨kb, 0, none⟩ v').heap[kb]? = some (.cells #[v'] 27 (0, 0)) := one_setCell h

/-- What the closure leaves. -/
def Picked (ks : List Int) (db kb m : Nat) (w : World) (e : Ending) (w' : World) : Prop :=
  e = .returned (.int .i64 (kept1 ks m : Int)) ∧ (∃ v', w'.heap[kb]? = some (.cells #[v'] 27 (0, 0)) ∧ KeepAt w' v' (ks.drop 1) db) ∧ w.grownBy w' (some kb)

theorem kept1_nil (m : Nat) : kept1 [] m = 0 := rfl
theorem kept1_cons (x : Int) (r : List Int) (m : Nat) (hm : m < 18446744073709551615) : ((kept1 (x :: r) m : Nat) : Int) = (x % 18446744073709551616) % ((m : Int) + 1) := by
  unfold kept1
  have h0 : 0 ≤ x % 18446744073709551616 := Int.emod_nonneg _ (by decide)
  have h1 := hm
  rw [Int.natCast_emod]
  rw [Int.toNat_of_nonneg h0]
  rfl
theorem kept1_le (ks : List Int) (m : Nat) : kept1 ks m ≤ m := by
  cases ks with
  | nil => exact Nat.zero_le _
  | cons x r =>
    have := Nat.mod_lt (x % 18446744073709551616).toNat (Nat.succ_pos m)
    show (x % 18446744073709551616).toNat % (m + 1) ≤ m
    simp only [Nat.succ_eq_add_one] at this
    omega

set_option maxHeartbeats 1600000 in
set_option maxRecDepth 100000 in
theorem pick_any (ks : List Int) (db kb m : Nat) (v : Value) (hm : m ≤ 1000000000000000) (w : World) (hb : w.heap[kb]? = some (.cells #[v] 27 (0, 0))) (hk : KeepAt w v ks db) :
    Calls Try.prog 60 #[.int .i64 (m : Int), .pointer (some ⟨kb, 0, none⟩)] w (Picked ks db kb m w) := by
  have cb := cell_of_one hb
  have fb := free_of_one hb
  have hk0 := hk
  have hvs : ∀ q n, v ≠ .int q n := by
    obtain ⟨a, c, hv, _⟩ := hk
    intro q n e; rw [hv] at e; cases e
  have hne := hk.ne hb hvs
  obtain ⟨a, c, rfl, h1, h2, h3⟩ := hk
  unfold maxLen at h2
  cases ks with
  | nil =>
    have H : Hid (Picked [] db kb m w (.returned (.int .i64 0)) w) := Lib.hid ⟨rfl, ⟨_, hb, hk0⟩, rfl, rfl, rfl, Nat.le_refl _, fun _ _ _ => rfl⟩
    clear hb hk0 hne h3 hvs
    go_enter Try.func60, Try.ntmps60
    go_wp2
    go_ret
    exact H.out
  | cons x r =>
    obtain ⟨o, rfl, hc⟩ := h3 (by simp)
    have hx0 : w.cell? ⟨db, o, none⟩ = some (.int .i64 x) := (hc 0 x rfl).1
    have hdk := hne (by simp)
    have hcx : IntKind.u64.wrap x = x % 18446744073709551616 := by rw [IntKind.wrap_u64]
    have hcm : IntKind.u64.wrap ((m : Int) + 1) = (m : Int) + 1 := by rw [IntKind.wrap_u64]; omega
    have hnn : 0 ≤ x % 18446744073709551616 := Int.emod_nonneg _ (by decide)
    have hlt : x % 18446744073709551616 < 18446744073709551616 := Int.emod_lt_of_pos _ (by decide)
    have hval := kept1_cons x r m (by omega)
    have hle := kept1_le (x :: r) m
    have hlen : (x :: r).length = r.length + 1 := rfl
    rw [hlen] at h1 hb cb hk0
    have HV := Lib.hid hval
    have hdata : ∀ j y, r[j]? = some y → w.cell? ⟨db, o + 1 + j, none⟩ = some (.int .i64 y) ∧ -9223372036854775808 ≤ y ∧ y ≤ 9223372036854775807 := fun j y hy => by
      have := hc (j + 1) y (by simpa using hy)
      rw [show o + 1 + j = o + (j + 1) by omega]; exact this
    have hpost : ∀ a', (r ≠ [] → a' = some ⟨db, o + 1, none⟩) → Picked (x :: r) db kb m w (.returned (.int .i64 (kept1 (x :: r) m : Int))) (w.setCell ⟨kb, 0, none⟩ (.slice a' r.length (c - 1))) := by
      intro a' ha'
      refine ⟨rfl, ⟨_, cell_of_slice hb, a', c - 1, rfl, by show r.length ≤ c - 1; omega, by unfold maxLen; omega, fun hn => ⟨o + 1, ha' hn, fun j y hy => ?_⟩⟩, rfl, rfl, rfl, by simp [World.setCell], fun k _ hk => Below.heap_setCell _ _ _ _ (fun e => hk (by rw [e]))⟩
      rw [World.cell?_setCell_other _ _ _ _ (by intro e; exact hdk (by injection e with e1; exact e1.symm))]
      exact hdata j y hy
    have HP := Lib.hid hpost
    have hwr0 : wrap64 (kept1 (x :: r) m : Int) = (kept1 (x :: r) m : Int) := IntWalk.wrap64_in _ (by omega)
    have HWR := Lib.hid hwr0
    clear hwr0
    clear hval hpost hdata hc hb hk0 hne h3 hvs hlen
    by_cases hc1 : c = 1
    · subst hc1
      go_enter Try.func60, Try.ntmps60
      go_wp2
      go_ret
      have hr : r = [] := by
        cases r with
        | nil => rfl
        | cons y q => simp at h1
      subst hr
      have h := HP.out (some ⟨db, o, none⟩) (fun h => absurd rfl h)
      rw [← HV.out]
      rw [← HWR.out] at h
      exact h
    · have hc2 : 1 < c := by omega
      go_enter Try.func60, Try.ntmps60
      go_wp2
      go_ret
      have h := HP.out (some ⟨db, o + 1, none⟩) (fun _ => rfl)
      rw [← HV.out]
      rw [← HWR.out] at h
      exact h
end Dsk
end Go.Proofs.Ytfpphahdbhelcaa
