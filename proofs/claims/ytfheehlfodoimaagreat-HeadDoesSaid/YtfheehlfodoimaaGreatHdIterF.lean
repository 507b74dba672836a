/- slices.Values over a row of series, told by what stands in it; the row alone is kept (layer 13). -/
import Derived.Test.YtfheehlfodoimaaGreatHdIter
set_option maxRecDepth 100000
namespace Go.Proofs.YtfheehlfodoimaaGreat
open Go.RowKit Go.Sort
namespace Hd
open Bit Dsk Ob Dig Nm
set_option linter.unusedVariables false
attribute [local go_sem] Oper.semAt_some
theorem cell_keep {W W' : World} {g o : Nat} (h : W'.heap[g]? = W.heap[g]?) : W'.cell? ⟨g, o, none⟩ = W.cell? ⟨g, o, none⟩ := by unfold World.cell?; simp only [h]
/-- A value's block is kept. -/
def KeepV (v : Value) (W W' : World) : Prop := ∀ g, v.ownBlock = some g → W'.heap[g]? = W.heap[g]?
theorem KeepV.t {v : Value} {A B C : World} (h : KeepV v A B) (k : KeepV v B C) : KeepV v A C := fun g hg => (k g hg).trans (h g hg)
set_option maxHeartbeats 2000000 in
theorem each1F_in {α : Type} (f : α → Nat) (n : Nat) (hn : 1 ≤ n) (l Bs b len cap : Nat) (zs : List α) (hz : zs.length = len) (hreach : len ≤ 1000000000) (J Jx : List α → World → Prop)
    (hY : ∀ pre x W, J pre W → pre.length < len → YieldAt Fence.wide (n - 1) Tryz.prog l #[encQ (f x)] W fun e W' =>
      (e = .returned (.bool true) ∧ J (pre ++ [x]) W' ∧ KeepV (.slice (some ⟨b, 0, none⟩) len cap) W W') ∨ (e = .returned (.bool false) ∧ Jx (pre ++ [x]) W'))
    (W : World) (hBs : W.cell? ⟨Bs, 0, none⟩ = some (.slice (some ⟨b, 0, none⟩) len cap)) (hc : ∀ j (h : j < zs.length), W.cell? ⟨b, j, none⟩ = some (encQ (f zs[j]))) (h0 : J [] W) :
    CallsIn Fence.wide n Tryz.prog 84 #[.func (.yield l) #[] #[], .pointer (some ⟨Bs, 0, none⟩)] W fun e W' => (∃ v, e = .returned v) ∧
      ((∃ ys, ys = zs ∧ J ys W') ∨ (∃ pre, pre <+: zs ∧ Jx pre W')) := by
  refine callsIn_of_wp Tryz.func84 rfl trivial ?_ rfl
  simp only [Tryz.ntmps84, List.size_toArray, List.length_cons, List.length_nil, Nat.reduceAdd, Nat.reduceSub, Array.replicate_succ, Array.replicate_zero, List.push_toArray, List.append_toArray, List.nil_append, List.cons_append]
  gi_wp2
  gi_loopw [7] (fun i wr => ∃ k : Nat, k ≤ len ∧ i = .int .i64 k ∧ J (zs.take k) wr ∧ KeepV (.slice (some ⟨b, 0, none⟩) len cap) W wr)
    (fun i _ => len - (intOf i).toNat)
  case atStart => exact ⟨0, Nat.zero_le _, rfl, by simpa using h0, fun _ _ => rfl⟩
  case round =>
    obtain ⟨k, hk, rfl, hJs, hnx⟩ := hrel
    by_cases hlt : k < len
    · have hcx : wr.cell? ⟨b, k, none⟩ = some (encQ (f (zs[k]'(by omega)))) := (cell_keep (hnx b rfl)).trans (hc k (by omega))
      have htk : zs.take (k + 1) = zs.take k ++ [zs[k]'(by omega)] := List.take_succ_eq_append_getElem (by omega)
      obtain ⟨fn, tmps, assign, body, hy, hR⟩ := hY _ (zs[k]'(by omega)) wr hJs (by rw [List.length_take]; omega)
      rw [← htk] at hR
      generalize zs[k]'(by omega) = x at *
      unfold encQ at hy hcx
      generalize f x = y at *
      clear hc htk
      gi_wp2
      refine hR.mono ?_
      rintro e W3 (⟨rfl, hJ3, hk3⟩ | ⟨rfl, hJx3⟩)
      · gi_wp2
        go_roundw
        case rel => exact ⟨k + 1, by omega, by simp, hJ3, hnx.t hk3⟩
        case measure => simp [intOf]; omega
      · gi_wp2
        refine bodyPost_ret (results_none rfl _ _ _) rfl ?_
        exact ⟨⟨_, rfl⟩, .inr ⟨_, List.take_prefix _ _, hJx3⟩⟩
    · obtain rfl : k = len := by omega
      gi_wp2
      go_end0
      exact ⟨⟨_, rfl⟩, .inl ⟨_, by rw [← hz, List.take_length], hJs⟩⟩
set_option maxHeartbeats 1000000 in
theorem each1F_nil_in {α : Type} (n : Nat) (l Bs : Nat) (J : List α → World → Prop) (W : World) (hBs : W.cell? ⟨Bs, 0, none⟩ = some (.slice none 0 0)) (h0 : J [] W) :
    CallsIn Fence.wide n Tryz.prog 84 #[.func (.yield l) #[] #[], .pointer (some ⟨Bs, 0, none⟩)] W fun e W' => (∃ v, e = .returned v) ∧ J [] W' := by
  refine callsIn_of_wp Tryz.func84 rfl trivial ?_ rfl
  simp only [Tryz.ntmps84, List.size_toArray, List.length_cons, List.length_nil, Nat.reduceAdd, Nat.reduceSub, Array.replicate_succ, Array.replicate_zero, List.push_toArray, List.append_toArray, List.nil_append, List.cons_append]
  gi_wp2
  gi_loopw [7] (fun i wr => i = .int .i64 0 ∧ J [] wr) (fun _ _ => 0)
  case atStart => exact ⟨rfl, h0⟩
  case round =>
    obtain ⟨rfl, hJs⟩ := hrel
    gi_wp2
    go_end0
    exact ⟨⟨_, rfl⟩, hJs⟩
theorem each_stopsF {α : Type} (f : α → Nat) (n : Nat) (hn : 1 ≤ n) (Bs : Nat) (sv : Value) (zs : List α) (hreach : zs.length ≤ 1000000000) (w : World) (hBs : Bs < w.heap.size)
    (hc : w.cell? ⟨Bs, 0, none⟩ = some sv) (hI : Rw.Mine layZ 82 w sv (zs.map f)) :
    SeqStopsK Fence.wide n Tryz.prog 84 #[.pointer (some ⟨Bs, 0, none⟩)] (fun s => #[encQ (f s)]) (KeepV sv) (fun ys => ys = zs) (fun pre => pre <+: zs) zs.length w := fun l J Jx W hW _ _ hY h0 => by
  have hc' := (hW.cell (p := ⟨Bs, 0, none⟩) hBs).trans hc
  rcases Rw.Mine.shape hI with ⟨rfl, h1⟩ | ⟨g, c, rfl, h1, h2, h3⟩
  · have hz : zs = [] := by cases zs with
      | nil => rfl
      | cons a t => cases h1
    subst hz
    exact (each1F_nil_in n l Bs J W hc' h0).mono fun e W' ⟨he, hj⟩ => ⟨he, .inl ⟨_, rfl, hj⟩⟩
  · have hl : (zs.map f).length = zs.length := by simp
    rw [hl] at hc' hI hY
    refine each1F_in f n hn l Bs g zs.length c zs rfl hreach J Jx hY W hc' (fun j hj => ?_) h0
    have := Rw.Mine.cells hI (i := j) (by simpa using hj) (t := 0) rfl
    rw [show j * layZ.k + 0 = j by show j * 1 + 0 = j; omega] at this
    refine (hW.cell (p := ⟨g, j, none⟩) (by have := Rw.Mine.lt hI (b := g) rfl; exact this)).trans (this.trans ?_)
    simp
end Hd
end Go.Proofs.YtfheehlfodoimaaGreat
