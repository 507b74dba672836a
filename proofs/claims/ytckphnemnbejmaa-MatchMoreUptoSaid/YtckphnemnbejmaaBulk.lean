/- Rows among the arguments of an upto statement: how long they can be. -/
import Derived.Test.YtckphnemnbejmaaRows
namespace Go.Proofs.Ytckphnemnbejmaa.blk

theorem pos {H : Type} : ∀ d : DataW H, 0 < Rows.uptoBulk d
  | .lit l => by cases l <;> simp [Rows.uptoBulk]
  | .nil => by simp [Rows.uptoBulk]
  | .ptr d => by simp [Rows.uptoBulk]
  | .slice e s => by simp [Rows.uptoBulk]
  | .agg p => by simp [Rows.uptoBulk]
  | .iface t d => by simp [Rows.uptoBulk]
  | .map e => by simp [Rows.uptoBulk]
  | .held h => by simp [Rows.uptoBulk]
theorem many {H : Type} : ∀ l : List (DataW H), l.length ≤ Rows.uptoBulkAll l
  | [] => by simp
  | d :: l => by
    have h1 := pos d
    have h2 := many l
    simp only [Rows.uptoBulkAll, List.length_cons]
    omega
theorem part {H : Type} {d : DataW H} : ∀ {l : List (DataW H)}, d ∈ l → Rows.uptoBulk d ≤ Rows.uptoBulkAll l
  | x :: l, h => by
    simp only [Rows.uptoBulkAll]
    rcases List.mem_cons.1 h with rfl | h
    · omega
    · have := part h; omega
/-- A row's places are no more than the bound. -/
theorem row {H : Type} {ds gs : List (DataW H)} {d : DataW H} (hk : Rows.uptoSmall H (ds ++ gs) = true) (hd : d ∈ ds ++ gs) {e s : List (DataW H)} (he : d = .slice e s) : e.length + s.length ≤ 1048576 := by
  subst he
  have h0 : Rows.uptoBulkAll (ds ++ gs) ≤ 1048576 := of_decide_eq_true hk
  have h1 := part hd
  have h2 := many e
  have h3 := many s
  simp only [Rows.uptoBulk] at h1
  omega
/-- A text's letters are no more than the bound. -/
theorem text {H : Type} {ds gs : List (DataW H)} {b : List UInt8} (hk : Rows.uptoSmall H (ds ++ gs) = true) (hd : DataW.lit (.string b) ∈ ds ++ gs) : b.length ≤ 1048576 := by
  have h0 : Rows.uptoBulkAll (ds ++ gs) ≤ 1048576 := of_decide_eq_true hk
  have h1 := part hd
  simp only [Rows.uptoBulk] at h1
  omega
end Go.Proofs.Ytckphnemnbejmaa.blk
