/- sync.Once in one goroutine (layer 14): done already; not yet done, the lock free. -/
import Derived.Test.YtklgdllllboipaaPoMap
import Derived.Tactics
import Derived.Tactics2
import Derived.Defers
import Derived.Laws.Pointers
import Derived.Laws.LoneSync
import Derived.Laws.NewBlocks
import Derived.RegionTactic
import Derived.RegionCalls
import Derived.ChangeAlike
set_option maxRecDepth 100000
namespace Go.Proofs.Ytklgdllllboipaa
open Go.RowKit Go.Sort
namespace Po
open Bit Dsk Ob Dig
set_option linter.unusedVariables false
theorem disable (w : World) : (callFunc 93 #[]).run Try.prog w = .ok (.value (.tuple #[])) w := run_call_mark0 Try.func93 (by kernel_rfl) (by kernel_rfl) (by kernel_rfl) .disable (by kernel_rfl) w
theorem enable (w : World) : (callFunc 95 #[]).run Try.prog w = .ok (.value (.tuple #[])) w := run_call_mark0 Try.func95 (by kernel_rfl) (by kernel_rfl) (by kernel_rfl) .enable (by kernel_rfl) w
theorem acquire (a : Addr) (w : World) : (callFunc 96 #[.pointer (some a)]).run Try.prog w = .ok (.value (.tuple #[])) w := run_call_marked Try.func96 (by kernel_rfl) (by kernel_rfl) (by kernel_rfl) .acquire (by kernel_rfl) a w
theorem releaseMerge (a : Addr) (w : World) : (callFunc 98 #[.pointer (some a)]).run Try.prog w = .ok (.value (.tuple #[])) w := run_call_marked Try.func98 (by kernel_rfl) (by kernel_rfl) (by kernel_rfl) .releaseMerge (by kernel_rfl) a w
theorem store_deferred (a : Addr) (x : Value) (u : FrameMode) (w : World) (hc : w.cell? a = some x) (hz : w.frozen? a = false) :
    CallsD Try.prog 76 #[.pointer (some a), .bool true] u w fun e u' w' => u' = u ∧ (e = .returned (.tuple #[]) ∧ w' = w.drew.setCell a (.int .u32 1)) := by
  have hc' : w.drew.cell? a = some x := by go_simp
  have hz' : w.drew.frozen? a = false := by go_simp
  have hst := run_call_store (P := Try.prog) Try.func90 (by kernel_rfl) (by kernel_rfl) (by kernel_rfl) (by kernel_rfl) (k := .u32) (y := 1) hc' hz'
  go_enter_d Try.func76, Try.ntmps76
  go_wp2
  go_region_calls
  all_goals (go_end0; exact ⟨rfl, rfl⟩)
theorem unlock_deferred (a : Addr) (u : FrameMode) (w : World) (hc : w.cell? a = some (.int .i32 1)) (hz : w.frozen? a = false) :
    CallsD Try.prog 75 #[.pointer (some a)] u w fun e u' w' => u' = u ∧ (e = .returned (.tuple #[]) ∧ w' = w.setCell a (.int .i32 0)) := by
  have hd := disable
  have he := enable
  have hr := releaseMerge
  have hadd := run_call_add (P := Try.prog) Try.func99 (by kernel_rfl) (by kernel_rfl) (by kernel_rfl) .i32 (by kernel_rfl) (y := -1) (s := 0) hc hz (by simp [go_sem]; rfl)
  have hcv := run_convert_to_unsafe (P := Try.prog) (src := 115) (dst := 119) Try.underlying115 Try.underlying119 (by kernel_rfl) hc
  go_enter_d Try.func75, Try.ntmps75
  go_wp2
  go_end0
  go_wp2
  all_goals (go_end0; exact ⟨rfl, rfl⟩)
theorem lock_free (a : Addr) (w : World) (hc : w.cell? a = some (.int .i32 0)) (hz : w.frozen? a = false) :
    Calls Try.prog 74 #[.pointer (some a)] w fun e w' => e = .returned (.tuple #[]) ∧ w' = w.setCell a (.int .i32 1) := by
  have hd := disable
  have he := enable
  have ha := acquire
  have hcas := run_call_cas_hit (P := Try.prog) Try.func94 (by kernel_rfl) (by kernel_rfl) (by kernel_rfl) .i32 (by kernel_rfl) (y := 1) hc hz
  have hc' : (w.setCell a (.int .i32 1)).cell? a = some (.int .i32 1) := World.cell?_setCell_same w a _ hc
  have hcv := run_convert_to_unsafe (P := Try.prog) (src := 115) (dst := 119) Try.underlying115 Try.underlying119 (by kernel_rfl) hc'
  go_enter Try.func74, Try.ntmps74
  go_wp2
  first | go_end0 | (simp only [Exit.inBlock, Exit.then]; refine bodyPost_ret (results_none rfl _ _ _) rfl ?_) | refine bodyPost_ret (results_none rfl _ _ _) rfl ?_
  go_wp2
  all_goals (go_end0; exact ⟨rfl, rfl⟩)

theorem load_any (a : Addr) (d : Int) (w : World) (hc : w.cell? a = some (.int .u32 d)) :
    Calls Try.prog 52 #[.pointer (some a)] w fun e w' => e = .returned (.bool (d != 0)) ∧ w' = w := by
  have hl := run_call_load (P := Try.prog) Try.func73 (by kernel_rfl) (by kernel_rfl) (by kernel_rfl) .u32 (by kernel_rfl) (w := w) (a := a) (x := d) hc
  go_enter Try.func52, Try.ntmps52
  go_wp2
  go_ret
  exact ⟨rfl, rfl⟩
/-- The five cells of an index. -/
def IxB (p : Nat) (u : Value) (d s : Int) (m : Value) (w : World) : Prop := w.heap[p]? = some (.cells #[u, .int .u32 d, .int .i32 s, .int .u32 0, m] 62 (0, 0))
section
variable {p : Nat} {u m : Value} {d s : Int} {w w' : World}
theorem IxB.cells (h : IxB p u d s m w) : w.cell? ⟨p, 0, none⟩ = some u ∧ w.cell? ⟨p, 1, none⟩ = some (.int .u32 d) ∧ w.cell? ⟨p, 2, none⟩ = some (.int .i32 s) ∧ w.cell? ⟨p, 4, none⟩ = some m := by
  unfold IxB at h
  simp [World.cell?, h]
theorem IxB.frozen (h : IxB p u d s m w) (i : Nat) : w.frozen? ⟨p, i, none⟩ = false := by unfold IxB at h; simp [World.frozen?, h]
theorem IxB.lt (h : IxB p u d s m w) : p < w.heap.size := (Array.getElem?_eq_some_iff.1 h).1
theorem IxB.upon {U : Nat → Prop} (h : IxB p u d s m w) (hu : Upon U w w') (hn : ¬ U p) : IxB p u d s m w' := (hu.block p h.lt hn).trans h
theorem IxB.new (h : IxB p u d s m w) (hu : New0 w w') : IxB p u d s m w' := h.upon hu fun f => f
theorem IxB.grown {row : Option Nat} (h : IxB p u d s m w) (hg : w.grownBy w' row) (hn : row ≠ some p) : IxB p u d s m w' := (hg.block p h.lt (fun e => hn e.symm)).trans h
theorem IxB.set0 (h : IxB p u d s m w) (x : Value) : IxB p x d s m (w.setCell ⟨p, 0, none⟩ x) := by unfold IxB at *; simp [World.setCell, Array.getElem?_modify, h]
theorem IxB.set1 (h : IxB p u d s m w) (x : Int) : IxB p u x s m (w.setCell ⟨p, 1, none⟩ (.int .u32 x)) := by unfold IxB at *; simp [World.setCell, Array.getElem?_modify, h]
theorem IxB.set2 (h : IxB p u d s m w) (x : Int) : IxB p u d x m (w.setCell ⟨p, 2, none⟩ (.int .i32 x)) := by unfold IxB at *; simp [World.setCell, Array.getElem?_modify, h]
theorem IxB.set4 (h : IxB p u d s m w) (x : Value) : IxB p u d s x (w.setCell ⟨p, 4, none⟩ x) := by unfold IxB at *; simp [World.setCell, Array.getElem?_modify, h]
theorem setP (w : World) (p i : Nat) (x : Value) : Upon (fun k => k = p) w (w.setCell ⟨p, i, none⟩ x) := Upon.setCell (S := fun k => k = p) (p := ⟨p, i, none⟩) (Upon.refl _ w) (.inl rfl) x
end
/-- Behind the slow way: what the function has left, done and let go. -/
def OnceE (p : Nat) (R : World → Prop) (e : Ending) (w' : World) : Prop := e = .returned (.tuple #[]) ∧ ∃ wm, R wm ∧ w' = (wm.drew.setCell ⟨p, 1, none⟩ (.int .u32 1)).setCell ⟨p, 2, none⟩ (.int .i32 0)
set_option maxHeartbeats 3200000 in
theorem slow_any (p fn : Nat) (u m : Value) (w : World) (R : World → Prop) (h : IxB p u 0 0 m w) (eg : ∀ args w, (callFunc fn args).run Try.prog w = .ok (.enter fn args) w)
    (HF : Calls Try.prog fn #[.pointer (some ⟨p, 0, none⟩)] (w.setCell ⟨p, 2, none⟩ (.int .i32 1)) fun e w' => e = .returned (.tuple #[]) ∧ R w') (hR : ∀ w', R w' → ∃ u m, IxB p u 0 1 m w') :
    Calls Try.prog 53 #[.pointer (some ⟨p, 1, none⟩), .func (.func fn) #[.pointer (some ⟨p, 0, none⟩)] #[]] w (OnceE p R) := by
  have h1 := h.set2 1
  obtain ⟨-, c1, c2, -⟩ := h.cells
  obtain ⟨-, d1, d2, -⟩ := h1.cells
  have f2 := h.frozen 2
  have hl := Lib.hid (load_any ⟨p, 1, none⟩ 0 _ d1)
  have hnot : ∀ (x : Bool) (w : World), (Op.unary .not (.bool x)).run Try.prog w = .ok (.bool (!x)) w := fun _ _ => rfl
  have HL := Lib.hid (lock_free ⟨p, 2, none⟩ w c2 f2)
  replace HF := Lib.hid HF
  replace hR := Lib.hid hR
  clear h h1 c1 c2 f2 d2
  generalize w.setCell ⟨p, 2, none⟩ (.int .i32 1) = w1 at *
  go_enter_defers Try.func53, Try.ntmps53
  go_wp2_with fail
  refine HL.out.mono ?_
  rintro e w2 ⟨rfl, rfl⟩
  clear HL
  go_wp2_with fail
  refine hl.out.mono ?_
  rintro e w3 ⟨rfl, rfl⟩
  clear hl
  go_wp2_with fail
  refine HF.out.mono ?_
  rintro e w4 ⟨rfl, hr⟩
  obtain ⟨u', m', hx⟩ := hR.out _ hr
  replace hr := Lib.hid hr
  clear HF hR
  go_wp2_with fail
  have hx1 : IxB p u' 1 1 m' (w4.drew.setCell ⟨p, 1, none⟩ (.int .u32 1)) := IxB.set1 (w := w4.drew) hx 1
  obtain ⟨-, x1, -, -⟩ := hx.cells
  have x1f := hx.frozen 1
  obtain ⟨-, -, y2, -⟩ := hx1.cells
  have y2f := hx1.frozen 2
  clear hx hx1 d1
  refine leaves_cons (f := 76) (args := #[.pointer (some ⟨p, 1, none⟩), .bool true]) (by simp) (by simp [go_sem]) ?_
  refine (store_deferred ⟨p, 1, none⟩ (.int .u32 0) .returning _ x1 x1f).mono ?_
  rintro e u' w'' ⟨rfl, rfl, rfl⟩
  refine leaves_cons (f := 75) (args := #[.pointer (some ⟨p, 2, none⟩)]) (by simp [settle]) (by simp [go_sem]) ?_
  refine (unlock_deferred ⟨p, 2, none⟩ _ _ y2 y2f).mono ?_
  rintro e u' w'' ⟨rfl, rfl, rfl⟩
  have hE : Hid (OnceE p R (.returned (.tuple #[])) ((w4.drew.setCell ⟨p, 1, none⟩ (.int .u32 1)).setCell ⟨p, 2, none⟩ (.int .i32 0))) := Lib.hid ⟨rfl, w4, hr.out, rfl⟩
  simp [Leaves, settle, results, Try.results53]
  exact hE.out
theorem do_done (p : Nat) (u m : Value) (s : Int) (fv : Value) (w : World) (h : IxB p u 1 s m w) :
    Calls Try.prog 39 #[.pointer (some ⟨p, 1, none⟩), fv] w fun e w' => e = .returned (.tuple #[]) ∧ w' = w := by
  have hnot : ∀ (x : Bool) (w : World), (Op.unary .not (.bool x)).run Try.prog w = .ok (.bool (!x)) w := fun _ _ => rfl
  have hl := Lib.hid (load_any ⟨p, 1, none⟩ 1 w h.cells.2.1)
  clear h
  go_enter Try.func39, Try.ntmps39
  go_wp2_with fail
  refine hl.out.mono ?_
  rintro e w3 ⟨rfl, rfl⟩
  clear hl
  go_wp2_with fail
  go_end0
  exact ⟨rfl, rfl⟩
theorem do_first (p fn : Nat) (u m : Value) (w : World) (R : World → Prop) (h : IxB p u 0 0 m w) (eg : ∀ args w, (callFunc fn args).run Try.prog w = .ok (.enter fn args) w)
    (HF : Calls Try.prog fn #[.pointer (some ⟨p, 0, none⟩)] (w.setCell ⟨p, 2, none⟩ (.int .i32 1)) fun e w' => e = .returned (.tuple #[]) ∧ R w') (hR : ∀ w', R w' → ∃ u m, IxB p u 0 1 m w') :
    Calls Try.prog 39 #[.pointer (some ⟨p, 1, none⟩), .func (.func fn) #[.pointer (some ⟨p, 0, none⟩)] #[]] w (OnceE p R) := by
  have hnot : ∀ (x : Bool) (w : World), (Op.unary .not (.bool x)).run Try.prog w = .ok (.bool (!x)) w := fun _ _ => rfl
  have hl := Lib.hid (load_any ⟨p, 1, none⟩ 0 w h.cells.2.1)
  have HS := Lib.hid (slow_any p fn u m w R h eg HF hR)
  clear h HF hR eg
  go_enter Try.func39, Try.ntmps39
  go_wp2_with fail
  refine hl.out.mono ?_
  rintro e w3 ⟨rfl, rfl⟩
  clear hl
  go_wp2_with fail
  refine HS.out.mono ?_
  rintro e w4 ⟨rfl, hr⟩
  replace hr := Lib.hid hr
  clear HS
  go_wp2_with fail
  go_end0
  exact ⟨rfl, hr.out⟩
end Po
end Go.Proofs.Ytklgdllllboipaa
