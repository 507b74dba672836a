/- Manifests (layer 17), plainly: which are right, their bytes, what is told of bytes. Names no function of the program. -/
import Derived.Test.YtjpgglajcelllaaDoorEPFrame
import Derived.Test.YtjpgglajcelllaaDoorEPRc1
import Derived.Test.YtjpgglajcelllaaDoorEPDisk1
set_option maxRecDepth 100000
namespace Go.Proofs.YtjpgglajcelllaaDoor
open Go.RowKit
namespace Mf
open Bit Dsk Ob Dig
set_option linter.unusedVariables false
structure M where
  epoch : Int
  base : Int
  promise : Int
  mark : Int
  check : Int
  blocks : List ByteArray
def zero : M := ⟨0, 0, 0, 0, 0, []⟩
def noneM : M := ⟨1, 0, 1, -9223372036854775808, 0, []⟩
abbrev inB (n : Int) : Prop := 0 ≤ n ∧ n ≤ 99999999
abbrev badN (m : M) : Prop := ¬ inB m.epoch ∨ ¬ inB m.base ∨ ¬ inB m.promise ∨ ¬ inB m.check ∨ m.epoch = 0
def nm (b : ByteArray) : Bool := isName b.data.toList
/-- What is wrong with a manifest (0: nothing). -/
def chk (m : M) : Int := if badN m then 2 else if m.promise < m.epoch then 9 else if 16 < m.blocks.length then 8 else if m.blocks.all nm then 0 else 3
theorem chk_range {m : M} (h : badN m) : chk m = 2 := if_pos h
theorem chk_order {m : M} (h1 : ¬ badN m) (h : m.promise < m.epoch) : chk m = 9 := by unfold chk; rw [if_neg h1, if_pos h]
theorem chk_long {m : M} (h1 : ¬ badN m) (h2 : ¬ m.promise < m.epoch) (h : 16 < m.blocks.length) : chk m = 8 := by unfold chk; rw [if_neg h1, if_neg h2, if_pos h]
theorem chk_field {m : M} (h1 : ¬ badN m) (h2 : ¬ m.promise < m.epoch) (h3 : ¬ 16 < m.blocks.length) (h : m.blocks.all nm = false) : chk m = 3 := by unfold chk; rw [if_neg h1, if_neg h2, if_neg h3, h]; rfl
theorem chk_ok {m : M} (h1 : ¬ badN m) (h2 : ¬ m.promise < m.epoch) (h3 : ¬ 16 < m.blocks.length) (h : m.blocks.all nm = true) : chk m = 0 := by unfold chk; rw [if_neg h1, if_neg h2, if_neg h3, h]; rfl
/-- A right manifest. -/
structure Good (m : M) : Prop where
  e : 1 ≤ m.epoch ∧ m.epoch ≤ 99999999
  b : 0 ≤ m.base ∧ m.base ≤ 99999999
  p : m.epoch ≤ m.promise ∧ m.promise ≤ 99999999
  c : 0 ≤ m.check ∧ m.check ≤ 99999999
  few : m.blocks.length ≤ 16
  nms : ∀ b ∈ m.blocks, nm b = true
theorem chk_zero {m : M} : chk m = 0 ↔ Good m := by
  constructor
  · intro h
    unfold chk at h
    split at h
    · exact absurd h (by decide)
    · rename_i h1
      split at h
      · exact absurd h (by decide)
      · rename_i h2
        split at h
        · exact absurd h (by decide)
        · rename_i h3
          split at h
          · rename_i h4
            unfold badN inB at h1
            exact ⟨by omega, by omega, by omega, by omega, by omega, List.all_eq_true.1 h4⟩
          · exact absurd h (by decide)
  · intro h
    obtain ⟨h1, h2, h3, h4, h5, h6⟩ := h
    exact chk_ok (by unfold badN inB; omega) (by omega) (by omega) (List.all_eq_true.2 h6)
/-- Numbers that a machine's manifest may have. -/
structure Rng (m : M) : Prop where
  e : -9223372036854775808 ≤ m.epoch ∧ m.epoch ≤ 9223372036854775807
  b : -9223372036854775808 ≤ m.base ∧ m.base ≤ 9223372036854775807
  p : -9223372036854775808 ≤ m.promise ∧ m.promise ≤ 9223372036854775807
  k : -9223372036854775808 ≤ m.mark ∧ m.mark ≤ 9223372036854775807
  c : -9223372036854775808 ≤ m.check ∧ m.check ≤ 9223372036854775807
/-! ### their bytes -/
def bts (l : List UInt8) : ByteArray := ⟨l.toArray⟩
theorem bts_list (l : List UInt8) : (bts l).data.toList = l := rfl
theorem bts_size (l : List UInt8) : (bts l).size = l.length := by rw [← Frm.size_list, bts_list]
def nmB (b : ByteArray) : List UInt8 := numL b.size ++ b.data.toList
def dataL (m : M) : List UInt8 := numL m.epoch.toNat ++ (numL m.base.toNat ++ (numL m.promise.toNat ++ (numL (zig m.mark) ++ (numL m.check.toNat ++ (numL m.blocks.length ++ m.blocks.flatMap nmB)))))
def code (m : M) : ByteArray := Frm.putA 6 (bts (dataL m))
def encS (m : M) : ByteArray := if chk m = 0 then code m else ⟨#[]⟩
theorem nm_len {b : ByteArray} (h : nm b = true) : 1 ≤ b.size ∧ b.size ≤ 32 := by
  unfold nm isName at h
  simp only [Bool.and_eq_true, decide_eq_true_eq] at h
  rw [Frm.size_list] at h
  exact ⟨h.1.1, h.1.2⟩
theorem numL_le (n : Nat) : (numL n).length ≤ 9 := by have := nd_le n; rw [numL_length]; omega
theorem flat_le : ∀ {l : List ByteArray}, (∀ b ∈ l, b.size ≤ 32) → (l.flatMap nmB).length ≤ 41 * l.length
  | [], _ => by simp
  | a :: l, h => by
    have h1 := flat_le (l := l) fun b hb => h b (List.mem_cons_of_mem _ hb)
    have h2 := h a List.mem_cons_self
    have h3 := numL_le a.size
    have h4 : (nmB a).length = (numL a.size).length + a.size := by unfold nmB; rw [List.length_append, Frm.size_list]
    rw [List.flatMap_cons, List.length_append, List.length_cons, h4]
    omega
theorem data_le {m : M} (h : Good m) : (dataL m).length ≤ 710 := by
  have h1 := flat_le (l := m.blocks) fun b hb => (nm_len (h.nms b hb)).2
  have h2 := h.few
  have a1 := numL_le m.epoch.toNat
  have a2 := numL_le m.base.toNat
  have a3 := numL_le m.promise.toNat
  have a4 := numL_le (zig m.mark)
  have a5 := numL_le m.check.toNat
  have a6 := numL_le m.blocks.length
  unfold dataL
  simp only [List.length_append]
  omega
theorem code_le {m : M} (h : Good m) : (code m).size ≤ 730 := by
  have h1 := data_le h
  have h2 := nd_le (bts (dataL m)).size
  unfold code
  rw [Frm.putA_size, bts_size] at *
  omega
/-! ### what is read of bytes -/
open Rc in
def namesK {β : Type} (f : List ByteArray → Rd β) : Nat → List ByteArray → Rd β
  | 0, acc => f acc
  | n + 1, acc => bnd (txtR 32) fun t => namesK f n (acc ++ [t])
open Rc in
/-- The document's way: all numbers, then whether they may be. -/
def allR : Rd M := bnd numR fun a => bnd numR fun b => bnd numR fun c => bnd sgnR fun k => bnd numR fun d => bnd numR fun n =>
  bnd (mustR (decide (a ≤ 99999999) && decide (b ≤ 99999999) && decide (c ≤ 99999999) && decide (d ≤ 99999999) && decide (n ≤ 16)) 3) fun _ => namesK (fun l => retR ⟨a, b, c, k, d, l⟩) n []
open Rc in
/-- A number that may be no more than so much. -/
def uptoR (m : Nat) : Rd Nat := bnd numR fun n => bnd (mustR (decide (n ≤ m)) 3) fun _ => retR n
open Rc in
/-- The program's way. -/
def allP : Rd M := bnd (uptoR 99999999) fun a => bnd (uptoR 99999999) fun b => bnd (uptoR 99999999) fun c => bnd sgnR fun k => bnd (uptoR 99999999) fun d => bnd (uptoR 16) fun n => namesK (fun l => retR ⟨a, b, c, k, d, l⟩) n []
section
open Rc
theorem txt_enc {b : ByteArray} (h : b.size ≤ 32) (r : List UInt8) : txtR 32 (nmB b ++ r) = .ok (b, r) := by
  unfold txtR nmB
  rw [Lb.txt_text b 32 r (by omega) (by omega)]
  rfl
theorem upto_enc {n m : Nat} (h : n ≤ m) (hm : m < 18446744073709551616) (r : List UInt8) : uptoR m (numL n ++ r) = .ok (n, r) := by
  unfold uptoR
  rw [bnd_ok (num_enc n (by omega) r), bnd_ok (a := ()) (r := r) (by unfold mustR; rw [if_pos (decide_eq_true h)])]
  rfl
theorem names_enc {β : Type} (f : List ByteArray → Rd β) : ∀ (l acc : List ByteArray) (r : List UInt8), (∀ b ∈ l, b.size ≤ 32) → namesK f l.length acc (l.flatMap nmB ++ r) = f (acc ++ l) r
  | [], acc, r, _ => by simp [namesK]
  | a :: l, acc, r, h => by
    rw [List.length_cons, namesK, List.flatMap_cons, List.append_assoc, bnd_ok (txt_enc (h a List.mem_cons_self) _), names_enc f l _ r fun b hb => h b (List.mem_cons_of_mem _ hb)]
    simp
theorem toNat_is {n : Int} (h : 0 ≤ n) : ((n.toNat : Nat) : Int) = n := Int.toNat_of_nonneg h
theorem self_is {m : M} (h : Good m) : (⟨(m.epoch.toNat : Int), (m.base.toNat : Int), (m.promise.toNat : Int), m.mark, (m.check.toNat : Int), [] ++ m.blocks⟩ : M) = m := by
  have := h.e; have := h.b; have := h.p; have := h.c
  rw [toNat_is (by omega), toNat_is (by omega), toNat_is (by omega), toNat_is (by omega)]
  rfl
theorem all_enc {m : M} (h : Good m) (hk : -9223372036854775808 ≤ m.mark ∧ m.mark ≤ 9223372036854775807) (x : List UInt8) : allR (dataL m ++ x) = .ok (m, x) := by
  have := h.e; have := h.b; have := h.p; have := h.c; have := h.few
  unfold allR dataL
  simp only [List.append_assoc]
  rw [bnd_ok (num_enc _ (by omega) _), bnd_ok (num_enc _ (by omega) _), bnd_ok (num_enc _ (by omega) _), bnd_ok (sgn_enc _ hk.1 hk.2 _), bnd_ok (num_enc _ (by omega) _), bnd_ok (num_enc _ (by omega) _)]
  rw [bnd_ok (a := ()) (r := m.blocks.flatMap nmB ++ x) (by
    unfold mustR
    rw [if_pos]
    simp only [Bool.and_eq_true, decide_eq_true_eq]
    omega)]
  rw [names_enc _ m.blocks [] x fun b hb => (nm_len (h.nms b hb)).2]
  unfold retR
  rw [self_is h]
theorem all_encP {m : M} (h : Good m) (hk : -9223372036854775808 ≤ m.mark ∧ m.mark ≤ 9223372036854775807) (x : List UInt8) : allP (dataL m ++ x) = .ok (m, x) := by
  have := h.e; have := h.b; have := h.p; have := h.c; have := h.few
  unfold allP dataL
  simp only [List.append_assoc]
  rw [bnd_ok (upto_enc (by omega) (by omega) _), bnd_ok (upto_enc (by omega) (by omega) _), bnd_ok (upto_enc (by omega) (by omega) _), bnd_ok (sgn_enc _ hk.1 hk.2 _), bnd_ok (upto_enc (by omega) (by omega) _), bnd_ok (upto_enc (by omega) (by omega) _)]
  rw [names_enc _ m.blocks [] x fun b hb => (nm_len (h.nms b hb)).2]
  unfold retR
  rw [self_is h]
/-! ### and back -/
theorem bnd_inv {α β : Type} {x : Rd α} {f : α → Rd β} {s : List UInt8} {y : β × List UInt8} (h : bnd x f s = .ok y) : ∃ a r, x s = .ok (a, r) ∧ f a r = .ok y := by
  cases hx : x s with
  | error e => rw [bnd_no hx] at h; cases h
  | ok p => exact ⟨p.1, p.2, rfl, by rw [bnd_ok (a := p.1) (r := p.2) hx] at h; exact h⟩
theorem num_inv {s r : List UInt8} {n : Nat} (h : numR s = .ok (n, r)) : s = numL n ++ r ∧ n < 18446744073709551616 := by
  unfold numR at h
  split at h
  · rename_i he
    obtain ⟨e1, e2⟩ := Prod.mk.inj (Except.ok.inj h)
    subst e1 e2
    exact ⟨by rw [(num_got s he).1, List.take_append_drop], (gotN_lt s).1⟩
  · cases h
theorem sgn_inv {s r : List UInt8} {n : Int} (h : sgnR s = .ok (n, r)) : s = numL (zig n) ++ r ∧ -9223372036854775808 ≤ n ∧ n ≤ 9223372036854775807 := by
  unfold sgnR at h
  split at h
  · rename_i he
    obtain ⟨e1, e2⟩ := Prod.mk.inj (Except.ok.inj h)
    subst e1 e2
    exact ⟨by rw [zig_unz, (num_got s he).1, List.take_append_drop], unz_bd _ (gotN_lt s).1⟩
  · cases h
theorem must_inv {b : Bool} {y : Nat} {s r : List UInt8} {u : Unit} (h : mustR b y s = .ok (u, r)) : b = true ∧ r = s := by
  unfold mustR at h
  split at h
  · rename_i hb; exact ⟨hb, (Prod.mk.inj (Except.ok.inj h)).2.symm⟩
  · cases h
theorem upto_inv {m : Nat} {s r : List UInt8} {n : Nat} (h : uptoR m s = .ok (n, r)) : s = numL n ++ r ∧ n ≤ m := by
  obtain ⟨a, q, h1, h2⟩ := bnd_inv h
  obtain ⟨u, p, h3, h4⟩ := bnd_inv h2
  obtain ⟨h5, rfl⟩ := must_inv h3
  obtain ⟨e1, e2⟩ := Prod.mk.inj (Except.ok.inj h4)
  subst e1 e2
  exact ⟨(num_inv h1).1, of_decide_eq_true h5⟩
theorem txt_inv {s r : List UInt8} {t : ByteArray} (h : txtR 32 s = .ok (t, r)) : s = nmB t ++ r := by
  unfold txtR at h
  split at h
  · rename_i he
    obtain ⟨e1, e2⟩ := Prod.mk.inj (Except.ok.inj h)
    exact Lb.txt_ok (m := 32) (by rw [← e1, ← e2, ← he])
  · cases h
theorem names_inv {β : Type} {f : List ByteArray → Rd β} : ∀ {n : Nat} {acc : List ByteArray} {s : List UInt8} {y : β × List UInt8}, namesK f n acc s = .ok y → ∃ l r, l.length = n ∧ s = l.flatMap nmB ++ r ∧ f (acc ++ l) r = .ok y
  | 0, acc, s, y, h => ⟨[], s, rfl, rfl, by simpa [namesK] using h⟩
  | n + 1, acc, s, y, h => by
    obtain ⟨t, r, h1, h2⟩ := bnd_inv (show bnd (txtR 32) (fun t => namesK f n (acc ++ [t])) s = .ok y from h)
    obtain ⟨l, q, h3, h4, h5⟩ := names_inv h2
    refine ⟨t :: l, q, by simp [h3], ?_, by simpa using h5⟩
    rw [txt_inv h1, h4, List.flatMap_cons, List.append_assoc]
theorem all_inv {d x : List UInt8} {m : M} (h : allP d = .ok (m, x)) : d = dataL m ++ x ∧ -9223372036854775808 ≤ m.mark ∧ m.mark ≤ 9223372036854775807 := by
  obtain ⟨a, q1, h1, h⟩ := bnd_inv h
  obtain ⟨b, q2, h2, h⟩ := bnd_inv h
  obtain ⟨c, q3, h3, h⟩ := bnd_inv h
  obtain ⟨k, q4, h4, h⟩ := bnd_inv h
  obtain ⟨e, q5, h5, h⟩ := bnd_inv h
  obtain ⟨n, q6, h6, h⟩ := bnd_inv h
  obtain ⟨l, r, hl, h7, h8⟩ := names_inv h
  obtain ⟨e1, e2⟩ := Prod.mk.inj (Except.ok.inj h8)
  subst e1 e2 hl
  obtain ⟨rfl, -⟩ := upto_inv h1
  obtain ⟨rfl, -⟩ := upto_inv h2
  obtain ⟨rfl, -⟩ := upto_inv h3
  obtain ⟨rfl, hk⟩ := sgn_inv h4
  obtain ⟨rfl, -⟩ := upto_inv h5
  obtain ⟨rfl, -⟩ := upto_inv h6
  subst h7
  refine ⟨?_, hk⟩
  simp [dataL]
end
/-! ### what Decode tells -/
/-- Of the bytes s a manifest and an error are told. -/
def Dec (s : ByteArray) (m : M) (e : Int) : Prop :=
  (e = 0 ∧ Good m ∧ (-9223372036854775808 ≤ m.mark ∧ m.mark ≤ 9223372036854775807) ∧ code m = s) ∨
  (e = 3 ∧ m = zero ∧ ∀ m', Good m' → (-9223372036854775808 ≤ m'.mark ∧ m'.mark ≤ 9223372036854775807) → code m' ≠ s)
theorem got_code {m : M} (h : Good m) (r : ByteArray) : Frm.gotF (code m ++ r) = ⟨6, bts (dataL m), (code m).size, 0⟩ :=
  Frm.got_put 6 _ r (by decide) (by decide) (by have := data_le h; rw [bts_size]; omega)
theorem got_self {m : M} (h : Good m) : Frm.gotF (code m) = ⟨6, bts (dataL m), (code m).size, 0⟩ := by
  have := got_code h ⟨#[]⟩
  rwa [Frm.app_nil] at this
theorem code_inj {m n : M} (h : Good m) (k : Good n) (hm : -9223372036854775808 ≤ m.mark ∧ m.mark ≤ 9223372036854775807) (hn : -9223372036854775808 ≤ n.mark ∧ n.mark ≤ 9223372036854775807) (e : code m = code n) : m = n := by
  have h1 := got_self h
  rw [e, got_self k] at h1
  have h2 : dataL n = dataL m := by
    have := congrArg (fun g => g.data.data.toList) h1
    exact this
  have h3 := all_enc h hm []
  rw [List.append_nil, ← h2] at h3
  have h4 := all_enc k hn []
  rw [List.append_nil, h3] at h4
  exact (Prod.mk.inj (Except.ok.inj h4)).1
theorem Dec.one {s : ByteArray} {m n : M} {e f : Int} (h : Dec s m e) (k : Dec s n f) : m = n ∧ e = f := by
  rcases h with ⟨rfl, h1, h2, h3⟩ | ⟨rfl, rfl, h1⟩ <;> rcases k with ⟨rfl, k1, k2, k3⟩ | ⟨rfl, rfl, k1⟩
  · exact ⟨code_inj h1 k1 h2 k2 (h3.trans k3.symm), rfl⟩
  · exact absurd h3 (k1 _ h1 h2)
  · exact absurd k3 (h1 _ k1 k2)
  · exact ⟨rfl, rfl⟩
theorem Dec.back {m : M} (h : Good m) (hk : -9223372036854775808 ≤ m.mark ∧ m.mark ≤ 9223372036854775807) : Dec (code m) m 0 := .inl ⟨rfl, h, hk, rfl⟩
theorem Dec.more {m : M} (h : Good m) (r : ByteArray) (hr : 0 < r.size) : Dec (code m ++ r) zero 3 := by
  refine .inr ⟨rfl, rfl, fun n k _ e => ?_⟩
  have h1 := got_code h r
  rw [← e, got_self k] at h1
  have h2 := congrArg (fun g => g.size) h1
  have h3 : (code n).size = (code m).size := h2
  rw [e, ByteArray.size_append] at h3
  omega
end Mf
end Go.Proofs.YtjpgglajcelllaaDoor
