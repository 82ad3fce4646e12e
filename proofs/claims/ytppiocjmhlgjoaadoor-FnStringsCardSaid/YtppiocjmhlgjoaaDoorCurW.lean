/-
  Contracts of the model's cursor over a code: next, pick, one, of. What is drawn is said up to its range alone. Used by the claims on the named laws.
-/
import Derived.Test.YtppiocjmhlgjoaaDoorRows
import Derived.WalkKit
import Derived.WalkSpells
import Derived.LoopTactic
import Derived.Handy
import Derived.Lib.Hide
import Derived.IntWalk
import Derived.Deep.QuietTactic
import Derived.BigQuiet
import Derived.Laws.AppendOwn
import Derived.WalkSmall
namespace Go.Proofs.YtppiocjmhlgjoaaDoor
open Go.RowKit
set_option linter.unusedVariables false

/-- A code in memory, in a block ahead of cb. -/
def CodeAt (w : World) (cb : Nat) (a : Option Addr) (len : Nat) : Prop := 0 < len → ∃ b o, a = some ⟨b, o, none⟩ ∧ b < cb ∧ ∀ j, j < len → ∃ v : Int, 0 ≤ v ∧ v ≤ 255 ∧ w.cell? ⟨b, o + j, none⟩ = some (.int .u8 v)

theorem cur_set (w : World) (cb : Nat) (v0 v1 v2 x y : Value) (q r : Nat) (t : TypeId) (h : w.heap[cb]? = some (.cells #[v0, v1, v2] t (0, 0))) :
    ((((w.drewN q).setCell ⟨cb, 1, none⟩ x).setCell ⟨cb, 2, none⟩ y).drewN r).heap[cb]? = some (.cells #[v0, x, y] t (0, 0)) := by
  simp [World.setCell, World.drewN, Array.getElem?_modify, h]
theorem cur_grown (w : World) (cb : Nat) (x y : Value) (q r : Nat) : w.grownBy ((((w.drewN q).setCell ⟨cb, 1, none⟩ x).setCell ⟨cb, 2, none⟩ y).drewN r) (some cb) :=
  ⟨rfl, rfl, rfl, by simp [World.setCell], fun k _ hne => by
    have e : cb ≠ k := fun e => hne (by rw [e])
    simp [World.setCell, World.drewN, Array.getElem?_modify, e]⟩

theorem byte_range (y : Int) : 0 ≤ wrap64 (bits BinOp.and IntKind.u64 (IntKind.u64.wrap y / 1099511627776) 255) ∧ wrap64 (bits BinOp.and IntKind.u64 (IntKind.u64.wrap y / 1099511627776) 255) ≤ 255 := by
  have hw : 0 ≤ IntKind.u64.wrap y ∧ IntKind.u64.wrap y < 18446744073709551616 := by
    rw [IntKind.wrap_u64]; omega
  generalize IntKind.u64.wrap y = z at hw
  have h := bits_and_u64_nat (z / 1099511627776).toNat 255 (by omega) (by omega)
  rw [Int.toNat_of_nonneg (by omega)] at h
  have h3 : (z / 1099511627776).toNat &&& 255 = (z / 1099511627776).toNat % 256 := Nat.and_two_pow_sub_one_eq_mod _ 8
  rw [h3] at h
  have h4 : bits BinOp.and IntKind.u64 (z / 1099511627776) 255 = (((z / 1099511627776).toNat % 256 : Nat) : Int) := h
  rw [h4, IntWalk.wrap64_in _ (by omega)]
  omega
theorem next_in (cb at_ len cap b o : Nat) (s v : Int) (w : World) (hw : w.heap[cb]? = some (.cells #[.slice (some ⟨b, o, none⟩) len cap, .int .i64 at_, .int .u64 s] 37 (0, 0))) (hn : at_ ≤ 1000000000) (hl : len ≤ 65536) (hat : at_ < len) (hb : b ≠ cb)
    (hv0 : 0 ≤ v) (hv1 : v ≤ 255) (hc : w.cell? ⟨b, o + at_, none⟩ = some (.int .u8 v)) :
    Calls Tryd.prog 37 #[.pointer (some ⟨cb, 0, none⟩)] w fun e w' => e = .returned (.int .i64 v) ∧ ∃ s', w'.heap[cb]? = some (.cells #[.slice (some ⟨b, o, none⟩) len cap, .int .i64 ((at_ + 1 : Nat) : Int), .int .u64 s'] 37 (0, 0)) ∧ w.grownBy w' (some cb) := by
  have c0 : w.cell? ⟨cb, 0, none⟩ = some (.slice (some ⟨b, o, none⟩) len cap) := by simp [World.cell?, hw]
  have c1 : w.cell? ⟨cb, 1, none⟩ = some (.int .i64 at_) := by simp [World.cell?, hw]
  have c2 : w.cell? ⟨cb, 2, none⟩ = some (.int .u64 s) := by simp [World.cell?, hw]
  have f1 : w.frozen? ⟨cb, 1, none⟩ = false := by simp [World.frozen?, hw]
  have f2 : w.frozen? ⟨cb, 2, none⟩ = false := by simp [World.frozen?, hw]
  have HW := Lib.hid hw
  clear hw
  have i0 : (0 : Int) ≤ (at_ : Int) := by omega
  have i1 : (at_ : Int) < (len : Int) := by omega
  go_enter Tryd.func37, Tryd.ntmps37
  go_wp2
  go_quiet (fail)
  go_wp2
  go_quiet (fail)
  go_wp2
  go_quiet (fail)
  go_wp2
  go_ret
  exact ⟨rfl, _, cur_set w cb _ _ _ _ _ _ _ 37 HW.out, cur_grown w cb _ _ _ _⟩

theorem next_out (cb at_ len cap : Nat) (a : Option Addr) (s : Int) (w : World) (hw : w.heap[cb]? = some (.cells #[.slice a len cap, .int .i64 at_, .int .u64 s] 37 (0, 0))) (hn : at_ ≤ 1000000000) (hl : len ≤ 65536) (hat : len ≤ at_) :
    Calls Tryd.prog 37 #[.pointer (some ⟨cb, 0, none⟩)] w fun e w' => ∃ v s', e = .returned (.int .i64 v) ∧ 0 ≤ v ∧ v ≤ 255 ∧ w'.heap[cb]? = some (.cells #[.slice a len cap, .int .i64 ((at_ + 1 : Nat) : Int), .int .u64 s'] 37 (0, 0)) ∧ w.grownBy w' (some cb) := by
  have c0 : w.cell? ⟨cb, 0, none⟩ = some (.slice a len cap) := by simp [World.cell?, hw]
  have c1 : w.cell? ⟨cb, 1, none⟩ = some (.int .i64 at_) := by simp [World.cell?, hw]
  have c2 : w.cell? ⟨cb, 2, none⟩ = some (.int .u64 s) := by simp [World.cell?, hw]
  have f1 : w.frozen? ⟨cb, 1, none⟩ = false := by simp [World.frozen?, hw]
  have f2 : w.frozen? ⟨cb, 2, none⟩ = false := by simp [World.frozen?, hw]
  have HW := Lib.hid hw
  clear hw
  have i0 : (0 : Int) ≤ (at_ : Int) := by omega
  have i1 : ¬ (at_ : Int) < (len : Int) := by omega
  have i2 : ¬ (at_ : Int) + 1 ≤ (len : Int) := by omega
  go_enter Tryd.func37, Tryd.ntmps37
  go_wp2
  go_quiet (fail)
  go_wp2
  go_quiet (fail)
  go_wp2
  have hb := byte_range (IntKind.u64.wrap (IntKind.u64.wrap (s * 6364136223846793005)) + 462197)
  go_ret
  exact ⟨_, _, rfl, hb.1, hb.2, cur_set w cb _ _ _ _ _ _ _ 37 HW.out, cur_grown w cb _ _ _ _⟩

/-! ### The cursor, said up to how often it has been asked -/
def Cur (w : World) (cb m : Nat) : Prop := ∃ a len cap at_ s, w.heap[cb]? = some (.cells #[.slice a len cap, .int .i64 ((at_ : Nat) : Int), .int .u64 s] 37 (0, 0)) ∧ at_ ≤ m ∧ len ≤ 65536 ∧ CodeAt w cb a len

theorem CodeAt.block {w : World} {len b o : Nat} (h0 : 0 < len) (hc : ∀ j, j < len → ∃ v : Int, 0 ≤ v ∧ v ≤ 255 ∧ w.cell? ⟨b, o + j, none⟩ = some (.int .u8 v)) : b < w.heap.size := by
  obtain ⟨v, _, _, hv⟩ := hc 0 h0
  exact World.block_lt_of_cell? _ _ hv
theorem CodeAt.keep {w w' : World} {cb len : Nat} {a : Option Addr} (h : CodeAt w cb a len) (hb : ∀ b, b < cb → b < w.heap.size → w'.heap[b]? = w.heap[b]?) : CodeAt w' cb a len := fun h0 => by
  obtain ⟨b, o, e, hlt, hc⟩ := h h0
  have hs := CodeAt.block h0 hc
  refine ⟨b, o, e, hlt, fun j hj => ?_⟩
  obtain ⟨v, v0, v1, hv⟩ := hc j hj
  exact ⟨v, v0, v1, (World.cell?_of_block (w := w) (a := ⟨b, o + j, none⟩) (hb b hlt hs)).trans hv⟩
theorem CodeAt.grown {w w' : World} {cb len : Nat} {a : Option Addr} (h : CodeAt w cb a len) (hg : w.grownBy w' (some cb)) : CodeAt w' cb a len :=
  h.keep fun b hlt hs => hg.block b hs (fun e => by injection e with e; omega)
theorem Cur.lt {w : World} {cb m : Nat} (h : Cur w cb m) : cb < w.heap.size := by
  obtain ⟨a, len, cap, at_, s, hw, _⟩ := h
  exact (Array.getElem?_eq_some_iff.1 hw).1
theorem Cur.mono {w : World} {cb m m' : Nat} (h : Cur w cb m) (hm : m ≤ m') : Cur w cb m' := by
  obtain ⟨a, len, cap, at_, s, hw, h1, h2⟩ := h
  exact ⟨a, len, cap, at_, s, hw, Nat.le_trans h1 hm, h2⟩
/-- What lies behind the cursor may turn or grow. -/
theorem Cur.keep {w w' : World} {cb m B : Nat} (h : Cur w cb m) (hb : Below B w w') (hB : cb < B) : Cur w' cb m := by
  obtain ⟨a, len, cap, at_, s, hw, h1, h2, h3⟩ := h
  exact ⟨a, len, cap, at_, s, (hb.block cb hB).trans hw, h1, h2, h3.keep fun b hlt _ => hb.block b (by omega)⟩

/-- A number drawn below n; the cursor has been asked d times more; nothing else that was there has turned. -/
def DrawnN (cb m d n : Nat) (w : World) (e : Ending) (w' : World) : Prop := ∃ v : Nat, e = .returned (.int .i64 v) ∧ v < n ∧ Cur w' cb (m + d) ∧ w.grownBy w' (some cb)

theorem next_any (cb m : Nat) (w : World) (h : Cur w cb m) (hm : m ≤ 1000000000) : Calls Tryd.prog 37 #[.pointer (some ⟨cb, 0, none⟩)] w (DrawnN cb m 1 256 w) := by
  obtain ⟨a, len, cap, at_, s, hw, h1, h2, h3⟩ := h
  by_cases hlt : at_ < len
  · have h3' := h3
    obtain ⟨b, o, rfl, hbl, hc⟩ := h3 (by omega)
    have hne : b ≠ cb := by omega
    obtain ⟨v, v0, v1, hv⟩ := hc at_ hlt
    refine (next_in cb at_ len cap b o s v w hw (by omega) h2 hlt hne v0 v1 hv).mono ?_
    rintro e w' ⟨rfl, s', hh, hg⟩
    obtain ⟨q, rfl⟩ : ∃ q : Nat, v = (q : Int) := ⟨v.toNat, by omega⟩
    exact ⟨q, rfl, by omega, ⟨_, _, _, _, _, hh, by omega, h2, h3'.grown hg⟩, hg⟩
  · refine (next_out cb at_ len cap a s w hw (by omega) h2 (by omega)).mono ?_
    rintro e w' ⟨v, s', rfl, v0, v1, hh, hg⟩
    obtain ⟨q, rfl⟩ : ∃ q : Nat, v = (q : Int) := ⟨v.toNat, by omega⟩
    exact ⟨q, rfl, by omega, ⟨_, _, _, _, _, hh, by omega, h2, h3.grown hg⟩, hg⟩

theorem grown_two {a b c : World} {g : Nat} (h : a.grownBy b (some g)) (k : b.grownBy c (some g)) : a.grownBy c (some g) :=
  ⟨k.os.trans h.os, k.tape.trans h.tape, k.output.trans h.output, Nat.le_trans h.size k.size, fun i hi hne => (k.block i (Nat.lt_of_lt_of_le hi h.size) hne).trans (h.block i hi hne)⟩

theorem pick_any (cb m n : Nat) (w : World) (h : Cur w cb m) (hm : m ≤ 900000000) (h1 : 1 ≤ n) (hn : n ≤ 1000000) : Calls Tryd.prog 22 #[.pointer (some ⟨cb, 0, none⟩), .int .i64 n] w (DrawnN cb m 2 n w) := by
  have HC := Lib.hid h
  by_cases hn1 : n ≤ 1
  · have HF : Hid (DrawnN cb m 2 n w (.returned (.int .i64 0)) w) := Lib.hid ⟨0, rfl, by omega, h.mono (by omega), ⟨rfl, rfl, rfl, Nat.le_refl _, fun _ _ _ => rfl⟩⟩
    clear h
    go_enter Tryd.func22, Tryd.ntmps22
    go_wp2
    go_ret
    exact HF.out
  · clear h
    by_cases hn2 : n ≤ 200
    · go_enter Tryd.func22, Tryd.ntmps22
      go_wp2_with fail
      refine (next_any cb m _ HC.out (by omega)).mono ?_
      rintro e w1 ⟨v, rfl, hv, hc, hg⟩
      have HF : Hid (DrawnN cb m 2 n w (.returned (.int .i64 ((v : Int) % (n : Int)))) w1) := Lib.hid ⟨v % n, by congr 1, Nat.mod_lt _ (by omega), hc.mono (by omega), hg⟩
      clear hc hg
      go_wp2
      go_ret
      exact HF.out
    · go_enter Tryd.func22, Tryd.ntmps22
      go_wp2_with fail
      refine (next_any cb m _ HC.out (by omega)).mono ?_
      rintro e w1 ⟨v, rfl, hv, hc, hg⟩
      have HC1 := Lib.hid hc
      have HG1 := Lib.hid hg
      clear hc hg
      go_wp2_with fail
      refine (next_any cb (m + 1) _ HC1.out (by omega)).mono ?_
      rintro e w2 ⟨u, rfl, hu, hc, hg⟩
      have HF : Hid (DrawnN cb m 2 n w (.returned (.int .i64 (((v : Int) * 256 + (u : Int)) % (n : Int)))) w2) := Lib.hid ⟨(v * 256 + u) % n, by congr 1, Nat.mod_lt _ (by omega), hc.mono (by omega), grown_two HG1.out hg⟩
      clear hc hg
      go_wp2
      go_ret
      exact HF.out
end Go.Proofs.YtppiocjmhlgjoaaDoor
