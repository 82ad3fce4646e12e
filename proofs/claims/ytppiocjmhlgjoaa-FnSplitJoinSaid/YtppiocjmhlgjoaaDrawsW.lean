/-
  Contracts of the model's DrawSplitString, DrawJoinStrings, DrawLessString: texts and lists of bounded size. Used by the claim on FnSplitJoin.
-/
import Derived.Test.YtppiocjmhlgjoaaDrawW
import Derived.OwnWalk
import Derived.Maps.AppendAt
namespace Go.Proofs.Ytppiocjmhlgjoaa
open Go.RowKit
set_option linter.unusedVariables false

/-- A code that came in. -/
def CodeIn (w : World) (a : Option Addr) (len : Nat) : Prop := 0 < len → ∃ b o, a = some ⟨b, o, none⟩ ∧ b < w.heap.size ∧ ∀ j, j < len → ∃ v : Int, 0 ≤ v ∧ v ≤ 255 ∧ w.cell? ⟨b, o + j, none⟩ = some (.int .u8 v)
theorem CodeIn.below {w w' : World} {a : Option Addr} {len : Nat} (h : CodeIn w a len) (hb : Below w.heap.size w w') : CodeIn w' a len := fun h0 => by
  obtain ⟨b, o, e, hlt, hc⟩ := h h0
  refine ⟨b, o, e, Nat.lt_of_lt_of_le hlt hb.size, fun j hj => ?_⟩
  obtain ⟨v, v0, v1, hv⟩ := hc j hj
  exact ⟨v, v0, v1, (hb.cell (p := ⟨b, o + j, none⟩) hlt).trans hv⟩
theorem cur_new {w : World} {a : Option Addr} {len cap : Nat} (h : CodeIn w a len) (hl : len ≤ 65536) : Cur (w.alloc (.cells #[.slice a len cap, .int .i64 0, .int .u64 0] 44)) w.heap.size 0 := by
  refine ⟨a, len, cap, 0, 0, heap_alloc_new w _, Nat.le_refl _, hl, fun h0 => ?_⟩
  obtain ⟨b, o, e, hlt, hc⟩ := h h0
  refine ⟨b, o, e, hlt, fun j hj => ?_⟩
  obtain ⟨v, v0, v1, hv⟩ := hc j hj
  exact ⟨v, v0, v1, (((Below.refl w.heap.size w).alloc (Nat.le_refl _) _).cell (p := ⟨b, o + j, none⟩) hlt).trans hv⟩
theorem below_new {w w' : World} {o : Obj} (hg : (w.alloc o).grownBy w' (some w.heap.size)) : Below w.heap.size w w' :=
  ((Below.refl w.heap.size w).alloc (Nat.le_refl _) o).grown hg (by simp) (fun k e => by cases e; exact Nat.le_refl _)

def sepTexts : List ByteArray := [⟨#[44]⟩, ⟨#[44]⟩, ⟨#[32]⟩, ⟨#[]⟩, ⟨#[44, 44]⟩]
theorem sepTexts_size : ∀ x ∈ sepTexts, x.size ≤ 10 := by decide
def SplitDraw (w : World) (e : Ending) (w' : World) : Prop := ∃ s sep : ByteArray, e = .returned (.tuple #[.string s, .string sep]) ∧ s.size ≤ 10 ∧ sep.size ≤ 10 ∧ Below w.heap.size w w'
theorem drawSplit (a : Option Addr) (len cap : Nat) (w : World) (h : CodeIn w a len) (hl : len ≤ 65536) : Calls Try.prog 9 #[.slice a len cap] w (SplitDraw w) := by
  have HC := Lib.hid (cur_new (cap := cap) h hl)
  clear h
  go_enter Try.func9, Try.ntmps9
  go_wp2_with fail
  refine (any1_any w.heap.size 0 _ HC.out (by omega)).mono ?_
  rintro e w1 ⟨s, rfl, hs, hc, hg⟩
  have HC1 := Lib.hid hc
  have HG1 := Lib.hid hg
  clear hc hg
  go_wp2_with fail
  refine (of_new w.heap.size 2 5 sepTexts _ HC1.out (by omega) rfl (by omega) (by omega)).mono ?_
  rintro e w2 ⟨sep, rfl, hm, hc, hg⟩
  have HF : Hid (sep.size ≤ 10 ∧ Below w.heap.size w w2) := ⟨sepTexts_size sep hm, below_new (grown_two HG1.out hg)⟩
  clear hm hc hg
  go_wp2
  go_ret2
  exact ⟨s, sep, rfl, hs, HF.out.1, HF.out.2⟩

def LessDraw (w : World) (e : Ending) (w' : World) : Prop := ∃ s t : ByteArray, e = .returned (.tuple #[.string s, .string t]) ∧ s.size ≤ 10 ∧ t.size ≤ 10 ∧ Below w.heap.size w w'
theorem drawLess (a : Option Addr) (len cap : Nat) (w : World) (h : CodeIn w a len) (hl : len ≤ 65536) : Calls Try.prog 14 #[.slice a len cap] w (LessDraw w) := by
  have HC := Lib.hid (cur_new (cap := cap) h hl)
  clear h
  go_enter Try.func14, Try.ntmps14
  go_wp2_with fail
  refine (any1_any w.heap.size 0 _ HC.out (by omega)).mono ?_
  rintro e w1 ⟨s, rfl, hs, hc, hg⟩
  have HC1 := Lib.hid hc
  have HG1 := Lib.hid hg
  clear hc hg
  go_wp2_with fail
  refine (any1_any w.heap.size 2 _ HC1.out (by omega)).mono ?_
  rintro e w2 ⟨t, rfl, ht, hc, hg⟩
  have HF : Hid (Below w.heap.size w w2) := Lib.hid (below_new (grown_two HG1.out hg))
  clear hc hg
  go_wp2
  go_ret2
  exact ⟨s, t, rfl, hs, ht, HF.out⟩
end Go.Proofs.Ytppiocjmhlgjoaa
