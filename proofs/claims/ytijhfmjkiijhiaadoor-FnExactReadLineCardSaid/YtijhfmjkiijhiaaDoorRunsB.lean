/-
  RunsOf, the program's and the model's: both answer alike. Used by the claims on chapter 4.
-/
import Derived.Test.YtijhfmjkiijhiaaDoorRunW
import Derived.Test.YtijhfmjkiijhiaaDoorLineX
namespace Go.Proofs.YtijhfmjkiijhiaaDoor
open Go.RowKit
set_option linter.unusedVariables false

theorem runs_len {l : Bs} (h : lineL l = true) : (runsL l).length ≤ 200 := Nat.le_trans (runsTo_le l l.length) (line_len h)
theorem seqOut_nil {W W' : World} (a : Option Addr) (g c : Nat) (hb : Below W.heap.size W W') : SeqOut (prs []) ([] : Rs).length false W (.returned (.tuple #[.slice a 0 c, .bool false])) W' :=
  ⟨a, g, c, rfl, ⟨fun h => by simp [prs] at h, fun j x hx => by simp [prs] at hx⟩, fun h => by simp [prs] at h, fun j hj => by simp [prs] at hj, hb⟩
theorem runsOfX_no (s : ByteArray) (w : World) (hs : s.size ≤ 1048576) (h : lineL (bl s) = false) :
    Calls Tryd.prog 21 #[.string s] w fun e w' => SeqOut (prs []) ([] : Rs).length false w e w' := by
  have F := isLine_is s false hs h
  clear h
  go_enter Tryd.func21, Tryd.ntmps21
  go_wp2_with fail
  refine (F.out _).mono ?_
  rintro e w1 ⟨rfl, hb⟩
  have HB := Lib.hid hb
  clear hb
  go_wp2
  (first | go_ret | go_ret2)
  exact seqOut_nil none 0 0 HB.out
theorem sRunsOf_no (s : ByteArray) (w : World) (hs : s.size ≤ 1048576) (h : lineL (bl s) = false) :
    Calls Tryd.prog 20 #[.string s] w fun e w' => SeqOut (prs []) ([] : Rs).length false w e w' := by
  have F := sLine_is s false hs h
  clear h
  go_enter Tryd.func20, Tryd.ntmps20
  go_wp2_with fail
  refine (F.out _).mono ?_
  rintro e w1 ⟨rfl, hb⟩
  have HB := Lib.hid hb
  clear hb
  go_wp2
  (first | go_ret | go_ret2)
  exact seqOut_nil _ 0 0 (HB.out.alloc HB.out.size _)
theorem runsOfX_yes (s : ByteArray) (w : World) (hs : s.size ≤ 1048576) (h : lineL (bl s) = true) :
    Calls Tryd.prog 21 #[.string s] w fun e w' => SeqOut (prs (runsL (bl s))) (runsL (bl s)).length true w e w' := by
  have F := isLine_is s true hs h
  have G := Lib.hid fun w => runsOf_any s w hs (fun c hc => line_beat h hc)
  clear h
  go_enter Tryd.func21, Tryd.ntmps21
  go_wp2_with fail
  refine (F.out _).mono ?_
  rintro e w1 ⟨rfl, hb⟩
  have HB := Lib.hid hb
  clear hb
  go_wp2_with fail
  refine (G.out _).mono ?_
  rintro e w2 ⟨⟨g, c, rfl, hs2, hg, hf, _⟩, hb⟩
  have HB2 := Lib.hid (HB.out.trans (hb.mono HB.out.size))
  have HS := Lib.hid (And.intro hs2 (And.intro hg hf))
  clear hb hs2 hg hf
  go_wp2
  (first | go_ret | go_ret2)
  exact ⟨_, g, c, rfl, HS.out.1, fun h0 => Nat.le_trans HB.out.size HS.out.2.1, HS.out.2.2, HB2.out⟩
theorem sRunsOf_yes (s : ByteArray) (w : World) (hs : s.size ≤ 1048576) (h : lineL (bl s) = true) :
    Calls Tryd.prog 20 #[.string s] w fun e w' => SeqOut (prs (runsL (bl s))) (runsL (bl s)).length true w e w' := by
  have F := sLine_is s true hs h
  have G := Lib.hid fun w => sRuns_any s w hs (fun c hc => line_beat h hc)
  clear h
  go_enter Tryd.func20, Tryd.ntmps20
  go_wp2_with fail
  refine (F.out _).mono ?_
  rintro e w1 ⟨rfl, hb⟩
  have HB := Lib.hid hb
  clear hb
  go_wp2_with fail
  refine (G.out _).mono ?_
  rintro e w2 ⟨⟨g, c, rfl, hs2, hg, hf, _⟩, hb⟩
  have HB2 := Lib.hid (HB.out.trans (hb.mono HB.out.size))
  have HS := Lib.hid (And.intro hs2 (And.intro hg hf))
  clear hb hs2 hg hf
  go_wp2
  (first | go_ret | go_ret2)
  exact ⟨_, g, c, rfl, HS.out.1, fun h0 => Nat.le_trans HB.out.size HS.out.2.1, HS.out.2.2, HB2.out⟩
theorem runsOf_both (s : ByteArray) (hs : s.size ≤ 1048576) : ∃ (l : Rs) (R1 : Bool), l.length ≤ 1000 ∧
    Hid (∀ W, Calls Tryd.prog 20 #[.string s] W fun e W' => SeqOut (prs l) l.length R1 W e W') ∧
    Hid (∀ W, Calls Tryd.prog 21 #[.string s] W fun e W' => SeqOut (prs l) l.length R1 W e W') := by
  cases h : lineL (bl s)
  · exact ⟨_, _, by simp, fun W => sRunsOf_no s W hs h, fun W => runsOfX_no s W hs h⟩
  · exact ⟨_, _, by have := runs_len h; omega, fun W => sRunsOf_yes s W hs h, fun W => runsOfX_yes s W hs h⟩
end Go.Proofs.YtijhfmjkiijhiaaDoor
