/-
  ReadLine, the program's and the model's: both answer alike. Used by the claims on chapter 4.
-/
import Derived.Test.YtijhfmjkiijhiaaDoorSigY
import Derived.Test.YtijhfmjkiijhiaaDoorPlainX
namespace Go.Proofs.YtijhfmjkiijhiaaDoor
open Go.RowKit
set_option linter.unusedVariables false

theorem readLineX_no (s : ByteArray) (w : World) (hs : s.size ≤ 1048576) (h : lineL (bl s) = false) :
    Calls Tryd.prog 42 #[.string s] w fun e w' => e = .returned (.tuple #[.string ByteArray.empty, .bool false]) ∧ Below w.heap.size w w' := by
  have F := Lib.hid fun w => plainLineX_no s w hs h
  clear h
  go_enter Tryd.func42, Tryd.ntmps42
  go_wp2_with fail
  refine (F.out _).mono ?_
  rintro e w1 ⟨rfl, hb⟩
  have HB := Lib.hid hb
  clear hb
  go_wp2
  (first | go_ret | go_ret2)
  exact ⟨rfl, HB.out⟩
theorem sReadLine_no (s : ByteArray) (w : World) (hs : s.size ≤ 1048576) (h : lineL (bl s) = false) :
    Calls Tryd.prog 41 #[.string s] w fun e w' => e = .returned (.tuple #[.string ByteArray.empty, .bool false]) ∧ Below w.heap.size w w' := by
  have F := sLine_is s false hs h
  clear h
  go_enter Tryd.func41, Tryd.ntmps41
  go_wp2_with fail
  refine (F.out _).mono ?_
  rintro e w1 ⟨rfl, hb⟩
  have HB := Lib.hid hb
  clear hb
  go_wp2
  (first | go_ret | go_ret2)
  exact ⟨rfl, HB.out⟩
theorem plain_size {s : ByteArray} (h : lineL (bl s) = true) : (⟨(plainL (bl s)).toArray⟩ : ByteArray).size ≤ 1048576 := by
  have := line_len (plain_line h)
  rw [sizeE]; omega
theorem readLineX_yes (s : ByteArray) (w : World) (hs : s.size ≤ 1048576) (h : lineL (bl s) = true) :
    Calls Tryd.prog 42 #[.string s] w fun e w' => e = .returned (.tuple #[.string ⟨(sigS (plainL (bl s))).toArray⟩, .bool (sigOk (plainL (bl s)))]) ∧ Below w.heap.size w w' := by
  have F := Lib.hid fun w => plainLineX_yes s w hs h
  have G : Hid (∀ w, Calls Tryd.prog 19 #[.string ⟨(plainL (bl s)).toArray⟩] w fun e w' => e = .returned (.tuple #[.string ⟨(sigS (plainL (bl s))).toArray⟩, .bool (sigOk (plainL (bl s)))]) ∧ Below w.heap.size w w') := Lib.hid fun w => by
    have := signalOfX_line ⟨(plainL (bl s)).toArray⟩ w (plain_size h) (by rw [bl_mk0]; exact plain_line h)
    rwa [bl_mk0] at this
  generalize sigS (plainL (bl s)) = r at G ⊢
  generalize sigOk (plainL (bl s)) = ok at G ⊢
  generalize plainL (bl s) = p at F G
  clear h
  go_enter Tryd.func42, Tryd.ntmps42
  go_wp2_with fail
  refine (F.out _).mono ?_
  rintro e w1 ⟨rfl, hb⟩
  have HB := Lib.hid hb
  clear hb
  go_wp2_with fail
  refine (G.out _).mono ?_
  rintro e w2 ⟨rfl, hb⟩
  have HB2 := Lib.hid (HB.out.trans (hb.mono HB.out.size))
  clear hb
  go_wp2
  (first | go_ret | go_ret2)
  exact ⟨rfl, HB2.out⟩
theorem sReadLine_yes (s : ByteArray) (w : World) (hs : s.size ≤ 1048576) (h : lineL (bl s) = true) :
    Calls Tryd.prog 41 #[.string s] w fun e w' => e = .returned (.tuple #[.string ⟨(sigS (plainL (bl s))).toArray⟩, .bool (sigOk (plainL (bl s)))]) ∧ Below w.heap.size w w' := by
  have F := sLine_is s true hs h
  have H := Lib.hid fun w => sPlain_any s w hs (fun c hc => line_beat h (c := c) hc)
  have G : Hid (∀ w, Calls Tryd.prog 54 #[.string ⟨(plainL (bl s)).toArray⟩] w fun e w' => e = .returned (.tuple #[.string ⟨(sigS (plainL (bl s))).toArray⟩, .bool (sigOk (plainL (bl s)))]) ∧ Below w.heap.size w w') := Lib.hid fun w => by
    have := sSig_any ⟨(plainL (bl s)).toArray⟩ w (plain_size h) (by rw [bl_mk0]; exact plain_line h)
    rwa [bl_mk0] at this
  generalize sigS (plainL (bl s)) = r at G ⊢
  generalize sigOk (plainL (bl s)) = ok at G ⊢
  generalize plainL (bl s) = p at H G
  clear h
  go_enter Tryd.func41, Tryd.ntmps41
  go_wp2_with fail
  refine (F.out _).mono ?_
  rintro e w1 ⟨rfl, hb⟩
  have HB := Lib.hid hb
  clear hb
  go_wp2_with fail
  refine (H.out _).mono ?_
  rintro e w2 ⟨rfl, hb⟩
  have HB2 := Lib.hid (HB.out.trans (hb.mono HB.out.size))
  clear hb
  go_wp2_with fail
  refine (G.out _).mono ?_
  rintro e w3 ⟨rfl, hb⟩
  have HB3 := Lib.hid (HB2.out.trans (hb.mono HB2.out.size))
  clear hb
  go_wp2
  (first | go_ret | go_ret2)
  exact ⟨rfl, HB3.out⟩
theorem readLine_both (s : ByteArray) (hs : s.size ≤ 1048576) : ∃ (R0 : ByteArray) (R1 : Bool),
    Hid (∀ W, Calls Tryd.prog 41 #[.string s] W fun e W' => e = .returned (.tuple #[.string R0, .bool R1]) ∧ Below W.heap.size W W') ∧
    Hid (∀ W, Calls Tryd.prog 42 #[.string s] W fun e W' => e = .returned (.tuple #[.string R0, .bool R1]) ∧ Below W.heap.size W W') := by
  cases h : lineL (bl s)
  · exact ⟨_, _, fun W => sReadLine_no s W hs h, fun W => readLineX_no s W hs h⟩
  · exact ⟨_, _, fun W => sReadLine_yes s W hs h, fun W => readLineX_yes s W hs h⟩
end Go.Proofs.YtijhfmjkiijhiaaDoor
