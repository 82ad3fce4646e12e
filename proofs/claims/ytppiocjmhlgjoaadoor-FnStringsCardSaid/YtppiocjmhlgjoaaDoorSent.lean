/-
  What the rows' listed sentinels of strconv give: their variables hold interface values. Used by the claims on ParseInt and FnStrings.
-/
import Derived.Test.YtppiocjmhlgjoaaDoorReadW
import Derived.Stop.LaidErr
namespace Go.Proofs.YtppiocjmhlgjoaaDoor
open Go.RowKit

theorem gSyn : Tryd.prog.globalNamed "strconv.ErrSyntax" = some 0 := by kernel_rfl
theorem gRan : Tryd.prog.globalNamed "strconv.ErrRange" = some 1 := by kernel_rfl

theorem gSynType : (Tryd.prog.globals[0]?).map (·.type) = some 46 := by kernel_rfl
theorem gRanType : (Tryd.prog.globals[1]?).map (·.type) = some 46 := by kernel_rfl

/-- One listed variable holds an interface value: read off its datum. -/
theorem iface_cell {g ti : Nat} {ms : Array (String × TypeId)} {n nm : String} {d : DataW Unit} {r : List (String × DataW Unit)} {W : World} (hg : Tryd.prog.globalNamed n = some g) (ht : (Tryd.prog.globals[g]?).map (·.type) = some ti)
    (hi : Tryd.prog.underlying ti = some (.interface ms)) (h : laidMet Tryd.prog ((n, .iface nm d) :: r) W) : ∃ (t : TypeId) (p : Value), W.cell? ⟨g, 0, none⟩ = some (.iface t p) := by
  obtain ⟨ps, ⟨g0, t0, cs0, f0, p0, q0, hg0, ht0, hv0, hd0, _, e0⟩, _, hrows⟩ := h
  obtain rfl := Option.some.inj (hg.symm.trans hg0)
  obtain rfl := Option.some.inj (ht.symm.trans ht0)
  have hv := World.var?_cell hg0 hv0 0
  obtain ⟨f1, u, v, hcs, _, _⟩ := iface_of_trod hi hd0
  refine ⟨u, v, ?_⟩
  rw [hv, Array.eq_one_of_toList hcs]
  rfl

theorem sents_of {W : World} {x y z : String × DataW Unit} (h : laidMet Tryd.prog [x, y, z, ("strconv.ErrRange", Rows.laid_strconv_ErrRange), ("strconv.ErrSyntax", Rows.laid_strconv_ErrSyntax)] W) : Sents W := by
  obtain ⟨t1, p1, c1⟩ := iface_cell gRan gRanType Tryd.underlying46 h.tail.tail.tail
  obtain ⟨t0, p0, c0⟩ := iface_cell gSyn gSynType Tryd.underlying46 h.tail.tail.tail.tail
  exact ⟨t0, t1, p0, p1, c0, c1⟩
theorem sents_stays {w w' : World} {B : Nat} (h : Sents w) (hb : Below B w w') (hB : w.heap.size ≤ B) : Sents w' := by
  obtain ⟨t0, t1, p0, p1, c0, c1⟩ := h
  refine ⟨t0, t1, p0, p1, ?_, ?_⟩
  · rw [hb.cell (Nat.lt_of_lt_of_le (World.block_lt_of_cell? _ _ c0) hB)]; exact c0
  · rw [hb.cell (Nat.lt_of_lt_of_le (World.block_lt_of_cell? _ _ c1) hB)]; exact c1

theorem specParse (s : ByteArray) (hm : s.size ≤ maxLen) (w : World) : Calls Tryd.prog 14 #[.string s] w (ReadPost s w) := by
  go_enter Tryd.func14, Tryd.ntmps14
  go_wp2_with fail
  refine (l1Read_any s hm _).mono ?_
  rintro e w' ⟨r, rfl, hp, hb⟩
  have HP := Lib.hid hp
  have HB := Lib.hid hb
  clear hp hb
  unfold told
  go_wp2
  go_ret2
  exact ⟨r, rfl, HP.out, HB.out⟩
end Go.Proofs.YtppiocjmhlgjoaaDoor
