/-
  lettersBehind of the program and l11Behind of the model: the letters whose marks begin with some. Used by the claims on chapter 11.
-/
import Derived.Test.YthkafalpjokfeaaLtD
import Derived.Test.YthkafalpjokfeaaPieceW
import Derived.Test.YthkafalpjokfeaaSeqW
import Derived.Deep.AppendLies
import Derived.Deep.RegionWith
namespace Go.Proofs.Ythkafalpjokfeaa
open Go.RowKit
set_option linter.unusedVariables false

theorem infoIL : (Try.prog.info? 3).map (fun i => (i.zero, i.size, i.bytes)) = some (some (.int .i64 0), 1, 8) := by kernel_rfl
theorem infoL_parts {t : TypeId} {z : Value} {n k : Nat} (h : (Try.prog.info? t).map (fun i => (i.zero, i.size, i.bytes)) = some (some z, n, k)) : ∃ i, Try.prog.info? t = some i ∧ i.zero = some z ∧ i.size = n ∧ i.bytes = k := by
  cases hi : Try.prog.info? t with
  | none => rw [hi] at h; cases h
  | some i =>
    rw [hi] at h
    simp only [Option.map_some, Option.some.injEq, Prod.mk.injEq] at h
    exact ⟨i, rfl, h.1, h.2.1, h.2.2⟩
theorem cell_one_newB (w : World) (v : Value) (t : TypeId) : ∀ (j : Nat) u, [v][j]? = some u → (w.alloc (.cells #[v] t)).cell? ((⟨w.heap.size, 0, none⟩ : Addr).add j) = some u := fun j u hu => by
  rw [Addr.add_lit, World.cell?_alloc_new]
  match j, hu with
  | 0, h => simpa using h
  | j + 1, h => simp at h
theorem row_monoB {w : World} {base base' : Nat} {e : TypeId} {size : Nat} {v : Value} {n : Nat} {xs : List Value} (h : w.ownsRow base e size v n xs) (hb : base' ≤ base) : w.ownsRow base' e size v n xs := by
  refine ⟨h.1, ?_⟩
  rcases h.2 with h2 | ⟨g, cap, cur, h1, h2, h3⟩
  · exact .inl h2
  · exact .inr ⟨g, cap, cur, h1, by omega, h3⟩
theorem row_emptyB (w : World) (base : Nat) (hb : base ≤ w.heap.size) : (w.alloc (.cells #[] 3)).ownsRow base 3 1 (.slice (some ⟨w.heap.size, 0, none⟩) 0 0) 0 (ints []) :=
  World.ownsRow_made w #[] 0 hb (by unfold maxLen; omega) rfl
theorem seqOut_rowB {W W' : World} {base : Nat} {e : TypeId} {size : Nat} {v : Value} {n : Nat} {vs : List Value} (h : W'.ownsRow base e size v n vs) (hw : W.heap.size ≤ base) (hb : Below W.heap.size W W') : SeqOut vs n true W (.returned (.tuple #[v, .bool true])) W' := by
  obtain ⟨a, g, c, rfl, hs, hg, hf⟩ := seq_of_row h
  exact ⟨a, g, c, rfl, hs, fun h0 => Nat.le_trans hw (hg h0), hf, hb⟩
theorem seqOut_nothingB {W W' : World} (hb : Below W.heap.size W W') (a : Option Addr) (c : Nat) : SeqOut [] 0 false W (.returned (.tuple #[.slice a 0 c, .bool false])) W' :=
  ⟨a, W.heap.size, c, rfl, ⟨fun h => by simp at h, fun j x hx => by simp at hx⟩, fun h => by simp at h, fun j hj => by simp at hj, hb⟩
theorem ownBlock_geB {w : World} {base : Nat} {e : TypeId} {size : Nat} {v : Value} {n : Nat} {xs : List Value} (h : w.ownsRow base e size v n xs) {q : Nat} (hq : v.ownBlock = some q) : base ≤ q ∧ q < w.heap.size := h.lt q hq
theorem cell_belowB {W W' : World} {p : Addr} {v : Value} (hb : Below W.heap.size W W') (h : W.cell? p = some v) : W'.cell? p = some v := (hb.cell (World.block_lt_of_cell? _ _ h)).trans h

theorem bl_extL (x : ByteArray) (n : Nat) : bl (x.extract 0 n) = (bl x).take n := by
  rw [bl_ext, List.drop_zero]
theorem begB_take (x y : ByteArray) (h : y.size ≤ x.size) : begB x y = (bl (x.extract 0 y.size) == bl y) := by
  unfold begB
  rw [bl_ext, List.drop_zero, Bool.eq_iff_iff, List.isPrefixOf_iff_prefix, beq_iff_eq, List.prefix_iff_eq_take, bl_len]
  exact eq_comm
theorem begB_far {x y : ByteArray} (h : ¬ y.size ≤ x.size) : begB x y = false := by
  rw [Bool.eq_false_iff]
  intro e
  have := (List.isPrefixOf_iff_prefix.1 e).length_le
  rw [bl_len, bl_len] at this
  omega
theorem hasPre_any (x y : ByteArray) (w : World) (hx : x.size ≤ 1048576) (hy : y.size ≤ 1048576) :
    Calls Try.prog 109 #[.string x, .string y] w fun e w' => e = .returned (.bool (begB x y)) ∧ w' = w := by
  by_cases h : y.size ≤ x.size
  · have HR := Lib.hid (begB_take x y h)
    have h1 : (y.size : Int) ≤ (x.size : Int) := by omega
    have heq : ((x.extract 0 y.size).toList == y.toList) = begB x y := by
      rw [HR.out, ByteArray.toList_eq, ByteArray.toList_eq]; rfl
    go_enter Try.func109, Try.ntmps109
    go_wp2
    go_ret
    exact ⟨by first | rfl | rw [heq], rfl⟩
  · have HR : Hid (begB x y = false) := Lib.hid (begB_far h)
    have h1 : ¬ (y.size : Int) ≤ (x.size : Int) := by omega
    go_enter Try.func109, Try.ntmps109
    go_wp2
    go_ret
    exact ⟨by rw [HR.out]; rfl, rfl⟩

/-- Letters in memory of their own. -/
def LetsOut (l : List Nat) (W : World) (e : Ending) (W' : World) : Prop := ∃ a c, e = .returned (.slice a l.length c) ∧ W'.ownsRow W.heap.size 3 1 (.slice a l.length c) l.length (ints l) ∧ Below W.heap.size W W'

set_option maxHeartbeats 8000000 in
set_option maxRecDepth 8000 in
theorem beh_any (a : Option Addr) (b o c : Nat) (xs : List ByteArray) (s : ByteArray) (w : World) (h : ListIn w a b o xs) (hn : xs.length ≤ 10) (hs : s.size ≤ 1048576) :
    Calls Try.prog 73 #[.agg #[.slice a xs.length c], .string s] w (LetsOut (behL xs s xs.length) w) := by
  have HS := Lib.hid h
  obtain ⟨i0, hi, hz0, hz1, hz2⟩ := infoL_parts infoIL
  have HTx := Lib.hid h.texts
  clear h
  have e0 : (w.alloc (.cells #[.slice a xs.length c] 29)).heap.size = w.heap.size + 1 := by simp
  have M0 : Hid (((w.alloc (.cells #[.slice a xs.length c] 29)).alloc (Obj.cells #[] 3)).ownsRow (w.heap.size + 1) 3 1 (.slice (some ⟨w.heap.size + 1, 0, none⟩) 0 0) 0 (ints [])) := Lib.hid (by
    have := row_emptyB (w.alloc (.cells #[.slice a xs.length c] 29)) (w.heap.size + 1) (by simp)
    rw [e0] at this
    exact this)
  have hB1 := Lib.hid ((below_alloc w (.cells #[.slice a xs.length c] 29)).alloc (by simp) (Obj.cells #[] 3))
  have hc0 := keep_cell (w.alloc (.cells #[.slice a xs.length c] 29)) (Obj.cells #[] 3) (cell_new w (.slice a xs.length c) 29)
  have hsz0 : Hid (w.heap.size + 1 ≤ ((w.alloc (.cells #[.slice a xs.length c] 29)).alloc (Obj.cells #[] 3)).heap.size) := Lib.hid (by simp)
  clear e0
  go_enter Try.func73, Try.ntmps73
  go_wp2
  go_loopw [5, 12] (fun pv v wr => ∃ k : Nat, v = .int .i64 k ∧ k ≤ xs.length ∧ wr.ownsRow (w.heap.size + 1) 3 1 pv (behL xs s k).length (ints (behL xs s k)) ∧ Hid (Below w.heap.size w wr) ∧ Hid (w.heap.size + 1 ≤ wr.heap.size)) (fun _ v _ => xs.length - (intOf v).toNat)
  case atStart => exact ⟨0, rfl, Nat.zero_le _, M0.out, hB1, hsz0⟩
  case round =>
    obtain ⟨k, rfl, hk, hown, HB, HZ⟩ := hrel
    obtain ⟨av, capv, rfl⟩ := row_form hown
    by_cases hlt : k < xs.length
    · obtain rfl := HS.out.src.1 (by omega)
      have hcell := (HS.out.below HB.out).src.2 k _ (List.getElem?_eq_getElem hlt)
      have HX := Lib.hid (atL_eq (List.getElem?_eq_getElem hlt))
      have hxz := HTx.out _ (List.getElem_mem hlt)
      generalize xs[k] = x at hcell HX hxz
      have HSn := Lib.hid (behL_succ xs s k)
      rw [HX.out] at HSn
      have HP := Lib.hid fun w => hasPre_any x s w hxz hs
      have hpl := behL_le xs s k
      have HOw := Lib.hid hown
      generalize behL xs s k = ps at HOw HSn hpl
      generalize begB x s = q at HP HSn
      clear hown hc0
      have k1 : (0 : Int) ≤ (k : Int) := by omega
      have k2 : (k : Int) < (xs.length : Int) := by omega
      have hszr := HZ.out
      cases q with
      | true =>
        have HE : Hid (behL xs s (k + 1) = ps ++ [k]) := Lib.hid (by rw [HSn.out, if_pos rfl])
        have HLt : Hid (∀ q, (Value.slice av ps.length capv).ownBlock = some q → w.heap.size + 1 ≤ q) := Lib.hid fun q e => (ownBlock_geB HOw.out e).1
        clear HSn
        go_wp2_with fail
        refine (HP.out _).mono ?_
        rintro e w5 ⟨rfl, hww⟩
        obtain rfl := hww.symm
        go_wp2_with (first | (at_builtin; refine wpList_append_lies _ rfl _ _ 25 rfl (w.heap.size + 1) 3 i0 (.int .i64 0) 1 8 Try.underlying25 hi hz0 hz1 hz2 rfl (by decide) (.slice av ps.length capv) ps.length (ints ps) rfl (HOw.out.alloc _) ⟨wr.heap.size, 0, none⟩ 1 1 [.int .i64 (k : Int)] rfl rfl (cell_one_newB _ _ _) (by simp [Value.oneCell']) (by omega) (by unfold maxLen; omega) (by omega) (by simp; omega) (wr.heap.size + 1) (by simp) ?_; intro gg capg w4 hown4 hgrow4 hat4 hglt4) | go_in)
        have HW4 : Hid (w4.ownsRow (w.heap.size + 1) 3 1 (.slice (some ⟨gg, 0, none⟩) (ps.length + 1) capg) (behL xs s (k + 1)).length (ints (behL xs s (k + 1)))) := Lib.hid (by rw [HE.out, ints_snoc]; simpa using hown4)
        have HB4 : Hid (Below w.heap.size w w4) := Lib.hid ((HB.out.alloc HB.out.size _).grown hgrow4 (by have := HB.out.size; simp; omega) (fun q e => by have := HLt.out q e; omega))
        have HZ4 : Hid (w.heap.size + 1 ≤ w4.heap.size) := Lib.hid (Nat.le_trans hszr (Nat.le_trans (by simp) hgrow4.size))
        clear hown4 hgrow4 hat4 hglt4
        go_wp2
        go_roundw
        case rel => exact ⟨k + 1, by go_num, by omega, HW4.out, HB4, HZ4⟩
        case measure => simp [intOf]; omega
      | false =>
        have HE : Hid (behL xs s (k + 1) = ps) := Lib.hid (by rw [HSn.out]; simp)
        have HW4 : Hid (wr.ownsRow (w.heap.size + 1) 3 1 (.slice av ps.length capv) (behL xs s (k + 1)).length (ints (behL xs s (k + 1)))) := Lib.hid (by rw [HE.out]; exact HOw.out)
        clear HSn
        go_wp2_with fail
        refine (HP.out _).mono ?_
        rintro e w5 ⟨rfl, hww⟩
        obtain rfl := hww.symm
        go_wp2
        go_roundw
        case rel => exact ⟨k + 1, by go_num, by omega, HW4.out, HB, HZ⟩
        case measure => simp [intOf]; omega
    · obtain rfl : k = xs.length := by omega
      have HO3 := Lib.hid (row_monoB hown (Nat.le_succ w.heap.size))
      clear hown
      go_wp2
      go_ret
      exact ⟨av, capv, rfl, HO3.out, HB.out⟩
end Go.Proofs.Ythkafalpjokfeaa
