/-
  MeanHeard of the program and of the model; both answer alike. Used by the claims on chapter 11.
-/
import Derived.Test.YthkafalpjokfeaaMnS
import Derived.Test.YthkafalpjokfeaaHdS
import Derived.Shelf.Abstract
namespace Go.Proofs.Ythkafalpjokfeaa
open Go.RowKit Go.Shelf
set_option linter.unusedVariables false

def hrF (xs : List ByteArray) (k : Nat) : Nat := if tableB xs = true then min (hrd xs (atL xs k)) 19 else 0
theorem hrF_at {xs : List ByteArray} (ht : tableB xs = true) {k : Nat} (hk : k < xs.length) : hrF xs k = hrd xs (atL xs k) ∧ (atL xs k).size ≤ 5 := by
  have e := atL_eq (List.getElem?_eq_getElem hk)
  have h5 := ((tableB_iff xs).1 ht).2.1 _ (List.getElem_mem hk)
  rw [← e] at h5
  simp only [marksL, Bool.and_eq_true, decide_eq_true_eq, bl_len] at h5
  have := hrd_le xs (atL xs k)
  unfold hrF
  rw [if_pos ht]
  exact ⟨by omega, h5.1.2⟩
theorem hrF_le (xs : List ByteArray) (k : Nat) : hrF xs k ≤ 19 := by
  unfold hrF
  split <;> omega
theorem way_heard (a : Option Addr) (b o c : Nat) (xs : List ByteArray) (a1 : Option Addr) (g1 : Nat) (l : List Int) (w : World) (h : ListIn w a b o xs) (hs : SrcV w a1 g1 (intz l)) :
    Way (fun W => Below w.heap.size w W) w.heap.size 83 (.agg #[.slice a xs.length c]) 78 (hrF xs) a b o xs a1 g1 l where
  grow := fun W W' h1 h2 => h1.trans (h2.mono h1.size)
  set := fun W p u h1 hp => h1.setCell hp u
  src := fun W h1 => ⟨h.below h1, hs.below h1⟩
  meth := fun W => by kernel_rfl
  ent := fun args W => enters_of Try.func78 (by kernel_rfl) rfl args W
  bound := hrF_le xs
  call := fun ht k W hI h0 hk => by
    obtain ⟨e1, h5⟩ := hrF_at ht hk
    rw [e1]
    exact (steps_any a b o c xs k W (h.below hI) ((tableB_iff xs).1 ht).1.2 hk h5).mono fun e W' hh => ⟨hh.1, hI.trans (hh.2.mono hI.size), Below.keep hh.2⟩

set_option maxHeartbeats 2000000 in
theorem meanHeard_any (a : Option Addr) (b o c : Nat) (xs : List ByteArray) (a1 : Option Addr) (g1 c1 : Nat) (l : List Int) (w : World) (h : ListIn w a b o xs) (hs : SrcV w a1 g1 (intz l)) (hl : l.length ≤ 1048576) :
    Calls Try.prog 32 #[.agg #[.slice a xs.length c], .slice a1 l.length c1] w fun e w' => e = .returned (.tuple #[.agg #[.int .i64 (((mnR (hrF xs) xs l).1 : Nat) : Int), .int .i64 (((mnR (hrF xs) xs l).2 : Nat) : Int)], .bool (mnOk xs l)]) ∧ Below w.heap.size w w' := by
  have G := Lib.hid fun W (hb : Below w.heap.size w W) => meanOf_any a b o c xs a1 g1 c1 l W (way_heard a b o c xs a1 g1 l w h hs) hb hb.size hl
  have e0 : (w.alloc (.cells #[.slice a xs.length c] 29)).heap.size = w.heap.size + 1 := by simp
  have HT0 : Hid (Two ((w.alloc (.cells #[.slice a xs.length c] 29)).alloc (.cells #[.int .i64 0, .int .i64 0] 43)) (w.heap.size + 1) 0 0) := Lib.hid (by
    have := two_new (w.alloc (.cells #[.slice a xs.length c] 29)) 0 0
    rw [e0] at this
    exact this)
  have HB0 := Lib.hid ((below_alloc w (.cells #[.slice a xs.length c] 29)).alloc (by simp) (.cells #[.int .i64 0, .int .i64 0] 43))
  have hk0 := keep_cell _ (.cells #[.int .i64 0, .int .i64 0] 43) (cell_new w (.slice a xs.length c) 29)
  clear e0 h hs
  generalize (mnR (hrF xs) xs l).1 = r1 at G ⊢
  generalize (mnR (hrF xs) xs l).2 = r2 at G ⊢
  generalize mnOk xs l = ok at G ⊢
  go_enter Try.func32, Try.ntmps32
  go_wp2_with fail
  generalize (w.alloc (.cells #[.slice a xs.length c] 29)).alloc (.cells #[.int .i64 0, .int .i64 0] 43) = W0 at *
  with_reducible refine (G.out _ HB0.out).mono ?_
  rintro e w1 ⟨rfl, hb, hk⟩
  have HB1 := Lib.hid hb
  have HT1 := Lib.hid (hk.two (Nat.le_succ _) HT0.out)
  have hT := HT1.out
  have f0 := hT.frozen 0
  have f1 := hT.frozen 1
  have k0 := hT.cell0
  have k1 := hT.cell1
  clear hT hb hk hk0
  go_wp2
  refine bodyPost_ret (res_two rfl _ rfl ((HT1.out.set0 _).set1 _)) rfl ?_
  exact ⟨rfl, (HB1.out.setCell (p := ⟨w.heap.size + 1, 0, none⟩) (by simp) _).setCell (p := ⟨w.heap.size + 1, 1, none⟩) (by simp) _⟩

/-! ### The model's -/
def hrL (xs : List ByteArray) (k : Nat) : List Nat := (List.range k).map (hrF xs)
theorem hrL_snoc (xs : List ByteArray) (k : Nat) : hrL xs (k + 1) = hrL xs k ++ [hrF xs k] := by unfold hrL; rw [List.range_succ, List.map_append]; rfl
theorem hrL_len (xs : List ByteArray) (k : Nat) : (hrL xs k).length = k := by unfold hrL; rw [List.length_map, List.length_range]
theorem hrL_at (xs : List ByteArray) (n k : Nat) (hk : k < (hrL xs n).length) : (hrL xs n)[k] = hrF xs k := by simp [hrL]
set_option maxHeartbeats 8000000 in
set_option maxRecDepth 8000 in
theorem sMeanHeard_any (a : Option Addr) (b o c : Nat) (xs : List ByteArray) (a1 : Option Addr) (g1 c1 : Nat) (l : List Int) (w : World) (h : ListIn w a b o xs) (hs : SrcV w a1 g1 (intz l)) (hl : l.length ≤ 1048576) :
    Calls Try.prog 31 #[.agg #[.slice a xs.length c], .slice a1 l.length c1] w fun e w' => e = .returned (.tuple #[.agg #[.int .i64 (((mnR (hrF xs) xs l).1 : Nat) : Int), .int .i64 (((mnR (hrF xs) xs l).2 : Nat) : Int)], .bool (mnOk xs l)]) ∧ Below w.heap.size w w' := by
  have F := Lib.hid fun W hb => stable_any a b o c xs W (h.below (w' := W) hb)
  have e0 : (w.alloc (.cells #[.slice a xs.length c] 29)).heap.size = w.heap.size + 1 := by simp
  have HT0 : Hid (Two ((w.alloc (.cells #[.slice a xs.length c] 29)).alloc (.cells #[.int .i64 0, .int .i64 0] 43)) (w.heap.size + 1) 0 0) := Lib.hid (by
    have := two_new (w.alloc (.cells #[.slice a xs.length c] 29)) 0 0
    rw [e0] at this
    exact this)
  have HB0 := Lib.hid ((below_alloc w (.cells #[.slice a xs.length c] 29)).alloc (by simp) (.cells #[.int .i64 0, .int .i64 0] 43))
  have hk0 := keep_cell _ (.cells #[.int .i64 0, .int .i64 0] 43) (cell_new w (.slice a xs.length c) 29)
  clear e0
  cases ht : tableB xs with
  | false =>
    have HO : Hid (mnOk xs l = false) := Lib.hid (by unfold mnOk fitB; rw [ht]; rfl)
    have HP := Lib.hid (mn_no (f := hrF xs) HO.out)
    rw [HO.out, HP.out]
    rw [ht] at F
    clear h hs ht HO HP
    go_enter Try.func31, Try.ntmps31
    go_wp2_with fail
    generalize (w.alloc (.cells #[.slice a xs.length c] 29)).alloc (.cells #[.int .i64 0, .int .i64 0] 43) = W0 at *
    with_reducible refine (F.out _ HB0.out).mono ?_
    rintro e w1 ⟨rfl, hb⟩
    have HB1 := Lib.hid (HB0.out.trans (hb.mono HB0.out.size))
    have HT1 := Lib.hid (HT0.out.below hb)
    have hT := HT1.out
    have f0 := hT.frozen 0
    have f1 := hT.frozen 1
    have k0 := hT.cell0
    have k1 := hT.cell1
    clear hT hb hk0
    go_wp2
    refine bodyPost_ret (res_two rfl _ rfl ((HT1.out.set0 _).set1 _)) rfl ?_
    exact ⟨rfl, (HB1.out.setCell (p := ⟨w.heap.size + 1, 0, none⟩) (by simp) _).setCell (p := ⟨w.heap.size + 1, 1, none⟩) (by simp) _⟩
  | true =>
    have hn10 := ((tableB_iff xs).1 ht).1.2
    have HH := Lib.hid fun k (hk : k < xs.length) W hb => sHeard_any a b o c xs k W (h.below (w' := W) hb) hn10 hk (hrF_at ht hk).2
    have HHe := Lib.hid fun k (hk : k < xs.length) => (hrF_at ht hk).1
    have HMe := Lib.hid fun (ns : List Nat) (h1 : ns.length = xs.length) (h2 : ∀ k (hk : k < ns.length), ns[k] = hrF xs k) a2 g2 c2 W (h3 : SrcV W a2 g2 (ints ns)) (hb : Below w.heap.size w W) => sMean_any (hrF xs) xs ns a2 g2 c2 a1 g1 c1 l W ht h1 h2 (hrF_le xs) h3 (hs.below hb) hl
    obtain ⟨i0, hi, hz0, hz1, hz2⟩ := infoL_parts infoIL
    rw [ht] at F
    clear h hs ht
    generalize hr1 : (mnR (hrF xs) xs l).1 = r1 at HMe ⊢
    generalize hr2 : (mnR (hrF xs) xs l).2 = r2 at HMe ⊢
    generalize hr3 : mnOk xs l = ok at HMe ⊢
    clear hr1 hr2 hr3
    go_enter Try.func31, Try.ntmps31
    go_wp2_with fail
    generalize (w.alloc (.cells #[.slice a xs.length c] 29)).alloc (.cells #[.int .i64 0, .int .i64 0] 43) = W0 at *
    with_reducible refine (F.out _ HB0.out).mono ?_
    rintro e w1 ⟨rfl, hb⟩
    have HT1 := Lib.hid ((HT0.out.below hb).below (below_alloc w1 (Obj.cells #[] 3)))
    have hz1' : w.heap.size + 2 ≤ w1.heap.size := by
      have h1 := (Array.getElem?_eq_some_iff.1 HT0.out).1
      have h2 := hb.size
      omega
    have HB1 := Lib.hid ((HB0.out.trans (hb.mono HB0.out.size)).alloc (by omega) (Obj.cells #[] 3))
    have hk1 := keep_cell w1 (Obj.cells #[] 3) (cell_belowB hb hk0)
    have HR1 := Lib.hid (row_emptyB w1 (w.heap.size + 2) hz1')
    have HZ1 : Hid (w.heap.size + 2 ≤ (w1.alloc (Obj.cells #[] 3)).heap.size) := Lib.hid (by simp; omega)
    clear hb hk0 hz1'
    go_wp2
    go_loopw [6, 7] (fun pv v wr => ∃ k : Nat, v = .int .i64 k ∧ k ≤ xs.length ∧ wr.ownsRow (w.heap.size + 2) 3 1 pv (hrL xs k).length (ints (hrL xs k)) ∧ wr.cell? ⟨w.heap.size, 0, none⟩ = some (.slice a xs.length c) ∧ Hid (Two wr (w.heap.size + 1) 0 0) ∧ Hid (Below w.heap.size w wr) ∧ Hid (w.heap.size + 2 ≤ wr.heap.size)) (fun _ v _ => xs.length - (intOf v).toNat)
    case atStart => exact ⟨0, rfl, Nat.zero_le _, HR1.out, hk1, HT1, HB1, HZ1⟩
    case round =>
      clear hk1
      obtain ⟨k, rfl, hk, hown, hc, HT, HB, HZ⟩ := hrel
      obtain ⟨av, capv, rfl⟩ := row_form hown
      by_cases hlt : k < xs.length
      · have G := Lib.hid (HH.out k hlt wr HB.out)
        rw [← HHe.out k hlt] at G
        have HSn := Lib.hid (hrL_snoc xs k)
        have hpl := hrL_len xs k
        have HOw := Lib.hid hown
        generalize hrL xs k = ps at HOw HSn hpl
        generalize hrF xs k = q at G HSn
        clear hown
        have hszr := HZ.out
        have hpl2 : ps.length ≤ 10 := by omega
        clear hpl
        go_wp2_with fail
        refine (G.out).mono ?_
        rintro e w2 ⟨rfl, hb2⟩
        have hc2 := cell_belowB hb2 hc
        have HT2 := Lib.hid (HT.out.below hb2)
        have HB2 := Lib.hid (HB.out.trans (hb2.mono HB.out.size))
        have hsz2 : w.heap.size + 2 ≤ w2.heap.size := Nat.le_trans hszr hb2.size
        have HO2 := Lib.hid (row_below HOw.out hb2)
        have HLt : Hid (∀ q, (Value.slice av ps.length capv).ownBlock = some q → w.heap.size + 2 ≤ q) := Lib.hid fun q e => (ownBlock_geB HO2.out e).1
        clear hb2 hc
        go_wp2_with (first | (at_builtin; refine wpList_append_lies _ rfl _ _ 25 rfl (w.heap.size + 2) 3 i0 (.int .i64 0) 1 8 Try.underlying25 hi hz0 hz1 hz2 rfl (by decide) (.slice av ps.length capv) ps.length (ints ps) rfl (HO2.out.alloc _) ⟨w2.heap.size, 0, none⟩ 1 1 [.int .i64 (q : Int)] rfl rfl (cell_one_newB _ _ _) (by simp [Value.oneCell']) (by omega) (by unfold maxLen; omega) (by omega) (by simp; omega) (w2.heap.size + 1) (by simp) ?_; intro gg capg w4 hown4 hgrow4 hat4 hglt4) | go_in)
        have HW4 : Hid (w4.ownsRow (w.heap.size + 2) 3 1 (.slice (some ⟨gg, 0, none⟩) (ps.length + 1) capg) (hrL xs (k + 1)).length (ints (hrL xs (k + 1)))) := Lib.hid (by rw [HSn.out, ints_snoc]; simpa using hown4)
        have HB4 : Hid (Below w.heap.size w w4) := Lib.hid ((HB2.out.alloc HB2.out.size _).grown hgrow4 (by have := HB2.out.size; simp; omega) (fun q e => by have := HLt.out q e; omega))
        have hc4 : w4.cell? ⟨w.heap.size, 0, none⟩ = some (.slice a xs.length c) := (World.cell?_of_block (a := ⟨w.heap.size, 0, none⟩) (hgrow4.block w.heap.size (by simp; omega) (fun e => by have := HLt.out _ e.symm; omega))).trans (keep_cell _ _ hc2)
        have HT4 : Hid (Two w4 (w.heap.size + 1) 0 0) := Lib.hid ((hgrow4.block (w.heap.size + 1) (by simp; omega) (fun e => by have := HLt.out _ e.symm; omega)).trans (HT2.out.below (below_alloc w2 _)))
        have HZ4 : Hid (w.heap.size + 2 ≤ w4.heap.size) := Lib.hid (Nat.le_trans hsz2 (Nat.le_trans (by simp) hgrow4.size))
        clear hown4 hgrow4 hat4 hglt4 hc2
        go_wp2
        go_roundw
        case rel => exact ⟨k + 1, by go_num, by omega, HW4.out, hc4, HT4, HB4, HZ4⟩
        case measure => simp [intOf]; omega
      · obtain rfl : k = xs.length := by omega
        obtain ⟨a9, g9, c9, h9, hsrc, _, _⟩ := seq_of_row hown
        injection h9 with h91 h92 h93
        subst h91 h93
        have G := Lib.hid (HMe.out (hrL xs xs.length) (hrL_len xs _) (fun k hk => hrL_at xs _ k hk) av g9 capv wr hsrc HB.out)
        clear hown hsrc h92
        go_wp2_with fail
        refine (G.out).mono ?_
        rintro e w2 ⟨rfl, hb⟩
        have HB2 := Lib.hid (HB.out.trans (hb.mono HB.out.size))
        have HT2 := Lib.hid (HT.out.below hb)
        have hT := HT2.out
        have f0 := hT.frozen 0
        have f1 := hT.frozen 1
        have k0 := hT.cell0
        have k1 := hT.cell1
        clear hT hb hc
        go_wp2
        refine bodyPost_ret (res_two rfl _ rfl ((HT2.out.set0 _).set1 _)) rfl ?_
        exact ⟨rfl, (HB2.out.setCell (p := ⟨w.heap.size + 1, 0, none⟩) (by simp) _).setCell (p := ⟨w.heap.size + 1, 1, none⟩) (by simp) _⟩
theorem meanHeard_both (xs : List ByteArray) (l : List Int) (hxl : xs.length ≤ 1048576) (hxt : ∀ x ∈ xs, x.size ≤ 1048576) (hl : l.length ≤ 1048576) : ∃ (R0 R2 : Int) (R1 : Bool),
    Hid (∀ W a b o c, ListIn W a b o xs → ∀ a1 g1 c1, SrcV W a1 g1 (intz l) → Calls Try.prog 31 #[.agg #[.slice a xs.length c], .slice a1 l.length c1] W fun e W' => e = .returned (.tuple #[.agg #[.int .i64 R0, .int .i64 R2], .bool R1]) ∧ Below W.heap.size W W') ∧
    Hid (∀ W a b o c, ListIn W a b o xs → ∀ a1 g1 c1, SrcV W a1 g1 (intz l) → Calls Try.prog 32 #[.agg #[.slice a xs.length c], .slice a1 l.length c1] W fun e W' => e = .returned (.tuple #[.agg #[.int .i64 R0, .int .i64 R2], .bool R1]) ∧ Below W.heap.size W W') :=
  ⟨_, _, _, fun W a b o c h a1 g1 c1 hs => sMeanHeard_any a b o c xs a1 g1 c1 l W h hs hl, fun W a b o c h a1 g1 c1 hs => meanHeard_any a b o c xs a1 g1 c1 l W h hs hl⟩
end Go.Proofs.Ythkafalpjokfeaa
