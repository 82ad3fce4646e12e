/-
  l6Nearest and NearestLetters of the model, NearestLetters of the program: the letters with the least distance from some marks. Used by the claims on chapter 6.
-/
import Derived.Test.YtgdiffdpjpkleaaLbdW
import Derived.Test.YtgdiffdpjpkleaaSTableW
import Derived.Test.YtgdiffdpjpkleaaTableW
import Derived.Test.YtgdiffdpjpkleaaSeqW
namespace Go.Proofs.Ytgdiffdpjpkleaa
open Go.RowKit Go.Maps
set_option linter.unusedVariables false

theorem marks5 {xs : List ByteArray} (h : tableB xs = true) : ∀ x ∈ xs, x.size ≤ 5 := fun x hx => (marksL_size (((tableB_iff xs).1 h).2.1 x hx)).2
theorem table_le {xs : List ByteArray} (h : tableB xs = true) : 1 ≤ xs.length ∧ xs.length ≤ 10 := by have := ((tableB_iff xs).1 h).1; omega
theorem table_nodup {xs : List ByteArray} (h : tableB xs = true) : xs.Nodup := ((tableB_iff xs).1 h).2.2
theorem farB_le {xs : List ByteArray} {s : ByteArray} (h5 : ∀ x ∈ xs, x.size ≤ 5) (hs : s.size ≤ 5) {i : Nat} (hi : i < xs.length) : farB xs s i ≤ 5 := by
  have h1 := h5 _ (atB_mem hi)
  have h2 := dist_le (bl s) (bl (atB xs i))
  rw [bl_len, bl_len] at h2
  unfold farB
  omega
/-- The least number so far, as the model keeps it. -/
def leastZ (f : Nat → Nat) (k : Nat) : Int := if k = 0 then -1 else (minOn f (List.range k) : Int)
theorem row_empty (w : World) (base : Nat) (hb : base ≤ w.heap.size) : (w.alloc (.cells #[] 3)).ownsRow base 3 1 (.slice (some ⟨w.heap.size, 0, none⟩) 0 0) 0 (ints []) :=
  World.ownsRow_made (base := base) (e := 3) (size := 1) w #[] 0 hb (by unfold maxLen; omega) rfl
def Near (xs : List ByteArray) (s : ByteArray) (w : World) (e : Ending) (w' : World) : Prop :=
  ∃ v, e = .returned (.tuple #[v, .int .i64 (minOn (farB xs s) (List.range xs.length) : Int)]) ∧ w'.ownsRow w.heap.size 3 1 v (nearOn (farB xs s) (List.range xs.length)).length (ints (nearOn (farB xs s) (List.range xs.length))) ∧ Below w.heap.size w w'

set_option maxHeartbeats 8000000 in
set_option maxRecDepth 8000 in
theorem sNearest_any (a : Option Addr) (b o c : Nat) (xs : List ByteArray) (s : ByteArray) (w : World) (h : ListIn w a b o xs) (ht : tableB xs = true) (hs : s.size ≤ 5) :
    Calls Try.prog 81 #[.agg #[.slice a xs.length c], .string s] w (Near xs s w) := by
  have HS := Lib.hid h
  have H5 := Lib.hid (marks5 ht)
  have hl := (table_le ht).2
  have hl1 := (table_le ht).1
  obtain ⟨i0, hi, hz0, hz1, hz2⟩ := info_parts infoI
  clear h ht
  have e0 : (w.alloc (.cells #[.slice a xs.length c] 32)).heap.size = w.heap.size + 1 := by simp
  have M0 : Hid (((w.alloc (.cells #[.slice a xs.length c] 32)).alloc (Obj.cells #[] 3)).ownsRow (w.heap.size + 1) 3 1 (.slice (some ⟨w.heap.size + 1, 0, none⟩) 0 0) 0 (ints [])) := Lib.hid (by
    have := row_empty (w.alloc (.cells #[.slice a xs.length c] 32)) (w.heap.size + 1) (by simp)
    rw [e0] at this
    exact this)
  have hB1 := Lib.hid ((below_alloc w (.cells #[.slice a xs.length c] 32)).alloc (by simp) (Obj.cells #[] 3))
  have hc0 := keep_cell (w.alloc (.cells #[.slice a xs.length c] 32)) (Obj.cells #[] 3) (cell_new w (.slice a xs.length c) 32)
  have hsz0 : Hid (w.heap.size + 1 ≤ ((w.alloc (.cells #[.slice a xs.length c] 32)).alloc (Obj.cells #[] 3)).heap.size) := Lib.hid (by simp)
  go_enter Try.func81, Try.ntmps81
  go_wp2
  go_loopw [6, 7, 8] (fun pv u v wr => ∃ k : Nat, v = .int .i64 k ∧ k ≤ xs.length ∧ u = .int .i64 (leastZ (farB xs s) k) ∧ wr.ownsRow (w.heap.size + 1) 3 1 pv (nearOn (farB xs s) (List.range k)).length (ints (nearOn (farB xs s) (List.range k))) ∧ wr.cell? ⟨w.heap.size, 0, none⟩ = some (.slice a xs.length c) ∧ Hid (Below w.heap.size w wr) ∧ Hid (w.heap.size + 1 ≤ wr.heap.size)) (fun _ _ v _ => xs.length - (intOf v).toNat)
  case atStart => exact ⟨0, rfl, Nat.zero_le _, rfl, M0.out, hc0, hB1, hsz0⟩
  case round =>
    obtain ⟨k, rfl, hk, rfl, hown, hc1, HB, HZ⟩ := hrel
    by_cases hlt : k < xs.length
    · obtain rfl := HS.out.src.1 (by omega)
      have hcell := (HS.out.below HB.out).src.2 k _ (List.getElem?_eq_getElem hlt)
      have HX := Lib.hid (atB_eq (List.getElem?_eq_getElem hlt))
      have hx5 := H5.out _ (List.getElem_mem hlt)
      generalize xs[k] = x at hcell HX hx5
      have HFd : Hid (farB xs s k = dist (bl x) (bl s)) := Lib.hid (by unfold farB; rw [HX.out]; exact dist_comm _ _)
      have hd5 : farB xs s k ≤ 5 := farB_le H5.out hs hlt
      have HDs := Lib.hid fun W => sDistance_any x s W hx5 hs
      rw [← HFd.out] at HDs
      have hi1 : (0 : Int) ≤ (k : Int) := by omega
      have hi2 : (k : Int) < (xs.length : Int) := by omega
      have HNl : Hid ((farB xs s k < minOn (farB xs s) (List.range k) ∨ k = 0) → nearOn (farB xs s) (List.range (k + 1)) = [k] ∧ leastZ (farB xs s) (k + 1) = (farB xs s k : Int)) := Lib.hid fun hh => by
        have h9 : farB xs s k < minOn (farB xs s) (List.range k) := by
          rcases hh with h | h
          · exact h
          · subst h; rw [List.range_zero, minOn_nil]; omega
        unfold leastZ
        rw [List.range_succ, if_neg (Nat.succ_ne_zero k)]
        have := nearOn_less h9
        exact ⟨this.1, by rw [this.2]⟩
      have HNs : Hid (k ≠ 0 → farB xs s k = minOn (farB xs s) (List.range k) → nearOn (farB xs s) (List.range (k + 1)) = nearOn (farB xs s) (List.range k) ++ [k] ∧ leastZ (farB xs s) (k + 1) = (farB xs s k : Int)) := Lib.hid fun h0 hh => by
        unfold leastZ
        rw [List.range_succ, if_neg (Nat.succ_ne_zero k)]
        have := nearOn_same hh
        exact ⟨this.1, by rw [this.2, hh]⟩
      have HNm : Hid (k ≠ 0 → minOn (farB xs s) (List.range k) < farB xs s k → nearOn (farB xs s) (List.range (k + 1)) = nearOn (farB xs s) (List.range k) ∧ leastZ (farB xs s) (k + 1) = (minOn (farB xs s) (List.range k) : Int)) := Lib.hid fun h0 hh => by
        unfold leastZ
        rw [List.range_succ, if_neg (Nat.succ_ne_zero k)]
        have := nearOn_more hh
        exact ⟨this.1, by rw [this.2]⟩
      have HLz : Hid (leastZ (farB xs s) k = if k = 0 then -1 else (minOn (farB xs s) (List.range k) : Int)) := Lib.hid rfl
      have hle := nearOn_le (farB xs s) (List.range k)
      rw [List.length_range] at hle
      obtain ⟨av, capv, rfl⟩ := row_form hown
      have HOw := Lib.hid hown
      generalize farB xs s k = d0 at HDs hd5 HNl HNs HNm
      generalize hyy : nearOn (farB xs s) (List.range k) = ys at HOw hle HNs HNm
      generalize hmm0 : minOn (farB xs s) (List.range k) = m0 at HNl HNs HNm HLz
      generalize leastZ (farB xs s) k = lz at HLz
      rw [hyy] at hown
      clear hyy hmm0 HFd
      have HLt : Hid (∀ q, (Value.slice av ys.length capv).ownBlock = some q → w.heap.size + 1 ≤ q ∧ q < wr.heap.size) := Lib.hid HOw.out.lt
      clear hown
      by_cases hk0 : k = 0
      · have HE := Lib.hid (HNl.out (.inr hk0))
        obtain rfl : lz = -1 := by rw [HLz.out, if_pos hk0]
        clear HLz hk0
        have t1 : decide ((-1 : Int) < 0) = true := by decide
        go_wp2_with fail
        refine (HDs.out _).mono ?_
        rintro e w1 ⟨rfl, hb1⟩
        have HOw1 := Lib.hid (row_below HOw.out hb1)
        have hc1' := (hb1.cell (p := ⟨w.heap.size, 0, none⟩) (Nat.lt_of_lt_of_le (Nat.lt_succ_self _) HZ.out)).trans hc1
        have HB1 := Lib.hid (HB.out.trans (hb1.mono HB.out.size))
        have hsz1 : w.heap.size + 1 ≤ w1.heap.size := Nat.le_trans HZ.out hb1.size
        have HLt1 : Hid (∀ q, (Value.slice av ys.length capv).ownBlock = some q → w.heap.size + 1 ≤ q ∧ q < w1.heap.size) := Lib.hid fun q e => ⟨(HLt.out q e).1, Nat.lt_of_lt_of_le (HLt.out q e).2 hb1.size⟩
        clear hb1 hcell hc1
        have HR0 := Lib.hid (row_empty w1 (w.heap.size + 1) hsz1)
        have hc2 := keep_cell w1 (Obj.cells #[] 3) hc1'
        have HB2 := Lib.hid (HB1.out.alloc HB1.out.size (Obj.cells #[] 3))
        have e1 : (w1.alloc (Obj.cells #[] 3)).heap.size = w1.heap.size + 1 := by simp
        have HNW := Lib.hid (cell_one_new (w1.alloc (Obj.cells #[] 3)) (.int .i64 (k : Int)) 3)
        rw [e1] at HNW
        go_wp2_with (first | (at_builtin; refine wpList_append_lies _ rfl _ _ 29 rfl (w.heap.size + 1) 3 i0 (.int .i64 0) 1 8 Try.underlying29 hi hz0 hz1 hz2 rfl (by decide) (.slice (some ⟨w1.heap.size, 0, none⟩) 0 0) 0 (ints ([] : List Nat)) rfl (HR0.out.alloc _) ⟨(w1.heap.size + 1), 0, none⟩ 1 1 [.int .i64 (k : Int)] rfl rfl HNW.out (by simp [Value.oneCell']) (by omega) (by unfold maxLen; omega) (by omega) (by simp; omega) ((w1.heap.size + 1) + 1) (by simp) ?_; intro gg capg w4 hown4 hgrow4 hat4 hglt4) | go_in)
        have HW4 : Hid (w4.ownsRow (w.heap.size + 1) 3 1 (.slice (some ⟨gg, 0, none⟩) 1 capg) [k].length (ints [k])) := Lib.hid (by simpa [ints] using hown4)
        have hc4 := (World.cell?_of_block (w := (w1.alloc (Obj.cells #[] 3)).alloc (.cells #[.int .i64 (k : Int)] 3)) (a := ⟨w.heap.size, 0, none⟩) (hgrow4.block w.heap.size (by simp; omega) (by simp [Value.ownBlock]; omega))).trans (keep_cell _ _ hc2)
        have HB4 : Hid (Below w.heap.size w w4) := Lib.hid ((HB2.out.alloc HB2.out.size _).grown hgrow4 (by have := HB1.out.size; simp; omega) (fun q e => by simp [Value.ownBlock] at e; omega))
        have HZ4 : Hid (w.heap.size + 1 ≤ w4.heap.size) := Lib.hid (Nat.le_trans hsz1 (Nat.le_trans (by simp; omega) hgrow4.size))
        clear hown4 hgrow4 hat4 hglt4 hc2 e1 hc1'
        go_wp2
        go_roundw
        case rel => exact ⟨k + 1, by go_num, by omega, by rw [HE.out.2], by rw [HE.out.1]; exact HW4.out, hc4, HB4, HZ4⟩
        case measure => simp [intOf]; omega
      · obtain rfl : lz = (m0 : Int) := by rw [HLz.out, if_neg hk0]
        clear HLz
        have t1 : decide ((m0 : Int) < 0) = false := decide_eq_false (by omega)
        have t1' : ¬ (m0 : Int) < 0 := by omega
        by_cases hdm : d0 < m0
        · have HE := Lib.hid (HNl.out (.inl hdm))
          have t2 : (d0 : Int) < (m0 : Int) := by omega
          go_wp2_with fail
          refine (HDs.out _).mono ?_
          rintro e w1 ⟨rfl, hb1⟩
          have HOw1 := Lib.hid (row_below HOw.out hb1)
          have hc1' := (hb1.cell (p := ⟨w.heap.size, 0, none⟩) (Nat.lt_of_lt_of_le (Nat.lt_succ_self _) HZ.out)).trans hc1
          have HB1 := Lib.hid (HB.out.trans (hb1.mono HB.out.size))
          have hsz1 : w.heap.size + 1 ≤ w1.heap.size := Nat.le_trans HZ.out hb1.size
          have HLt1 : Hid (∀ q, (Value.slice av ys.length capv).ownBlock = some q → w.heap.size + 1 ≤ q ∧ q < w1.heap.size) := Lib.hid fun q e => ⟨(HLt.out q e).1, Nat.lt_of_lt_of_le (HLt.out q e).2 hb1.size⟩
          clear hb1 hcell hc1
          have HR0 := Lib.hid (row_empty w1 (w.heap.size + 1) hsz1)
          have hc2 := keep_cell w1 (Obj.cells #[] 3) hc1'
          have HB2 := Lib.hid (HB1.out.alloc HB1.out.size (Obj.cells #[] 3))
          have e1 : (w1.alloc (Obj.cells #[] 3)).heap.size = w1.heap.size + 1 := by simp
          have HNW := Lib.hid (cell_one_new (w1.alloc (Obj.cells #[] 3)) (.int .i64 (k : Int)) 3)
          rw [e1] at HNW
          go_wp2_with (first | (at_builtin; refine wpList_append_lies _ rfl _ _ 29 rfl (w.heap.size + 1) 3 i0 (.int .i64 0) 1 8 Try.underlying29 hi hz0 hz1 hz2 rfl (by decide) (.slice (some ⟨w1.heap.size, 0, none⟩) 0 0) 0 (ints ([] : List Nat)) rfl (HR0.out.alloc _) ⟨(w1.heap.size + 1), 0, none⟩ 1 1 [.int .i64 (k : Int)] rfl rfl HNW.out (by simp [Value.oneCell']) (by omega) (by unfold maxLen; omega) (by omega) (by simp; omega) ((w1.heap.size + 1) + 1) (by simp) ?_; intro gg capg w4 hown4 hgrow4 hat4 hglt4) | go_in)
          have HW4 : Hid (w4.ownsRow (w.heap.size + 1) 3 1 (.slice (some ⟨gg, 0, none⟩) 1 capg) [k].length (ints [k])) := Lib.hid (by simpa [ints] using hown4)
          have hc4 := (World.cell?_of_block (w := (w1.alloc (Obj.cells #[] 3)).alloc (.cells #[.int .i64 (k : Int)] 3)) (a := ⟨w.heap.size, 0, none⟩) (hgrow4.block w.heap.size (by simp; omega) (by simp [Value.ownBlock]; omega))).trans (keep_cell _ _ hc2)
          have HB4 : Hid (Below w.heap.size w w4) := Lib.hid ((HB2.out.alloc HB2.out.size _).grown hgrow4 (by have := HB1.out.size; simp; omega) (fun q e => by simp [Value.ownBlock] at e; omega))
          have HZ4 : Hid (w.heap.size + 1 ≤ w4.heap.size) := Lib.hid (Nat.le_trans hsz1 (Nat.le_trans (by simp; omega) hgrow4.size))
          clear hown4 hgrow4 hat4 hglt4 hc2 e1 hc1'
          go_wp2
          go_roundw
          case rel => exact ⟨k + 1, by go_num, by omega, by rw [HE.out.2], by rw [HE.out.1]; exact HW4.out, hc4, HB4, HZ4⟩
          case measure => simp [intOf]; omega
        · have t2 : ¬ (d0 : Int) < (m0 : Int) := by omega
          by_cases hde : d0 = m0
          · have HE := Lib.hid (HNs.out hk0 hde)
            have t3 : ((d0 : Int) == (m0 : Int)) = true := by rw [hde]; simp
            clear hdm hde
            go_wp2_with fail
            refine (HDs.out _).mono ?_
            rintro e w1 ⟨rfl, hb1⟩
            have HOw1 := Lib.hid (row_below HOw.out hb1)
            have hc1' := (hb1.cell (p := ⟨w.heap.size, 0, none⟩) (Nat.lt_of_lt_of_le (Nat.lt_succ_self _) HZ.out)).trans hc1
            have HB1 := Lib.hid (HB.out.trans (hb1.mono HB.out.size))
            have hsz1 : w.heap.size + 1 ≤ w1.heap.size := Nat.le_trans HZ.out hb1.size
            have HLt1 : Hid (∀ q, (Value.slice av ys.length capv).ownBlock = some q → w.heap.size + 1 ≤ q ∧ q < w1.heap.size) := Lib.hid fun q e => ⟨(HLt.out q e).1, Nat.lt_of_lt_of_le (HLt.out q e).2 hb1.size⟩
            clear hb1 hcell hc1
            go_wp2_with (first | (at_builtin; refine wpList_append_lies _ rfl _ _ 29 rfl (w.heap.size + 1) 3 i0 (.int .i64 0) 1 8 Try.underlying29 hi hz0 hz1 hz2 rfl (by decide) (.slice av ys.length capv) ys.length (ints ys) rfl (HOw1.out.alloc _) ⟨w1.heap.size, 0, none⟩ 1 1 [.int .i64 (k : Int)] rfl rfl (cell_one_new _ _ _) (by simp [Value.oneCell']) (by omega) (by unfold maxLen; omega) (by omega) (by simp; omega) (w1.heap.size + 1) (by simp) ?_; intro gg capg w4 hown4 hgrow4 hat4 hglt4) | go_in)
            have HW4 : Hid (w4.ownsRow (w.heap.size + 1) 3 1 (.slice (some ⟨gg, 0, none⟩) (ys.length + 1) capg) (ys ++ [k]).length (ints (ys ++ [k]))) := Lib.hid (by rw [ints_snoc]; simpa using hown4)
            have hc4 := (World.cell?_of_block (w := w1.alloc (.cells #[.int .i64 (k : Int)] 3)) (a := ⟨w.heap.size, 0, none⟩) (hgrow4.block w.heap.size (by simp; omega) (fun e => by have := (HLt1.out _ e.symm).1; omega))).trans (keep_cell _ _ hc1')
            have HB4 : Hid (Below w.heap.size w w4) := Lib.hid ((HB1.out.alloc HB1.out.size _).grown hgrow4 (by have := HB1.out.size; simp; omega) (fun q e => by have := (HLt1.out q e).1; omega))
            have HZ4 : Hid (w.heap.size + 1 ≤ w4.heap.size) := Lib.hid (Nat.le_trans hsz1 (Nat.le_trans (by simp) hgrow4.size))
            have HLe : Hid ((m0 : Int) = leastZ (farB xs s) (k + 1)) := Lib.hid (by rw [HE.out.2]; exact (eq_of_beq t3).symm)
            clear hown4 hgrow4 hat4 hglt4 hc1'
            go_wp2
            go_roundw
            case rel => exact ⟨k + 1, by go_num, by omega, by rw [HLe.out], by rw [HE.out.1]; exact HW4.out, hc4, HB4, HZ4⟩
            case measure => simp [intOf]; omega
          · have HE := Lib.hid (HNm.out hk0 (by omega))
            have t3 : ((d0 : Int) == (m0 : Int)) = false := beq_false_of_ne (by omega)
            clear hdm hde
            go_wp2_with fail
            refine (HDs.out _).mono ?_
            rintro e w1 ⟨rfl, hb1⟩
            have HOw1 := Lib.hid (row_below HOw.out hb1)
            have hc1' := (hb1.cell (p := ⟨w.heap.size, 0, none⟩) (Nat.lt_of_lt_of_le (Nat.lt_succ_self _) HZ.out)).trans hc1
            have HB1 := Lib.hid (HB.out.trans (hb1.mono HB.out.size))
            have hsz1 : w.heap.size + 1 ≤ w1.heap.size := Nat.le_trans HZ.out hb1.size
            have HLt1 : Hid (∀ q, (Value.slice av ys.length capv).ownBlock = some q → w.heap.size + 1 ≤ q ∧ q < w1.heap.size) := Lib.hid fun q e => ⟨(HLt.out q e).1, Nat.lt_of_lt_of_le (HLt.out q e).2 hb1.size⟩
            clear hb1 hcell hc1
            have HZ1 := Lib.hid hsz1
            have HO1 : Hid (w1.ownsRow (w.heap.size + 1) 3 1 (.slice av ys.length capv) (nearOn (farB xs s) (List.range (k + 1))).length (ints (nearOn (farB xs s) (List.range (k + 1))))) := Lib.hid (by rw [HE.out.1]; exact HOw1.out)
            have HLe : Hid ((m0 : Int) = leastZ (farB xs s) (k + 1)) := Lib.hid HE.out.2.symm
            go_wp2
            go_roundw
            case rel => exact ⟨k + 1, by go_num, by omega, by rw [HLe.out], HO1.out, hc1', HB1, HZ1⟩
            case measure => simp [intOf]; omega
    · obtain rfl : k = xs.length := by omega
      have HLe : Hid (leastZ (farB xs s) xs.length = (minOn (farB xs s) (List.range xs.length) : Int)) := Lib.hid (by unfold leastZ; rw [if_neg (by omega)])
      have HOw := Lib.hid (row_mono hown (Nat.le_succ w.heap.size))
      clear hown
      have HQ : Hid (∀ v : Value, Ending.returned (.tuple #[v, .int .i64 (leastZ (farB xs s) xs.length)]) = .returned (.tuple #[v, .int .i64 (minOn (farB xs s) (List.range xs.length) : Int)])) := Lib.hid fun v => by rw [HLe.out]
      go_wp2
      go_ret2
      exact ⟨_, HQ.out _, HOw.out, HB.out⟩
end Go.Proofs.Ytgdiffdpjpkleaa
