/-
  Contracts of the laws' own szStringS, toStringS, eqStringS, markStringS, heldStringS and of their Table forms, at every list of texts in memory. Used by the claims on chapter 2.
-/
import Derived.Test.YthkafalpjokfeaaSplitW
import Derived.Test.YthkafalpjokfeaaGrow0
import Derived.Test.YthkafalpjokfeaaMarkW
import Derived.Test.YthkafalpjokfeaaRows
import Derived.WalkKit
import Derived.WalkSpells
import Derived.LoopTactic
import Derived.Handy
import Derived.Lib.Hide
import Derived.IntWalk
import Derived.Deep.QuietTactic
import Derived.BigQuiet
import Derived.Deep.OwnRows
import Derived.Laws.AppendOwn
import Derived.OwnWalk
import Derived.Maps.AppendAt
import Derived.Test.YthkafalpjokfeaaTabT
import Derived.RangeFuncBox
import Derived.Laws.Rows
import Derived.Laws.ResultCell
namespace Go.Proofs.Ythkafalpjokfeaa
open Go.RowKit
set_option linter.unusedVariables false

/-- A list of texts in a block. -/
def Holds (W : World) (g : Nat) (xs : List ByteArray) : Prop := ∀ (j : Nat) x, xs[j]? = some x → W.cell? ⟨g, j, none⟩ = some (.string x)

/-- What a list of texts in memory is told by: where it lies, if it has an element. -/
def Src (w : World) (a : Option Addr) (b o : Nat) (xs : List ByteArray) : Prop := (0 < xs.length → a = some ⟨b, o, none⟩) ∧ ∀ (j : Nat) x, xs[j]? = some x → w.cell? ⟨b, o + j, none⟩ = some (.string x)
theorem Src.below {w w' : World} {a : Option Addr} {b o : Nat} {xs : List ByteArray} (h : Src w a b o xs) (hb : Below w.heap.size w w') : Src w' a b o xs :=
  ⟨h.1, fun j x hx => (hb.cell (p := ⟨b, o + j, none⟩) (World.block_lt_of_cell? _ _ (h.2 j x hx))).trans (h.2 j x hx)⟩

/-- Elements and bytes together. -/
def bulk (xs : List ByteArray) : Nat := (xs.map (·.size)).sum
theorem bulk_take_succ (xs : List ByteArray) (k : Nat) (x : ByteArray) (h : xs[k]? = some x) : bulk (xs.take (k + 1)) = bulk (xs.take k) + x.size := by
  rw [List.take_add_one, h]; simp [bulk]
theorem bulk_take_le (xs : List ByteArray) (k : Nat) : bulk (xs.take k) ≤ bulk xs := by
  induction xs generalizing k with
  | nil => simp [bulk]
  | cons y r ih =>
    cases k with
    | zero => simp [bulk]
    | succ k =>
      have := ih k
      simp only [bulk, List.take_succ_cons, List.map_cons, List.sum_cons] at this ⊢
      omega
theorem size_le_bulk (xs : List ByteArray) (k : Nat) (x : ByteArray) (h : xs[k]? = some x) : x.size ≤ bulk xs := by
  have h1 := bulk_take_succ xs k x h
  have h2 := bulk_take_le xs (k + 1)
  omega

/-- A number that is not negative; the world as it was. -/
def SomeNat (w : World) (e : Ending) (w' : World) : Prop := ∃ k : Nat, e = .returned (.int .i64 k) ∧ w' = w

theorem sz_yes (a : Option Addr) (b o c : Nat) (xs : List ByteArray) (w : World) (hs : Src w a b o xs) (ht : xs.length + bulk xs ≤ 1048576) :
    Calls Try.prog 63 #[.slice a xs.length c, .int .i64 1048576] w (SomeNat w) := by
  have HC := Lib.hid hs.2
  have HX := Lib.hid hs.1
  clear hs
  go_enter Try.func63, Try.ntmps63
  go_wp2
  go_loop [1, 5] (fun r i => ∃ k : Nat, k ≤ xs.length ∧ i = .int .i64 k ∧ r = .int .i64 (1048576 - (xs.length : Int) - (bulk (xs.take k) : Int))) (fun _ i => xs.length - (intOf i).toNat)
  case atStart => exact ⟨0, Nat.zero_le _, rfl, by simp [bulk]⟩
  case round =>
    obtain ⟨k, hk, rfl, rfl⟩ := hrel
    by_cases hlt : k < xs.length
    · obtain rfl := HX.out (by omega)
      have hcell := HC.out k _ (List.getElem?_eq_getElem hlt)
      have HS := Lib.hid (bulk_take_succ xs k _ (List.getElem?_eq_getElem hlt))
      have hle := bulk_take_le xs (k + 1)
      generalize xs[k] = x at hcell HS
      have h1 : bulk (xs.take k) + x.size + xs.length ≤ 1048576 := by have := HS.out; omega
      generalize hz : bulk (xs.take k) = z at h1
      have HZ := Lib.hid hz
      clear hz hle
      have h2 : ¬ (1048576 - (xs.length : Int) - (z : Int) - (x.size : Int) < 0) := by omega
      go_wp2
      all_goals
        go_round
        case rel => exact ⟨k + 1, by omega, by go_num, by have e1 := HS.out; have e2 := HZ.out; congr 1; omega⟩
        case measure => simp [intOf]; omega
    · have hle := bulk_take_le xs k
      obtain ⟨q, hq⟩ : ∃ q : Nat, (1048576 - (xs.length : Int) - (bulk (xs.take k) : Int)) = (q : Int) := ⟨1048576 - xs.length - bulk (xs.take k), by omega⟩
      rw [hq]
      clear hq
      go_wp2
      go_ret
      exact ⟨q, rfl, rfl⟩

theorem sz_no (a : Option Addr) (b o c : Nat) (xs : List ByteArray) (w : World) (hs : Src w a b o xs) (hm : ∀ x ∈ xs, x.size ≤ maxLen) (hl : xs.length ≤ maxLen) (ht : 1048576 < xs.length + bulk xs) :
    Calls Try.prog 63 #[.slice a xs.length c, .int .i64 1048576] w fun e w' => e = .returned (.int .i64 (-1)) ∧ w' = w := by
  have HC := Lib.hid hs.2
  have HX := Lib.hid hs.1
  have HM := Lib.hid hm
  unfold maxLen at hl
  clear hs hm
  by_cases h0 : xs.length ≤ 1048576
  · go_enter Try.func63, Try.ntmps63
    go_wp2
    go_loop [1, 5] (fun r i => ∃ k : Nat, k ≤ xs.length ∧ i = .int .i64 k ∧ r = .int .i64 (1048576 - (xs.length : Int) - (bulk (xs.take k) : Int)) ∧ xs.length + bulk (xs.take k) ≤ 1048576) (fun _ i => xs.length - (intOf i).toNat)
    case atStart => exact ⟨0, Nat.zero_le _, rfl, by simp [bulk], by simpa [bulk] using h0⟩
    case round =>
      obtain ⟨k, hk, rfl, rfl, hz1⟩ := hrel
      by_cases hlt : k < xs.length
      · obtain rfl := HX.out (by omega)
        have hcell := HC.out k _ (List.getElem?_eq_getElem hlt)
        have hxm := HM.out _ (List.getElem_mem hlt)
        have HS := Lib.hid (bulk_take_succ xs k _ (List.getElem?_eq_getElem hlt))
        generalize xs[k] = x at hcell HS hxm
        generalize hz : bulk (xs.take k) = z at hz1
        have HZ := Lib.hid hz
        clear hz
        unfold maxLen at hxm
        by_cases h2 : 1048576 - (xs.length : Int) - (z : Int) - (x.size : Int) < 0
        · go_wp2
          go_ret
          exact ⟨rfl, rfl⟩
        · go_wp2
          all_goals
            go_round
            case rel => exact ⟨k + 1, by omega, by go_num, by have e1 := HS.out; have e2 := HZ.out; congr 1; omega, by have e1 := HS.out; have e2 := HZ.out; omega⟩
            case measure => simp [intOf]; omega
      · exfalso
        obtain rfl : k = xs.length := by omega
        rw [List.take_length] at hz1
        omega
  · go_enter Try.func63, Try.ntmps63
    go_wp2
    go_ret
    exact ⟨rfl, rfl⟩

theorem toS_any (a : Option Addr) (b o c : Nat) (xs : List ByteArray) (w : World) (hs : Src w a b o xs) (hl : xs.length ≤ 1048576) :
    Calls Try.prog 66 #[.slice a xs.length c] w fun e w' => e = .returned (.slice (some ⟨w.heap.size, 0, none⟩) xs.length xs.length) ∧ w.heap.size < w'.heap.size ∧ Holds w' w.heap.size xs ∧ (∀ j, j < xs.length → w'.frozen? ⟨w.heap.size, j, none⟩ = false) ∧ Below w.heap.size w w' := by
  have HC := Lib.hid hs.2
  have HX := Lib.hid hs.1
  clear hs
  have hmk := run_make_row' (P := Try.prog) 22 9 (.string ByteArray.empty) 16 Try.underlying22 infoStr rfl .i64 .i64 xs.length (by omega) (by omega)
  have HR := Lib.hid (World.rowIs_made w (.string ByteArray.empty) xs.length 9)
  go_enter Try.func66, Try.ntmps66
  go_wp2
  go_loopw [4] (fun v wr => ∃ k : Nat, v = .int .i64 k ∧ k ≤ xs.length ∧ Hid (wr.rowIs w.heap.size 9 xs.length (fun j => if j < k then .string (xs.getD j ByteArray.empty) else .string ByteArray.empty)) ∧ Hid (Below w.heap.size w wr)) (fun v _ => xs.length - (intOf v).toNat)
  case atStart => exact ⟨0, rfl, Nat.zero_le _, HR.out.congr (fun i _ => by simp), (Below.refl _ _).alloc (Nat.le_refl _) _⟩
  case round =>
    obtain ⟨k, rfl, hk, HW, HB⟩ := hrel
    by_cases hlt : k < xs.length
    · obtain rfl := HX.out (by omega)
      have hcell0 := HC.out k _ (List.getElem?_eq_getElem hlt)
      have hg : b < w.heap.size := World.block_lt_of_cell? _ _ hcell0
      have hcell := (HB.out.cell (p := ⟨b, o + k, none⟩) hg).trans hcell0
      have HD : Hid (xs.getD k ByteArray.empty = xs[k]) := by show _ = _; rw [List.getD_eq_getElem?_getD, List.getElem?_eq_getElem hlt]; rfl
      generalize xs[k] = x at hcell HD
      clear hcell0
      have d1 := HW.out.cell hlt
      have d2 := HW.out.frozen k
      have HN : Hid ((wr.setCell ⟨w.heap.size, k, none⟩ (.string x)).rowIs w.heap.size 9 xs.length (fun j => if j < k + 1 then .string (xs.getD j ByteArray.empty) else .string ByteArray.empty)) := Lib.hid ((HW.out.set k (.string x)).congr (fun i hi => by
        by_cases e : i = k
        · subst e; rw [if_pos rfl, if_pos (by omega), HD.out]
        · rw [if_neg e]
          by_cases e2 : i < k
          · rw [if_pos e2, if_pos (by omega)]
          · rw [if_neg e2, if_neg (by omega)]))
      have HB2 : Hid (Below w.heap.size w (wr.setCell ⟨w.heap.size, k, none⟩ (.string x))) := Lib.hid (HB.out.setCell (p := ⟨w.heap.size, k, none⟩) (Nat.le_refl _) _)
      go_wp2
      go_roundw
      case rel => exact ⟨k + 1, by go_num, by omega, HN, HB2⟩
      case measure => simp [intOf]; omega
    · obtain rfl : k = xs.length := by omega
      go_wp2
      go_ret
      refine ⟨rfl, HW.out.lt, fun j x hx => ?_, fun j _ => HW.out.frozen j, HB.out⟩
      have hj : j < xs.length := (List.getElem?_eq_some_iff.1 hx).1
      have := HW.out.cell hj
      rw [if_pos hj, List.getD_eq_getElem?_getD, hx] at this
      exact this

theorem src_lt {w : World} {a : Option Addr} {b o : Nat} {xs : List ByteArray} (h : Src w a b o xs) (h0 : 0 < xs.length) : b < w.heap.size :=
  World.block_lt_of_cell? w ⟨b, o + 0, none⟩ (h.2 0 _ (List.getElem?_eq_getElem h0))
theorem src_of_holds {w : World} {g : Nat} {xs : List ByteArray} (h : Holds w g xs) : Src w (some ⟨g, 0, none⟩) g 0 xs := ⟨fun _ => rfl, fun j x hx => by rw [Nat.zero_add]; exact h j x hx⟩
theorem Src.drewN {w : World} {a : Option Addr} {b o : Nat} {xs : List ByteArray} (h : Src w a b o xs) (q : Nat) : Src (w.drewN q) a b o xs := h

theorem eqS_yes (a1 a2 : Option Addr) (b1 o1 c1 b2 o2 c2 : Nat) (xs : List ByteArray) (w : World) (hl : xs.length ≤ 1048576) (h1 : Src w a1 b1 o1 xs) (h2 : Src w a2 b2 o2 xs) :
    Calls Try.prog 69 #[.slice a1 xs.length c1, .slice a2 xs.length c2] w fun e w' => e = .returned (.bool true) ∧ ∃ k, w' = w.drewN k := by
  have H1 := Lib.hid h1
  have H2 := Lib.hid h2
  clear h1 h2
  go_enter Try.func69, Try.ntmps69
  go_wp2
  go_loopw [5] (fun v wr => ∃ (i q : Nat), v = .int .i64 i ∧ i ≤ xs.length ∧ wr = w.drewN q) (fun v _ => xs.length - (intOf v).toNat)
  case atStart => exact ⟨0, 0, rfl, Nat.zero_le _, rfl⟩
  case round =>
    obtain ⟨i, q, rfl, hi, rfl⟩ := hrel
    by_cases hlt : i < xs.length
    · obtain rfl := H1.out.1 (by omega)
      obtain rfl := H2.out.1 (by omega)
      have d1 := H1.out.2 i _ (List.getElem?_eq_getElem hlt)
      have d2 := H2.out.2 i _ (List.getElem?_eq_getElem hlt)
      generalize xs[i] = x at d1 d2
      have i0 : (0 : Int) ≤ (i : Int) := by omega
      have i1 : (i : Int) < (xs.length : Int) := by omega
      go_wp2
      go_quiet (fail)
      go_wp2
      go_roundw
      case rel => exact ⟨i + 1, _, by go_num, by omega, rfl⟩
      case measure => simp [intOf]; omega
    · go_wp2
      go_ret
      exact ⟨rfl, q, rfl⟩

/-! ### Tables -/
theorem tab_size : (Try.prog.info? 29).map (·.size) = some 1 := by kernel_rfl
theorem load_tab {w : World} {g : Nat} {v : Value} (h : Boxed w g 29 v) : (loadVar 29 ⟨g, 0, none⟩).run Try.prog w = .ok (.agg #[v]) w := 
  run_loadVar_row w g 29 29 #[v] (0, 0) _ h Try.underlying29 rfl tab_size
theorem res_tab {fn : Func} {p : Tmp} (h : fn.results = #[.cell p 29]) (tmps : Array Value) {w : World} {g : Nat} {v : Value} (hp : tmps.getD p undef = .pointer (some ⟨g, 0, none⟩)) (hb : Boxed w g 29 v) : (results fn tmps).run Try.prog w = .ok (.agg #[v]) w := by
  have hp' : tmps[p]?.getD undef = .pointer (some ⟨g, 0, none⟩) := by simpa using hp
  simp [results, h, hp', asAddr, load_tab hb]
theorem res_tab2 {fn : Func} {p u : Tmp} (h : fn.results = #[.cell p 29, .tmp u]) (tmps : Array Value) {w : World} {g : Nat} {v : Value} (hp : tmps.getD p undef = .pointer (some ⟨g, 0, none⟩)) (hb : Boxed w g 29 v) : (results fn tmps).run Try.prog w = .ok (.tuple #[.agg #[v], tmps.getD u undef]) w := by
  rw [results_cell_tmp h, hp]
  simp [asAddr, load_tab hb, Result.andThen]
theorem res_tab3 {fn : Func} {p u q : Tmp} (h : fn.results = #[.cell p 29, .tmp u, .tmp q]) (tmps : Array Value) {w : World} {g : Nat} {v : Value} (hp : tmps.getD p undef = .pointer (some ⟨g, 0, none⟩)) (hb : Boxed w g 29 v) : (results fn tmps).run Try.prog w = .ok (.tuple #[.agg #[v], tmps.getD u undef, tmps.getD q undef]) w := by
  have hp' : tmps[p]?.getD undef = .pointer (some ⟨g, 0, none⟩) := by simpa using hp
  simp [results, h, hp', asAddr, load_tab hb, Result.andThen]
theorem boxed_below {w w' : World} {B g : Nat} {t : TypeId} {v : Value} (h : Boxed w g t v) (hb : Below B w w') (hg : g < B) : Boxed w' g t v := (hb.block g hg).trans h
theorem boxed_set {w : World} {g g2 o2 : Nat} {t : TypeId} {v u : Value} (h : Boxed w g t v) (hne : g ≠ g2) : Boxed (w.setCell ⟨g2, o2, none⟩ u) g t v := by
  unfold Boxed at h ⊢
  simp [World.setCell, Array.getElem?_modify, Ne.symm hne, h]
theorem Src.alloc {w : World} {a : Option Addr} {b o : Nat} {xs : List ByteArray} (h : Src w a b o xs) (ob : Obj) : Src (w.alloc ob) a b o xs := h.below (below_alloc w ob)
theorem szT_yes (a : Option Addr) (b o c : Nat) (xs : List ByteArray) (w : World) (hs : Src w a b o xs) (ht : xs.length + bulk xs ≤ 1048576) :
    Calls Try.prog 17 #[.agg #[.slice a xs.length c], .int .i64 1048576] w fun e w' => ∃ k : Nat, e = .returned (.int .i64 k) ∧ Below w.heap.size w w' := by
  have F := Lib.hid fun ob => sz_yes a b o c xs (w.alloc ob) (hs.alloc ob) ht
  clear hs
  go_enter Try.func17, Try.ntmps17
  go_wp2_with fail
  refine (F.out _).mono ?_
  rintro e w' ⟨k, rfl, rfl⟩
  go_wp2
  go_ret
  exact ⟨k, rfl, below_alloc _ _⟩
theorem szT_no (a : Option Addr) (b o c : Nat) (xs : List ByteArray) (w : World) (hs : Src w a b o xs) (hm : ∀ x ∈ xs, x.size ≤ maxLen) (hl : xs.length ≤ maxLen) (ht : 1048576 < xs.length + bulk xs) :
    Calls Try.prog 17 #[.agg #[.slice a xs.length c], .int .i64 1048576] w fun e w' => e = .returned (.int .i64 (-1)) ∧ Below w.heap.size w w' := by
  have F := Lib.hid fun ob => sz_no a b o c xs (w.alloc ob) (hs.alloc ob) hm hl ht
  clear hs hm hl ht
  go_enter Try.func17, Try.ntmps17
  go_wp2_with fail
  refine (F.out _).mono ?_
  rintro e w' ⟨rfl, rfl⟩
  go_wp2
  go_ret
  exact ⟨rfl, below_alloc _ _⟩

/-- A table of its own: where it lies. -/
def NewTab (xs : List ByteArray) (w : World) (v : Value) (w' : World) : Prop := ∃ g c, v = .agg #[.slice (some ⟨g, 0, none⟩) xs.length c] ∧ xs.length ≤ c ∧ w.heap.size ≤ g ∧ g < w'.heap.size ∧ Holds w' g xs ∧ (∀ j, j < xs.length → w'.frozen? ⟨g, j, none⟩ = false)

theorem toT_any (a : Option Addr) (b o c : Nat) (xs : List ByteArray) (w : World) (hs : Src w a b o xs) (hl : xs.length ≤ 1048576) :
    Calls Try.prog 19 #[.agg #[.slice a xs.length c]] w fun e w' => ∃ v, e = .returned v ∧ NewTab xs w v w' ∧ Below w.heap.size w w' := by
  have F := Lib.hid fun o1 o2 o3 => toS_any a b o c xs (((w.alloc o1).alloc o2).alloc o3) (((hs.alloc o1).alloc o2).alloc o3) hl
  clear hs
  go_enter Try.func19, Try.ntmps19
  go_wp2_with fail
  refine (F.out _ _ _).mono ?_
  rintro e w1 ⟨rfl, h1, h2, h3, h4⟩
  have B0 : Below w.heap.size w (((w.alloc (.cells #[.slice a xs.length c] 24)).alloc (.cells #[.slice none 0 0] 29)).alloc (.cells #[.slice none 0 0] 29)) := (((below_alloc w _).alloc (by simp) _).alloc (by simp; omega) _)
  have e3 : (((w.alloc (.cells #[.slice a xs.length c] 24)).alloc (.cells #[.slice none 0 0] 29)).alloc (.cells #[.slice none 0 0] 29)).heap.size = w.heap.size + 3 := by simp
  rw [e3] at h1 h2 h3 h4 ⊢
  have k1 := (Boxed.new (w.alloc (.cells #[.slice a xs.length c] 24)) 29 (.slice none 0 0)).alloc (.cells #[.slice none 0 0] 29)
  have k2 := Boxed.new ((w.alloc (.cells #[.slice a xs.length c] 24)).alloc (.cells #[.slice none 0 0] 29)) 29 (.slice none 0 0)
  have z1 : (w.alloc (.cells #[.slice a xs.length c] 24)).heap.size = w.heap.size + 1 := by simp
  have z2 : ((w.alloc (.cells #[.slice a xs.length c] 24)).alloc (.cells #[.slice none 0 0] 29)).heap.size = w.heap.size + 1 + 1 := by simp
  rw [z1] at k1
  rw [z2] at k2
  have b1 := boxed_below k1 h4 (by omega)
  have b2 := boxed_below k2 h4 (by omega)
  have c1 := b1.cell
  have c2 := b2.cell
  have f1 := b1.frozen
  have f2 := b2.frozen
  have HX := Lib.hid (And.intro b1 b2)
  clear k1 k2 z1 z2 b1 b2
  have HB := Lib.hid (B0.trans (h4.mono (by omega)))
  have H := Lib.hid (And.intro h1 (And.intro h2 h3))
  clear h1 h2 h3 h4 B0 e3
  go_wp2
  refine bodyPost_ret (res_tab rfl _ rfl ((boxed_set HX.out.1 (by omega)).set _)) rfl ?_
  have e0 : ∀ j, w.heap.size + 3 ≠ w.heap.size + 1 ∧ w.heap.size + 3 ≠ w.heap.size + 1 + 1 := fun _ => by omega
  refine ⟨_, rfl, ⟨w.heap.size + 3, _, rfl, Nat.le_refl _, by omega, by simpa [World.setCell] using H.out.1, fun j x hx => ?_, fun j hj => ?_⟩, (HB.out.setCell (p := ⟨w.heap.size + 1 + 1, 0, none⟩) (by simp; omega) _).setCell (p := ⟨w.heap.size + 1, 0, none⟩) (by simp) _⟩
  · rw [World.cell?_setCell_other _ _ _ _ (by intro e; have e2 := congrArg Addr.block e; simp only at e2; omega), World.cell?_setCell_other _ _ _ _ (by intro e; have e2 := congrArg Addr.block e; simp only at e2; omega)]
    exact H.out.2.1 j x hx
  · rw [World.frozen?_setCell, World.frozen?_setCell]
    exact H.out.2.2 j hj
theorem eqT_yes (a1 a2 : Option Addr) (b1 o1 c1 b2 o2 c2 : Nat) (xs : List ByteArray) (w : World) (hl : xs.length ≤ 1048576) (h1 : Src w a1 b1 o1 xs) (h2 : Src w a2 b2 o2 xs) :
    Calls Try.prog 22 #[.agg #[.slice a1 xs.length c1], .agg #[.slice a2 xs.length c2]] w fun e w' => e = .returned (.bool true) ∧ Below w.heap.size w w' := by
  have F := Lib.hid fun p q => eqS_yes a1 a2 b1 o1 c1 b2 o2 c2 xs ((w.alloc p).alloc q) hl ((h1.alloc p).alloc q) ((h2.alloc p).alloc q)
  clear h1 h2
  go_enter Try.func22, Try.ntmps22
  go_wp2_with fail
  refine (F.out _ _).mono ?_
  rintro e w' ⟨rfl, k, rfl⟩
  go_wp2
  go_ret
  exact ⟨rfl, ((below_alloc w _).alloc (by simp) _).trans ⟨rfl, rfl, rfl, Nat.le_refl _, fun _ _ => rfl⟩⟩
end Go.Proofs.Ythkafalpjokfeaa
