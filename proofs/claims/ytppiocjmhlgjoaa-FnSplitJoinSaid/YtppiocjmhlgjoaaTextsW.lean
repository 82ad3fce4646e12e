/-
  Contracts of the laws' own szStringS, toStringS and of the model's l1Stands, JoinStrings, at every list of texts in memory. Used by the claims on JoinStrings.
-/
import Derived.Test.YtppiocjmhlgjoaaJoinW
import Derived.Test.YtppiocjmhlgjoaaSplitRes
import Derived.Deep.OwnRows
namespace Go.Proofs.Ytppiocjmhlgjoaa
open Go.RowKit
set_option linter.unusedVariables false

theorem stands_no (s : ByteArray) (c : UInt8) (w : World) (hs : s.size ≤ maxLen) (hn : c ∉ s.data.toList) :
    Calls Try.prog 33 #[.string s, .int .u8 c.toNat] w fun e w' => e = .returned (.bool false) ∧ w' = w := by
  unfold maxLen at hs
  have HN := Lib.hid hn
  clear hn
  go_enter Try.func33, Try.ntmps33
  go_wp2
  go_loop [5] (fun i => ∃ k : Nat, k ≤ s.size ∧ i = .int .i64 k) (fun i => s.size - (intOf i).toNat)
  case atStart => exact ⟨0, Nat.zero_le _, rfl⟩
  case round =>
    obtain ⟨k, hk, rfl⟩ := hrel
    by_cases hlt : k < s.size
    · have hne : ((s[k].toNat : Int) == (c.toNat : Int)) = false := beq_false_of_ne (fun e => HN.out (by
        have : s[k] = c := UInt8.toNat_inj.1 (by omega)
        rw [← this]
        have e2 : s[k] = s.data.toList[k]'(by simpa using hlt) := rfl
        rw [e2]; exact List.getElem_mem _))
      go_wp2
      all_goals
        go_round
        case rel => exact ⟨k + 1, by omega, by go_num⟩
        case measure => simp [intOf]; omega
    · go_wp2
      go_ret
      exact ⟨rfl, rfl⟩

theorem stands_yes (s : ByteArray) (c : UInt8) (w : World) (hs : s.size ≤ maxLen) (hn : c ∈ s.data.toList) :
    Calls Try.prog 33 #[.string s, .int .u8 c.toNat] w fun e w' => e = .returned (.bool true) ∧ w' = w := by
  unfold maxLen at hs
  have HN := Lib.hid hn
  clear hn
  go_enter Try.func33, Try.ntmps33
  go_wp2
  go_loop [5] (fun i => ∃ k : Nat, k ≤ s.size ∧ i = .int .i64 k ∧ Hid (c ∉ s.data.toList.take k)) (fun i => s.size - (intOf i).toNat)
  case atStart => exact ⟨0, Nat.zero_le _, rfl, Lib.hid (by simp)⟩
  case round =>
    obtain ⟨k, hk, rfl, HT⟩ := hrel
    by_cases hlt : k < s.size
    · by_cases heq : s[k] = c
      · have hne : ((s[k].toNat : Int) == (c.toNat : Int)) = true := by rw [heq]; simp
        clear heq
        go_wp2
        go_ret
        exact ⟨rfl, rfl⟩
      · have hne : ((s[k].toNat : Int) == (c.toNat : Int)) = false := beq_false_of_ne (fun e => heq (UInt8.toNat_inj.1 (by omega)))
        have HE := Lib.hid heq
        clear heq
        go_wp2
        all_goals
          go_round
          case rel => exact ⟨k + 1, by omega, by go_num, by
            show c ∉ _
            rw [List.take_succ_eq_append_getElem (by simpa using hlt)]
            intro hm
            rcases List.mem_append.1 hm with h | h
            · exact HT.out h
            · simp only [List.mem_singleton] at h; exact HE.out h.symm⟩
          case measure => simp [intOf]; omega
    · exfalso
      have e2 := HT.out
      rw [List.take_of_length_le (by simp; omega)] at e2
      exact e2 HN.out


/-- What a list of texts in memory is told by: where it lies, if it has an element. -/
def Src (w : World) (a : Option Addr) (b o : Nat) (xs : List ByteArray) : Prop := (0 < xs.length → a = some ⟨b, o, none⟩) ∧ ∀ (j : Nat) x, xs[j]? = some x → w.cell? ⟨b, o + j, none⟩ = some (.string x)
theorem Src.below {w w' : World} {a : Option Addr} {b o : Nat} {xs : List ByteArray} (h : Src w a b o xs) (hb : Below w.heap.size w w') : Src w' a b o xs :=
  ⟨h.1, fun j x hx => (hb.cell (p := ⟨b, o + j, none⟩) (World.block_lt_of_cell? _ _ (h.2 j x hx))).trans (h.2 j x hx)⟩

/-- Elements and bytes together. -/
def bulk (xs : List ByteArray) : Nat := (xs.map (·.size)).sum
theorem bulk_take_succ (xs : List ByteArray) (k : Nat) (x : ByteArray) (h : xs[k]? = some x) : bulk (xs.take (k + 1)) = bulk (xs.take k) + x.size := by
  rw [List.take_add_one, h]; simp [bulk]
theorem bulk_take_le (xs : List ByteArray) (k : Nat) : bulk (xs.take k) ≤ bulk xs := by
  induction xs generalizing k with
  | nil => simp [bulk]
  | cons y r ih =>
    cases k with
    | zero => simp [bulk]
    | succ k =>
      have := ih k
      simp only [bulk, List.take_succ_cons, List.map_cons, List.sum_cons] at this ⊢
      omega
theorem size_le_bulk (xs : List ByteArray) (k : Nat) (x : ByteArray) (h : xs[k]? = some x) : x.size ≤ bulk xs := by
  have h1 := bulk_take_succ xs k x h
  have h2 := bulk_take_le xs (k + 1)
  omega

/-- A number that is not negative; the world as it was. -/
def SomeNat (w : World) (e : Ending) (w' : World) : Prop := ∃ k : Nat, e = .returned (.int .i64 k) ∧ w' = w

theorem sz_yes (a : Option Addr) (b o c : Nat) (xs : List ByteArray) (w : World) (hs : Src w a b o xs) (ht : xs.length + bulk xs ≤ 1048576) :
    Calls Try.prog 21 #[.slice a xs.length c, .int .i64 1048576] w (SomeNat w) := by
  have HC := Lib.hid hs.2
  have HX := Lib.hid hs.1
  clear hs
  go_enter Try.func21, Try.ntmps21
  go_wp2
  go_loop [1, 5] (fun r i => ∃ k : Nat, k ≤ xs.length ∧ i = .int .i64 k ∧ r = .int .i64 (1048576 - (xs.length : Int) - (bulk (xs.take k) : Int))) (fun _ i => xs.length - (intOf i).toNat)
  case atStart => exact ⟨0, Nat.zero_le _, rfl, by simp [bulk]⟩
  case round =>
    obtain ⟨k, hk, rfl, rfl⟩ := hrel
    by_cases hlt : k < xs.length
    · obtain rfl := HX.out (by omega)
      have hcell := HC.out k _ (List.getElem?_eq_getElem hlt)
      have HS := Lib.hid (bulk_take_succ xs k _ (List.getElem?_eq_getElem hlt))
      have hle := bulk_take_le xs (k + 1)
      generalize xs[k] = x at hcell HS
      have h1 : bulk (xs.take k) + x.size + xs.length ≤ 1048576 := by have := HS.out; omega
      generalize hz : bulk (xs.take k) = z at h1
      have HZ := Lib.hid hz
      clear hz hle
      have h2 : ¬ (1048576 - (xs.length : Int) - (z : Int) - (x.size : Int) < 0) := by omega
      go_wp2
      all_goals
        go_round
        case rel => exact ⟨k + 1, by omega, by go_num, by have e1 := HS.out; have e2 := HZ.out; congr 1; omega⟩
        case measure => simp [intOf]; omega
    · have hle := bulk_take_le xs k
      obtain ⟨q, hq⟩ : ∃ q : Nat, (1048576 - (xs.length : Int) - (bulk (xs.take k) : Int)) = (q : Int) := ⟨1048576 - xs.length - bulk (xs.take k), by omega⟩
      rw [hq]
      clear hq
      go_wp2
      go_ret
      exact ⟨q, rfl, rfl⟩

theorem sz_no (a : Option Addr) (b o c : Nat) (xs : List ByteArray) (w : World) (hs : Src w a b o xs) (hm : ∀ x ∈ xs, x.size ≤ maxLen) (hl : xs.length ≤ maxLen) (ht : 1048576 < xs.length + bulk xs) :
    Calls Try.prog 21 #[.slice a xs.length c, .int .i64 1048576] w fun e w' => e = .returned (.int .i64 (-1)) ∧ w' = w := by
  have HC := Lib.hid hs.2
  have HX := Lib.hid hs.1
  have HM := Lib.hid hm
  unfold maxLen at hl
  clear hs hm
  by_cases h0 : xs.length ≤ 1048576
  · go_enter Try.func21, Try.ntmps21
    go_wp2
    go_loop [1, 5] (fun r i => ∃ k : Nat, k ≤ xs.length ∧ i = .int .i64 k ∧ r = .int .i64 (1048576 - (xs.length : Int) - (bulk (xs.take k) : Int)) ∧ xs.length + bulk (xs.take k) ≤ 1048576) (fun _ i => xs.length - (intOf i).toNat)
    case atStart => exact ⟨0, Nat.zero_le _, rfl, by simp [bulk], by simpa [bulk] using h0⟩
    case round =>
      obtain ⟨k, hk, rfl, rfl, hz1⟩ := hrel
      by_cases hlt : k < xs.length
      · obtain rfl := HX.out (by omega)
        have hcell := HC.out k _ (List.getElem?_eq_getElem hlt)
        have hxm := HM.out _ (List.getElem_mem hlt)
        have HS := Lib.hid (bulk_take_succ xs k _ (List.getElem?_eq_getElem hlt))
        generalize xs[k] = x at hcell HS hxm
        generalize hz : bulk (xs.take k) = z at hz1
        have HZ := Lib.hid hz
        clear hz
        unfold maxLen at hxm
        by_cases h2 : 1048576 - (xs.length : Int) - (z : Int) - (x.size : Int) < 0
        · go_wp2
          go_ret
          exact ⟨rfl, rfl⟩
        · go_wp2
          all_goals
            go_round
            case rel => exact ⟨k + 1, by omega, by go_num, by have e1 := HS.out; have e2 := HZ.out; congr 1; omega, by have e1 := HS.out; have e2 := HZ.out; omega⟩
            case measure => simp [intOf]; omega
      · exfalso
        obtain rfl : k = xs.length := by omega
        rw [List.take_length] at hz1
        omega
  · go_enter Try.func21, Try.ntmps21
    go_wp2
    go_ret
    exact ⟨rfl, rfl⟩

theorem toS_any (a : Option Addr) (b o c : Nat) (xs : List ByteArray) (w : World) (hs : Src w a b o xs) (hl : xs.length ≤ 1048576) :
    Calls Try.prog 22 #[.slice a xs.length c] w fun e w' => e = .returned (.slice (some ⟨w.heap.size, 0, none⟩) xs.length xs.length) ∧ w.heap.size < w'.heap.size ∧ Holds w' w.heap.size xs ∧ Below w.heap.size w w' := by
  have HC := Lib.hid hs.2
  have HX := Lib.hid hs.1
  clear hs
  have hmk := run_make_row' (P := Try.prog) 26 9 (.string ByteArray.empty) 16 Try.underlying26 infoStr rfl .i64 .i64 xs.length (by omega) (by omega)
  have HR := Lib.hid (World.rowIs_made w (.string ByteArray.empty) xs.length 9)
  go_enter Try.func22, Try.ntmps22
  go_wp2
  go_loopw [4] (fun v wr => ∃ k : Nat, v = .int .i64 k ∧ k ≤ xs.length ∧ Hid (wr.rowIs w.heap.size 9 xs.length (fun j => if j < k then .string (xs.getD j ByteArray.empty) else .string ByteArray.empty)) ∧ Hid (Below w.heap.size w wr)) (fun v _ => xs.length - (intOf v).toNat)
  case atStart => exact ⟨0, rfl, Nat.zero_le _, HR.out.congr (fun i _ => by simp), (Below.refl _ _).alloc (Nat.le_refl _) _⟩
  case round =>
    obtain ⟨k, rfl, hk, HW, HB⟩ := hrel
    by_cases hlt : k < xs.length
    · obtain rfl := HX.out (by omega)
      have hcell0 := HC.out k _ (List.getElem?_eq_getElem hlt)
      have hg : b < w.heap.size := World.block_lt_of_cell? _ _ hcell0
      have hcell := (HB.out.cell (p := ⟨b, o + k, none⟩) hg).trans hcell0
      have HD : Hid (xs.getD k ByteArray.empty = xs[k]) := by show _ = _; rw [List.getD_eq_getElem?_getD, List.getElem?_eq_getElem hlt]; rfl
      generalize xs[k] = x at hcell HD
      clear hcell0
      have d1 := HW.out.cell hlt
      have d2 := HW.out.frozen k
      have HN : Hid ((wr.setCell ⟨w.heap.size, k, none⟩ (.string x)).rowIs w.heap.size 9 xs.length (fun j => if j < k + 1 then .string (xs.getD j ByteArray.empty) else .string ByteArray.empty)) := Lib.hid ((HW.out.set k (.string x)).congr (fun i hi => by
        by_cases e : i = k
        · subst e; rw [if_pos rfl, if_pos (by omega), HD.out]
        · rw [if_neg e]
          by_cases e2 : i < k
          · rw [if_pos e2, if_pos (by omega)]
          · rw [if_neg e2, if_neg (by omega)]))
      have HB2 : Hid (Below w.heap.size w (wr.setCell ⟨w.heap.size, k, none⟩ (.string x))) := Lib.hid (HB.out.setCell (p := ⟨w.heap.size, k, none⟩) (Nat.le_refl _) _)
      go_wp2
      go_roundw
      case rel => exact ⟨k + 1, by go_num, by omega, HN, HB2⟩
      case measure => simp [intOf]; omega
    · obtain rfl : k = xs.length := by omega
      go_wp2
      go_ret
      refine ⟨rfl, HW.out.lt, fun j x hx => ?_, HB.out⟩
      have hj : j < xs.length := (List.getElem?_eq_some_iff.1 hx).1
      have := HW.out.cell hj
      rw [if_pos hj, List.getD_eq_getElem?_getD, hx] at this
      exact this
end Go.Proofs.Ytppiocjmhlgjoaa
