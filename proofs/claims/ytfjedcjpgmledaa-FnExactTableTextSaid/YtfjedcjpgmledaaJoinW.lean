/-
  Contracts of the program's fitJoined, anyHas and JoinStrings, at every list of texts in memory. Used by the claims on JoinStrings, AppendChecksum, VerifyChecksum.
-/
import Derived.Test.YtfjedcjpgmledaaTextL
import Derived.Test.YtfjedcjpgmledaaShelf
import Derived.Test.YtfjedcjpgmledaaRows
import Derived.WalkKit
import Derived.LoopTactic
import Derived.Handy
import Derived.Lib.Hide
import Derived.Deep.LoopGhost
import Derived.WalkMore
namespace Go.Proofs.Ytfjedcjpgmledaa
open Go.RowKit
set_option linter.unusedVariables false

/-- A slice value whose elements are these texts: nil or not. -/
def Texts (w : World) (v : Value) (xs : List ByteArray) : Prop :=
  ∃ (a : Option Addr) (c : Nat), v = .slice a xs.length c ∧ xs.length ≤ c ∧ c ≤ 140737488355328 ∧ (xs ≠ [] → ∃ b o, a = some ⟨b, o, none⟩ ∧ b < w.heap.size ∧ ∀ (j : Nat) x, xs[j]? = some x → w.cell? ⟨b, o + j, none⟩ = some (.string x))

theorem fit_yes (a : Option Addr) (b o c : Nat) (xs : List ByteArray) (w : World) (hx : 0 < xs.length → a = some ⟨b, o, none⟩) (hc : ∀ (j : Nat) x, xs[j]? = some x → w.cell? ⟨b, o + j, none⟩ = some (.string x)) (ht : tot xs ≤ 4001) :
    Calls Try.prog 101 #[.slice a xs.length c] w fun e w' => e = .returned (.bool true) ∧ w' = w := by
  have HC := Lib.hid hc
  have HX := Lib.hid hx
  have hl := tot_len xs
  clear hc hx
  go_enter Try.func101, Try.ntmps101
  go_wp2
  go_loop [3, 8] (fun r i => ∃ k : Nat, k ≤ xs.length ∧ i = .int .i64 k ∧ r = .int .i64 (4001 - (tot (xs.take k) : Int))) (fun _ i => xs.length - (intOf i).toNat)
  case atStart => exact ⟨0, Nat.zero_le _, rfl, rfl⟩
  case round =>
    obtain ⟨k, hk, rfl, rfl⟩ := hrel
    by_cases hlt : k < xs.length
    · obtain rfl := HX.out (by omega)
      have hcell := HC.out k _ (List.getElem?_eq_getElem hlt)
      have HS := Lib.hid (tot_take_succ xs k _ (List.getElem?_eq_getElem hlt))
      have hle := tot_take_le xs (k + 1)
      generalize xs[k] = x at hcell HS
      have h1 : tot (xs.take k) + x.size + 1 ≤ 4001 := by have := HS.out; omega
      generalize hz : tot (xs.take k) = z at h1
      have HZ := Lib.hid hz
      clear hz hle
      have h2 : ¬ (4001 - (z : Int) ≤ (x.size : Int)) := by omega
      go_wp2
      all_goals
        go_round
        case rel => exact ⟨k + 1, by omega, by go_num, by have e1 := HS.out; have e2 := HZ.out; congr 1; omega⟩
        case measure => simp [intOf]; omega
    · go_wp2
      go_ret
      exact ⟨rfl, rfl⟩

theorem fit_no (a : Option Addr) (b o c : Nat) (xs : List ByteArray) (w : World) (hx : 0 < xs.length → a = some ⟨b, o, none⟩) (hc : ∀ (j : Nat) x, xs[j]? = some x → w.cell? ⟨b, o + j, none⟩ = some (.string x)) (hm : ∀ x ∈ xs, x.size ≤ maxLen) (hl : xs.length ≤ maxLen) (ht : 4001 < tot xs) :
    Calls Try.prog 101 #[.slice a xs.length c] w fun e w' => e = .returned (.bool false) ∧ w' = w := by
  have HC := Lib.hid hc
  have HX := Lib.hid hx
  have HM := Lib.hid hm
  unfold maxLen at hl
  clear hc hx hm
  go_enter Try.func101, Try.ntmps101
  go_wp2
  go_loop [3, 8] (fun r i => ∃ k : Nat, k ≤ xs.length ∧ i = .int .i64 k ∧ r = .int .i64 (4001 - (tot (xs.take k) : Int)) ∧ tot (xs.take k) ≤ 4001) (fun _ i => xs.length - (intOf i).toNat)
  case atStart => exact ⟨0, Nat.zero_le _, rfl, rfl, by simp [tot]⟩
  case round =>
    obtain ⟨k, hk, rfl, rfl, hz1⟩ := hrel
    by_cases hlt : k < xs.length
    · obtain rfl := HX.out (by omega)
      have hcell := HC.out k _ (List.getElem?_eq_getElem hlt)
      have hxm := HM.out _ (List.getElem_mem hlt)
      have HS := Lib.hid (tot_take_succ xs k _ (List.getElem?_eq_getElem hlt))
      generalize xs[k] = x at hcell HS hxm
      generalize hz : tot (xs.take k) = z at hz1
      have HZ := Lib.hid hz
      clear hz
      unfold maxLen at hxm
      by_cases h2 : 4001 - (z : Int) ≤ (x.size : Int)
      · go_wp2
        go_ret
        exact ⟨rfl, rfl⟩
      · go_wp2
        all_goals
          go_round
          case rel => exact ⟨k + 1, by omega, by go_num, by have e1 := HS.out; have e2 := HZ.out; congr 1; omega, by have e1 := HS.out; have e2 := HZ.out; omega⟩
          case measure => simp [intOf]; omega
    · exfalso
      obtain rfl : k = xs.length := by omega
      rw [List.take_length] at hz1
      omega

/-- No text has the byte. -/
theorem any_no (a : Option Addr) (b o c : Nat) (xs : List ByteArray) (s : UInt8) (w : World) (hx : 0 < xs.length → a = some ⟨b, o, none⟩) (hc : ∀ (j : Nat) x, xs[j]? = some x → w.cell? ⟨b, o + j, none⟩ = some (.string x)) (hm : ∀ x ∈ xs, x.size ≤ maxLen) (hl : xs.length ≤ maxLen) (hn : ¬ Has s xs) :
    Calls Try.prog 102 #[.slice a xs.length c, .int .u8 s.toNat] w fun e w' => e = .returned (.bool false) ∧ w' = w := by
  have HC := Lib.hid hc
  have HX := Lib.hid hx
  have HM := Lib.hid hm
  have HN := Lib.hid hn
  unfold maxLen at hl
  clear hc hx hm hn
  go_enter Try.func102, Try.ntmps102
  go_wp2
  go_step3
  go_wp2
  go_step3
  go_wp2
  go_loopg [5, 11] xs.length (fun g f i wx => ∃ k : Nat, k + g = xs.length ∧ i = .int .i64 k ∧ f = .bool false ∧ w = wx)
  case atStart => exact ⟨0, by omega, rfl, rfl, rfl⟩
  case round =>
    obtain ⟨k, hk, rfl, rfl, rfl⟩ := hrel
    obtain ⟨g1, hg1⟩ : ∃ g1, g1 = gk := ⟨gk, rfl⟩
    subst hg1
    have HK := Lib.hid hk
    by_cases hlt : k < xs.length
    · clear hk
      obtain rfl := HX.out (by omega)
      have hcell := HC.out k _ (List.getElem?_eq_getElem hlt)
      have hxm := HM.out _ (List.getElem_mem hlt)
      have hno := fun h => HN.out ⟨_, List.getElem_mem hlt, h⟩
      have HNo := Lib.hid hno
      clear hno
      generalize xs[k] = x at hcell HNo hxm
      unfold maxLen at hxm
      go_wp2
      go_loopg [5, 17] x.size (fun g2 f2 i2 wy => ∃ j : Nat, j + g2 = x.size ∧ i2 = .int .i64 j ∧ f2 = .bool false ∧ w = wy)
      case atStart => exact ⟨0, by omega, rfl, rfl, rfl⟩
      case round =>
        obtain ⟨j, hj, rfl, rfl, rfl⟩ := hrel
        have HJ := Lib.hid hj
        clear hj
        by_cases hlt2 : j < x.size
        · have hne : ((x[j].toNat : Int) == (s.toNat : Int)) = false := beq_false_of_ne (fun e => HNo.out (by
            have : x[j] = s := UInt8.toNat_inj.1 (by omega)
            rw [← this]
            have e2 : x[j] = x.data.toList[j]'(by simpa using hlt2) := rfl
            rw [e2]; exact List.getElem_mem _))
          go_wp2
          go_roundg (gk - 1)
          case measure => have := HJ.out; omega
          case rel => exact ⟨j + 1, by have := HJ.out; omega, by go_num, rfl, rfl⟩
        · go_wp2
          go_roundg (g1 - 1)
          case measure => have := HK.out; omega
          case rel => exact ⟨k + 1, by have := HK.out; omega, by go_num, rfl, rfl⟩
    · clear hk
      go_wp2
      try rw [Exit.noGoto_ret]
      go_ret
      exact ⟨rfl, rfl⟩

/-- Some text has the byte. -/
theorem any_yes (a : Option Addr) (b o c : Nat) (xs : List ByteArray) (s : UInt8) (w : World) (hx : 0 < xs.length → a = some ⟨b, o, none⟩) (hc : ∀ (j : Nat) x, xs[j]? = some x → w.cell? ⟨b, o + j, none⟩ = some (.string x)) (hm : ∀ x ∈ xs, x.size ≤ maxLen) (hl : xs.length ≤ maxLen) (hn : Has s xs) :
    Calls Try.prog 102 #[.slice a xs.length c, .int .u8 s.toNat] w fun e w' => e = .returned (.bool true) ∧ w' = w := by
  have HC := Lib.hid hc
  have HX := Lib.hid hx
  have HM := Lib.hid hm
  have HN := Lib.hid hn
  unfold maxLen at hl
  clear hc hx hm hn
  go_enter Try.func102, Try.ntmps102
  go_wp2
  go_step3
  go_wp2
  go_step3
  go_wp2
  go_loopg [5, 11] xs.length (fun g f i wx => ∃ k : Nat, k + g = xs.length ∧ i = .int .i64 k ∧ f = .bool false ∧ Hid (∀ (j : Nat) y, j < k → xs[j]? = some y → s ∉ y.data.toList) ∧ w = wx)
  case atStart => exact ⟨0, by omega, rfl, rfl, Lib.hid (fun j y h => absurd h (by omega)), rfl⟩
  case round =>
    obtain ⟨k, hk, rfl, rfl, HB, rfl⟩ := hrel
    obtain ⟨g1, hg1⟩ : ∃ g1, g1 = gk := ⟨gk, rfl⟩
    subst hg1
    have HK := Lib.hid hk
    by_cases hlt : k < xs.length
    · clear hk
      obtain rfl := HX.out (by omega)
      have hcell := HC.out k _ (List.getElem?_eq_getElem hlt)
      have hxm := HM.out _ (List.getElem_mem hlt)
      have HAt := Lib.hid (List.getElem?_eq_getElem hlt)
      generalize xs[k] = x at hcell hxm HAt
      unfold maxLen at hxm
      go_wp2
      go_loopg [5, 17] x.size (fun g2 f2 i2 wy => ∃ j : Nat, j + g2 = x.size ∧ i2 = .int .i64 j ∧ f2 = .bool false ∧ Hid (s ∉ x.data.toList.take j) ∧ w = wy)
      case atStart => exact ⟨0, by omega, rfl, rfl, Lib.hid (by simp), rfl⟩
      case round =>
        obtain ⟨j, hj, rfl, rfl, HT, rfl⟩ := hrel
        have HJ := Lib.hid hj
        clear hj
        by_cases hlt2 : j < x.size
        · by_cases heq : x[j] = s
          · have hne : ((x[j].toNat : Int) == (s.toNat : Int)) = true := by rw [heq]; simp
            clear heq
            go_wp2
            try rw [Exit.noGoto_ret]
            go_ret
            exact ⟨rfl, rfl⟩
          · have hne : ((x[j].toNat : Int) == (s.toNat : Int)) = false := beq_false_of_ne (fun e => heq (UInt8.toNat_inj.1 (by omega)))
            have HE := Lib.hid heq
            clear heq
            go_wp2
            go_roundg (gk - 1)
            case measure => have := HJ.out; omega
            case rel => exact ⟨j + 1, by have := HJ.out; omega, by go_num, rfl, by
              show s ∉ _
              rw [List.take_succ_eq_append_getElem (by simpa using hlt2)]
              intro hm
              rcases List.mem_append.1 hm with h | h
              · exact HT.out h
              · simp only [List.mem_singleton] at h; exact HE.out h.symm, rfl⟩
        · go_wp2
          go_roundg (g1 - 1)
          case measure => have := HK.out; omega
          case rel => exact ⟨k + 1, by have := HK.out; omega, by go_num, rfl, by
            intro j2 y h2 hy
            by_cases h3 : j2 < k
            · exact HB.out j2 y h3 hy
            · obtain rfl : j2 = k := by omega
              have e1 : y = x := Option.some.inj (hy.symm.trans HAt.out)
              have e2 := HT.out
              rw [List.take_of_length_le (by simp; omega)] at e2
              rw [e1]; exact e2, rfl⟩
    · exfalso
      obtain ⟨x, hx, hs⟩ := HN.out
      obtain ⟨j, hj, hjx⟩ := List.getElem_of_mem hx
      exact HB.out j x (by omega) (by rw [List.getElem?_eq_getElem hj, hjx]) hs

/-! ### JoinStrings -/
theorem join_none (a : Option Addr) (c : Nat) (sep : ByteArray) (w : World) :
    Calls Try.prog 79 #[.slice a 0 c, .string sep] w fun e w' => e = .returned (.tuple #[.string ⟨#[]⟩, .bool false]) ∧ w' = w := by
  go_enter Try.func79, Try.ntmps79
  go_wp2
  go_ret2
  exact ⟨rfl, rfl⟩
theorem join_sep (a : Option Addr) (n c : Nat) (sep : ByteArray) (w : World) (hn : 0 < n) (hl : n ≤ maxLen) (hs : sep.size ≠ 1) (hm : sep.size ≤ maxLen) :
    Calls Try.prog 79 #[.slice a n c, .string sep] w fun e w' => e = .returned (.tuple #[.string ⟨#[]⟩, .bool false]) ∧ w' = w := by
  unfold maxLen at hl hm
  have h1 : ((n : Int) == 0) = false := beq_false_of_ne (by omega)
  have h2 : ((sep.size : Int) == 1) = false := beq_false_of_ne (by omega)
  have h3 : ((sep.size : Int) != 1) = true := by simp; omega
  clear hs
  go_enter Try.func79, Try.ntmps79
  go_wp2
  go_ret2
  exact ⟨rfl, rfl⟩
theorem join_far (a : Option Addr) (b o c : Nat) (xs : List ByteArray) (s : UInt8) (w : World) (hx : 0 < xs.length → a = some ⟨b, o, none⟩) (hc : ∀ (j : Nat) x, xs[j]? = some x → w.cell? ⟨b, o + j, none⟩ = some (.string x)) (hm : ∀ x ∈ xs, x.size ≤ maxLen) (hl : xs.length ≤ maxLen) (h0 : 0 < xs.length) (ht : 4001 < tot xs) :
    Calls Try.prog 79 #[.slice a xs.length c, .string ⟨#[s]⟩] w fun e w' => e = .returned (.tuple #[.string ⟨#[]⟩, .bool false]) ∧ w' = w := by
  have F := Lib.hid (fit_no a b o c xs w hx hc hm hl ht)
  clear hx hc hm ht
  unfold maxLen at hl
  have h1 : ((xs.length : Int) == 0) = false := beq_false_of_ne (by omega)
  go_enter Try.func79, Try.ntmps79
  go_wp2_with fail
  refine F.out.mono ?_
  rintro e w' ⟨rfl, rfl⟩
  go_wp2
  go_ret2
  exact ⟨rfl, rfl⟩
theorem join_has (a : Option Addr) (b o c : Nat) (xs : List ByteArray) (s : UInt8) (w : World) (hx : 0 < xs.length → a = some ⟨b, o, none⟩) (hc : ∀ (j : Nat) x, xs[j]? = some x → w.cell? ⟨b, o + j, none⟩ = some (.string x)) (hm : ∀ x ∈ xs, x.size ≤ maxLen) (hl : xs.length ≤ maxLen) (h0 : 0 < xs.length) (ht : tot xs ≤ 4001) (hh : Has s xs) :
    Calls Try.prog 79 #[.slice a xs.length c, .string ⟨#[s]⟩] w fun e w' => e = .returned (.tuple #[.string ⟨#[]⟩, .bool false]) ∧ w' = w := by
  have F := Lib.hid (fit_yes a b o c xs w hx hc ht)
  have G := Lib.hid (any_yes a b o c xs s w hx hc hm hl hh)
  clear hx hc hm ht hh
  unfold maxLen at hl
  have h1 : ((xs.length : Int) == 0) = false := beq_false_of_ne (by omega)
  go_enter Try.func79, Try.ntmps79
  go_wp2_with fail
  refine F.out.mono ?_
  rintro e w' ⟨rfl, rfl⟩
  go_wp2_with fail
  refine G.out.mono ?_
  rintro e w' ⟨rfl, rfl⟩
  go_wp2
  go_ret2
  exact ⟨rfl, rfl⟩
theorem join_ok (a : Option Addr) (b o c : Nat) (xs : List ByteArray) (s : UInt8) (w : World) (hx : 0 < xs.length → a = some ⟨b, o, none⟩) (hc : ∀ (j : Nat) x, xs[j]? = some x → w.cell? ⟨b, o + j, none⟩ = some (.string x)) (hb : b < w.heap.size) (hcap : xs.length ≤ c) (h0 : 0 < xs.length) (ht : tot xs ≤ 4001) (hh : ¬ Has s xs) :
    Calls Try.prog 79 #[.slice a xs.length c, .string ⟨#[s]⟩] w fun e w' => e = .returned (.tuple #[.string ⟨(joined xs s).toArray⟩, .bool true]) ∧ Below w.heap.size w w' := by
  have hl : xs.length ≤ 4001 := Nat.le_trans (tot_len xs) ht
  have hm : ∀ x ∈ xs, x.size ≤ maxLen := by
    intro x hx
    obtain ⟨j, hj, hjx⟩ := List.getElem_of_mem hx
    have h1 := tot_take_succ xs j x (by rw [List.getElem?_eq_getElem hj, hjx])
    have h2 := tot_take_le xs (j + 1)
    unfold maxLen; omega
  have F := Lib.hid (fit_yes a b o c xs w hx hc ht)
  have G := Lib.hid (any_no a b o c xs s w hx hc hm (by unfold maxLen; omega) hh)
  have hne : xs ≠ [] := by rintro rfl; simp at h0
  have hlen : (joined xs s).length ≤ 140737488355328 := by have := joined_len xs s hne; omega
  obtain rfl := hx h0
  have J := Lib.hid (Try.strings_Join b o c xs ⟨#[s]⟩ w hc hb (by omega) hcap hlen)
  clear hx hc hm ht hh hlen hne
  have h1 : ((xs.length : Int) == 0) = false := beq_false_of_ne (by omega)
  go_enter Try.func79, Try.ntmps79
  go_wp2_with fail
  refine F.out.mono ?_
  rintro e w' ⟨rfl, rfl⟩
  go_wp2_with fail
  refine G.out.mono ?_
  rintro e w' ⟨rfl, rfl⟩
  go_wp2_with fail
  refine J.out.mono ?_
  rintro e w2 ⟨rfl, hb⟩
  have HB := Lib.hid hb
  clear hb
  go_wp2
  go_ret2
  exact ⟨rfl, HB.out⟩
end Go.Proofs.Ytfjedcjpgmledaa
