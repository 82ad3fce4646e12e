/-
  Facts of this translation alone, which every row asks for: reckoned once. Used by all claims.
-/
import Derived.Test.YthkafalpjokfeaaRows
import Derived.WalkKit
import Derived.ProofKit
import Derived.JoinedOf
namespace Go.Proofs.Ythkafalpjokfeaa

theorem and2 {a b : Bool} (ha : a = true) (hb : b = true) : (a && b) = true := by rw [ha, hb]; rfl
def wA : List Char := [Char.ofNat 104, Char.ofNat 97, Char.ofNat 114, Char.ofNat 110, Char.ofNat 101, Char.ofNat 115, Char.ofNat 115]
def wH : List Char := [Char.ofNat 49, Char.ofNat 100, Char.ofNat 101, Char.ofNat 99, Char.ofNat 55, Char.ofNat 52, Char.ofNat 55, Char.ofNat 49, Char.ofNat 57, Char.ofNat 55, Char.ofNat 56, Char.ofNat 98, Char.ofNat 97, Char.ofNat 100, Char.ofNat 102, Char.ofNat 52, Char.ofNat 54, Char.ofNat 57, Char.ofNat 99, Char.ofNat 52, Char.ofNat 102, Char.ofNat 55, Char.ofNat 54, Char.ofNat 49, Char.ofNat 102, Char.ofNat 53, Char.ofNat 97, Char.ofNat 57, Char.ofNat 98, Char.ofNat 50, Char.ofNat 99, Char.ofNat 50, Char.ofNat 51, Char.ofNat 98, Char.ofNat 55, Char.ofNat 55, Char.ofNat 50, Char.ofNat 97, Char.ofNat 99, Char.ofNat 101, Char.ofNat 54, Char.ofNat 50, Char.ofNat 48, Char.ofNat 98, Char.ofNat 101, Char.ofNat 55, Char.ofNat 100, Char.ofNat 101, Char.ofNat 98, Char.ofNat 57, Char.ofNat 102, Char.ofNat 55, Char.ofNat 49, Char.ofNat 52, Char.ofNat 55, Char.ofNat 97, Char.ofNat 54, Char.ofNat 51, Char.ofNat 48, Char.ofNat 97, Char.ofNat 52, Char.ofNat 50, Char.ofNat 100, Char.ofNat 55]
def wC : List Char := [Char.ofNat 99, Char.ofNat 117, Char.ofNat 116]
def wR : List Char :=
  [Char.ofNat 97, Char.ofNat 116, Char.ofNat 32, Char.ofNat 108, Char.ofNat 111, Char.ofNat 111, Char.ofNat 112, Char.ofNat 46, Char.ofNat 101, Char.ofNat 120, Char.ofNat 97, Char.ofNat 109, Char.ofNat 112, Char.ofNat 108, Char.ofNat 101, Char.ofNat 47, Char.ofNat 103, Char.ofNat 48, Char.ofNat 49, Char.ofNat 50, Char.ofNat 52, Char.ofNat 56, Char.ofNat 47, Char.ofNat 108, Char.ofNat 97, Char.ofNat 119, Char.ofNat 115, Char.ofNat 46, Char.ofNat 70, Char.ofNat 110, Char.ofNat 69, Char.ofNat 120, Char.ofNat 97, Char.ofNat 99, Char.ofNat 116, Char.ofNat 65, Char.ofNat 114, Char.ofNat 101, Char.ofNat 76, Char.ofNat 101] ++
  [Char.ofNat 116, Char.ofNat 116, Char.ofNat 101, Char.ofNat 114, Char.ofNat 115, Char.ofNat 32, Char.ofNat 108, Char.ofNat 111, Char.ofNat 111, Char.ofNat 112, Char.ofNat 46, Char.ofNat 101, Char.ofNat 120, Char.ofNat 97, Char.ofNat 109, Char.ofNat 112, Char.ofNat 108, Char.ofNat 101, Char.ofNat 47, Char.ofNat 103, Char.ofNat 48, Char.ofNat 49, Char.ofNat 50, Char.ofNat 52, Char.ofNat 56, Char.ofNat 47, Char.ofNat 108, Char.ofNat 97, Char.ofNat 119, Char.ofNat 115, Char.ofNat 46, Char.ofNat 70, Char.ofNat 110, Char.ofNat 69, Char.ofNat 120, Char.ofNat 97, Char.ofNat 99, Char.ofNat 116, Char.ofNat 76, Char.ofNat 101] ++
  [Char.ofNat 116, Char.ofNat 116, Char.ofNat 101, Char.ofNat 114, Char.ofNat 115, Char.ofNat 66, Char.ofNat 101, Char.ofNat 104, Char.ofNat 105, Char.ofNat 110, Char.ofNat 100, Char.ofNat 32, Char.ofNat 108, Char.ofNat 111, Char.ofNat 111, Char.ofNat 112, Char.ofNat 46, Char.ofNat 101, Char.ofNat 120, Char.ofNat 97, Char.ofNat 109, Char.ofNat 112, Char.ofNat 108, Char.ofNat 101, Char.ofNat 47, Char.ofNat 103, Char.ofNat 48, Char.ofNat 49, Char.ofNat 50, Char.ofNat 52, Char.ofNat 56, Char.ofNat 47, Char.ofNat 108, Char.ofNat 97, Char.ofNat 119, Char.ofNat 115, Char.ofNat 46, Char.ofNat 70, Char.ofNat 110, Char.ofNat 69] ++
  [Char.ofNat 120, Char.ofNat 97, Char.ofNat 99, Char.ofNat 116, Char.ofNat 72, Char.ofNat 101, Char.ofNat 97, Char.ofNat 114, Char.ofNat 100, Char.ofNat 85, Char.ofNat 110, Char.ofNat 116, Char.ofNat 105, Char.ofNat 108, Char.ofNat 32, Char.ofNat 108, Char.ofNat 111, Char.ofNat 111, Char.ofNat 112, Char.ofNat 46, Char.ofNat 101, Char.ofNat 120, Char.ofNat 97, Char.ofNat 109, Char.ofNat 112, Char.ofNat 108, Char.ofNat 101, Char.ofNat 47, Char.ofNat 103, Char.ofNat 48, Char.ofNat 49, Char.ofNat 50, Char.ofNat 52, Char.ofNat 56, Char.ofNat 47, Char.ofNat 108, Char.ofNat 97, Char.ofNat 119, Char.ofNat 115, Char.ofNat 46] ++
  [Char.ofNat 70, Char.ofNat 110, Char.ofNat 69, Char.ofNat 120, Char.ofNat 97, Char.ofNat 99, Char.ofNat 116, Char.ofNat 77, Char.ofNat 101, Char.ofNat 97, Char.ofNat 110, Char.ofNat 72, Char.ofNat 101, Char.ofNat 97, Char.ofNat 114, Char.ofNat 100, Char.ofNat 32, Char.ofNat 108, Char.ofNat 111, Char.ofNat 111, Char.ofNat 112, Char.ofNat 46, Char.ofNat 101, Char.ofNat 120, Char.ofNat 97, Char.ofNat 109, Char.ofNat 112, Char.ofNat 108, Char.ofNat 101, Char.ofNat 47, Char.ofNat 103, Char.ofNat 48, Char.ofNat 49, Char.ofNat 50, Char.ofNat 52, Char.ofNat 56, Char.ofNat 47, Char.ofNat 108, Char.ofNat 97, Char.ofNat 119] ++
  [Char.ofNat 115, Char.ofNat 46, Char.ofNat 70, Char.ofNat 110, Char.ofNat 69, Char.ofNat 120, Char.ofNat 97, Char.ofNat 99, Char.ofNat 116, Char.ofNat 65, Char.ofNat 110, Char.ofNat 115, Char.ofNat 119, Char.ofNat 101, Char.ofNat 114, Char.ofNat 84, Char.ofNat 111, Char.ofNat 32, Char.ofNat 108, Char.ofNat 111, Char.ofNat 111, Char.ofNat 112, Char.ofNat 46, Char.ofNat 101, Char.ofNat 120, Char.ofNat 97, Char.ofNat 109, Char.ofNat 112, Char.ofNat 108, Char.ofNat 101, Char.ofNat 47, Char.ofNat 103, Char.ofNat 48, Char.ofNat 49, Char.ofNat 50, Char.ofNat 52, Char.ofNat 56, Char.ofNat 47, Char.ofNat 108, Char.ofNat 97] ++
  [Char.ofNat 119, Char.ofNat 115, Char.ofNat 46, Char.ofNat 70, Char.ofNat 110, Char.ofNat 69, Char.ofNat 120, Char.ofNat 97, Char.ofNat 99, Char.ofNat 116, Char.ofNat 80, Char.ofNat 97, Char.ofNat 114, Char.ofNat 116, Char.ofNat 66, Char.ofNat 121, Char.ofNat 32, Char.ofNat 108, Char.ofNat 111, Char.ofNat 111, Char.ofNat 112, Char.ofNat 46, Char.ofNat 101, Char.ofNat 120, Char.ofNat 97, Char.ofNat 109, Char.ofNat 112, Char.ofNat 108, Char.ofNat 101, Char.ofNat 47, Char.ofNat 103, Char.ofNat 48, Char.ofNat 49, Char.ofNat 50, Char.ofNat 52, Char.ofNat 56, Char.ofNat 47, Char.ofNat 108, Char.ofNat 97, Char.ofNat 119] ++
  [Char.ofNat 115, Char.ofNat 46, Char.ofNat 70, Char.ofNat 110, Char.ofNat 69, Char.ofNat 120, Char.ofNat 97, Char.ofNat 99, Char.ofNat 116, Char.ofNat 68, Char.ofNat 101, Char.ofNat 112, Char.ofNat 116, Char.ofNat 104, Char.ofNat 79, Char.ofNat 102, Char.ofNat 32, Char.ofNat 108, Char.ofNat 111, Char.ofNat 111, Char.ofNat 112, Char.ofNat 46, Char.ofNat 101, Char.ofNat 120, Char.ofNat 97, Char.ofNat 109, Char.ofNat 112, Char.ofNat 108, Char.ofNat 101, Char.ofNat 47, Char.ofNat 103, Char.ofNat 48, Char.ofNat 49, Char.ofNat 50, Char.ofNat 52, Char.ofNat 56, Char.ofNat 47, Char.ofNat 108, Char.ofNat 97, Char.ofNat 119] ++
  [Char.ofNat 115, Char.ofNat 46, Char.ofNat 70, Char.ofNat 110, Char.ofNat 69, Char.ofNat 120, Char.ofNat 97, Char.ofNat 99, Char.ofNat 116, Char.ofNat 66, Char.ofNat 101, Char.ofNat 115, Char.ofNat 116, Char.ofNat 65, Char.ofNat 115, Char.ofNat 107, Char.ofNat 32, Char.ofNat 108, Char.ofNat 111, Char.ofNat 111, Char.ofNat 112, Char.ofNat 46, Char.ofNat 101, Char.ofNat 120, Char.ofNat 97, Char.ofNat 109, Char.ofNat 112, Char.ofNat 108, Char.ofNat 101, Char.ofNat 47, Char.ofNat 103, Char.ofNat 48, Char.ofNat 49, Char.ofNat 50, Char.ofNat 52, Char.ofNat 56, Char.ofNat 47, Char.ofNat 108, Char.ofNat 97, Char.ofNat 119] ++
  [Char.ofNat 115, Char.ofNat 46, Char.ofNat 70, Char.ofNat 110, Char.ofNat 69, Char.ofNat 120, Char.ofNat 97, Char.ofNat 99, Char.ofNat 116, Char.ofNat 65, Char.ofNat 115, Char.ofNat 107, Char.ofNat 101, Char.ofNat 100, Char.ofNat 70, Char.ofNat 111, Char.ofNat 114, Char.ofNat 32, Char.ofNat 108, Char.ofNat 111, Char.ofNat 111, Char.ofNat 112, Char.ofNat 46, Char.ofNat 101, Char.ofNat 120, Char.ofNat 97, Char.ofNat 109, Char.ofNat 112, Char.ofNat 108, Char.ofNat 101, Char.ofNat 47, Char.ofNat 103, Char.ofNat 48, Char.ofNat 49, Char.ofNat 50, Char.ofNat 52, Char.ofNat 56, Char.ofNat 47, Char.ofNat 108, Char.ofNat 97] ++
  [Char.ofNat 119, Char.ofNat 115, Char.ofNat 46, Char.ofNat 70, Char.ofNat 110, Char.ofNat 69, Char.ofNat 120, Char.ofNat 97, Char.ofNat 99, Char.ofNat 116, Char.ofNat 77, Char.ofNat 101, Char.ofNat 97, Char.ofNat 110, Char.ofNat 65, Char.ofNat 115, Char.ofNat 107, Char.ofNat 101, Char.ofNat 100, Char.ofNat 32, Char.ofNat 108, Char.ofNat 111, Char.ofNat 111, Char.ofNat 112, Char.ofNat 46, Char.ofNat 101, Char.ofNat 120, Char.ofNat 97, Char.ofNat 109, Char.ofNat 112, Char.ofNat 108, Char.ofNat 101, Char.ofNat 47, Char.ofNat 103, Char.ofNat 48, Char.ofNat 49, Char.ofNat 50, Char.ofNat 52, Char.ofNat 56, Char.ofNat 47] ++
  [Char.ofNat 108, Char.ofNat 97, Char.ofNat 119, Char.ofNat 115, Char.ofNat 46, Char.ofNat 70, Char.ofNat 110, Char.ofNat 69, Char.ofNat 120, Char.ofNat 97, Char.ofNat 99, Char.ofNat 116, Char.ofNat 86, Char.ofNat 97, Char.ofNat 105, Char.ofNat 110, Char.ofNat 80, Char.ofNat 108, Char.ofNat 97, Char.ofNat 99, Char.ofNat 101, Char.ofNat 115, Char.ofNat 32, Char.ofNat 108, Char.ofNat 111, Char.ofNat 111, Char.ofNat 112, Char.ofNat 46, Char.ofNat 101, Char.ofNat 120, Char.ofNat 97, Char.ofNat 109, Char.ofNat 112, Char.ofNat 108, Char.ofNat 101, Char.ofNat 47, Char.ofNat 103, Char.ofNat 48, Char.ofNat 49, Char.ofNat 50] ++
  [Char.ofNat 52, Char.ofNat 56, Char.ofNat 47, Char.ofNat 108, Char.ofNat 97, Char.ofNat 119, Char.ofNat 115, Char.ofNat 46, Char.ofNat 70, Char.ofNat 110, Char.ofNat 69, Char.ofNat 120, Char.ofNat 97, Char.ofNat 99, Char.ofNat 116, Char.ofNat 65, Char.ofNat 115, Char.ofNat 107, Char.ofNat 115, Char.ofNat 70, Char.ofNat 105, Char.ofNat 114, Char.ofNat 115, Char.ofNat 116, Char.ofNat 32, Char.ofNat 108, Char.ofNat 111, Char.ofNat 111, Char.ofNat 112, Char.ofNat 46, Char.ofNat 101, Char.ofNat 120, Char.ofNat 97, Char.ofNat 109, Char.ofNat 112, Char.ofNat 108, Char.ofNat 101, Char.ofNat 47, Char.ofNat 103, Char.ofNat 48] ++
  [Char.ofNat 49, Char.ofNat 50, Char.ofNat 52, Char.ofNat 56, Char.ofNat 47, Char.ofNat 108, Char.ofNat 97, Char.ofNat 119, Char.ofNat 115, Char.ofNat 46, Char.ofNat 70, Char.ofNat 110, Char.ofNat 72, Char.ofNat 101, Char.ofNat 97, Char.ofNat 114, Char.ofNat 100, Char.ofNat 76, Char.ofNat 101, Char.ofNat 116, Char.ofNat 116, Char.ofNat 101, Char.ofNat 114, Char.ofNat 115, Char.ofNat 32, Char.ofNat 108, Char.ofNat 111, Char.ofNat 111, Char.ofNat 112, Char.ofNat 46, Char.ofNat 101, Char.ofNat 120, Char.ofNat 97, Char.ofNat 109, Char.ofNat 112, Char.ofNat 108, Char.ofNat 101, Char.ofNat 47, Char.ofNat 103, Char.ofNat 48] ++
  [Char.ofNat 49, Char.ofNat 50, Char.ofNat 52, Char.ofNat 56, Char.ofNat 47, Char.ofNat 108, Char.ofNat 97, Char.ofNat 119, Char.ofNat 115, Char.ofNat 46, Char.ofNat 70, Char.ofNat 110, Char.ofNat 65, Char.ofNat 115, Char.ofNat 107, Char.ofNat 101, Char.ofNat 100, Char.ofNat 76, Char.ofNat 101, Char.ofNat 116, Char.ofNat 116, Char.ofNat 101, Char.ofNat 114, Char.ofNat 115]
theorem words_at (l r : List Char) (h : l.all (fun c => !(c == Char.ofNat 32)) = true) : wordsSigns (l ++ Char.ofNat 32 :: r) = l :: wordsSigns r := by
  induction l with
  | nil => rfl
  | cons c l ih =>
    simp only [List.all_cons, Bool.and_eq_true, Bool.not_eq_true', beq_eq_false_iff_ne] at h
    have e := ih h.2
    rw [List.cons_append, wordsSigns.eq_3 _ _ (fun hc => h.1 hc), e]
theorem tl {s : String} {l : List Char} (h : s = String.ofList l) : s.toList = l := by rw [h, String.toList_ofList]
theorem tl_afterinit : "afterinit".toList = [Char.ofNat 97, Char.ofNat 102, Char.ofNat 116, Char.ofNat 101, Char.ofNat 114, Char.ofNat 105, Char.ofNat 110, Char.ofNat 105, Char.ofNat 116] := tl (by kernel_rfl)
theorem ne_afterinit : (wC == "afterinit".toList) = false := by rw [tl_afterinit]; kernel_rfl
theorem tl_aliases : "aliases".toList = [Char.ofNat 97, Char.ofNat 108, Char.ofNat 105, Char.ofNat 97, Char.ofNat 115, Char.ofNat 101, Char.ofNat 115] := tl (by kernel_rfl)
theorem ne_aliases : (wC == "aliases".toList) = false := by rw [tl_aliases]; kernel_rfl
theorem tl_carried : "carried".toList = [Char.ofNat 99, Char.ofNat 97, Char.ofNat 114, Char.ofNat 114, Char.ofNat 105, Char.ofNat 101, Char.ofNat 100] := tl (by kernel_rfl)
theorem ne_carried : (wC == "carried".toList) = false := by rw [tl_carried]; kernel_rfl
theorem tl_crcplain : "crcplain".toList = [Char.ofNat 99, Char.ofNat 114, Char.ofNat 99, Char.ofNat 112, Char.ofNat 108, Char.ofNat 97, Char.ofNat 105, Char.ofNat 110] := tl (by kernel_rfl)
theorem ne_crcplain : (wC == "crcplain".toList) = false := by rw [tl_crcplain]; kernel_rfl
theorem tl_cut : "cut".toList = wC := tl (by kernel_rfl)
theorem tl_eqguard : "eqguard".toList = [Char.ofNat 101, Char.ofNat 113, Char.ofNat 103, Char.ofNat 117, Char.ofNat 97, Char.ofNat 114, Char.ofNat 100] := tl (by kernel_rfl)
theorem ne_eqguard : (wC == "eqguard".toList) = false := by rw [tl_eqguard]; kernel_rfl
theorem tl_finals : "finals".toList = [Char.ofNat 102, Char.ofNat 105, Char.ofNat 110, Char.ofNat 97, Char.ofNat 108, Char.ofNat 115] := tl (by kernel_rfl)
theorem ne_finals : (wC == "finals".toList) = false := by rw [tl_finals]; kernel_rfl
theorem tl_fmthandon : "fmthandon".toList = [Char.ofNat 102, Char.ofNat 109, Char.ofNat 116, Char.ofNat 104, Char.ofNat 97, Char.ofNat 110, Char.ofNat 100, Char.ofNat 111, Char.ofNat 110] := tl (by kernel_rfl)
theorem ne_fmthandon : (wC == "fmthandon".toList) = false := by rw [tl_fmthandon]; kernel_rfl
theorem tl_gc : "gc".toList = [Char.ofNat 103, Char.ofNat 99] := tl (by kernel_rfl)
theorem ne_gc : (wC == "gc".toList) = false := by rw [tl_gc]; kernel_rfl
theorem tl_harness : "harness".toList = wA := tl (by kernel_rfl)
theorem ne_harness : (wC == "harness".toList) = false := by rw [tl_harness]; kernel_rfl
theorem tl_leanrows : "leanrows".toList = [Char.ofNat 108, Char.ofNat 101, Char.ofNat 97, Char.ofNat 110, Char.ofNat 114, Char.ofNat 111, Char.ofNat 119, Char.ofNat 115] := tl (by kernel_rfl)
theorem ne_leanrows : (wC == "leanrows".toList) = false := by rw [tl_leanrows]; kernel_rfl
theorem tl_libbeside : "libbeside".toList = [Char.ofNat 108, Char.ofNat 105, Char.ofNat 98, Char.ofNat 98, Char.ofNat 101, Char.ofNat 115, Char.ofNat 105, Char.ofNat 100, Char.ofNat 101] := tl (by kernel_rfl)
theorem ne_libbeside : (wC == "libbeside".toList) = false := by rw [tl_libbeside]; kernel_rfl
theorem tl_onebuild : "onebuild".toList = [Char.ofNat 111, Char.ofNat 110, Char.ofNat 101, Char.ofNat 98, Char.ofNat 117, Char.ofNat 105, Char.ofNat 108, Char.ofNat 100] := tl (by kernel_rfl)
theorem ne_onebuild : (wC == "onebuild".toList) = false := by rw [tl_onebuild]; kernel_rfl
theorem tl_ownbeside : "ownbeside".toList = [Char.ofNat 111, Char.ofNat 119, Char.ofNat 110, Char.ofNat 98, Char.ofNat 101, Char.ofNat 115, Char.ofNat 105, Char.ofNat 100, Char.ofNat 101] := tl (by kernel_rfl)
theorem ne_ownbeside : (wC == "ownbeside".toList) = false := by rw [tl_ownbeside]; kernel_rfl
theorem tl_ownmain : "ownmain".toList = [Char.ofNat 111, Char.ofNat 119, Char.ofNat 110, Char.ofNat 109, Char.ofNat 97, Char.ofNat 105, Char.ofNat 110] := tl (by kernel_rfl)
theorem ne_ownmain : (wC == "ownmain".toList) = false := by rw [tl_ownmain]; kernel_rfl
theorem tl_ownunsafe : "ownunsafe".toList = [Char.ofNat 111, Char.ofNat 119, Char.ofNat 110, Char.ofNat 117, Char.ofNat 110, Char.ofNat 115, Char.ofNat 97, Char.ofNat 102, Char.ofNat 101] := tl (by kernel_rfl)
theorem ne_ownunsafe : (wC == "ownunsafe".toList) = false := by rw [tl_ownunsafe]; kernel_rfl
theorem tl_publicsums : "publicsums".toList = [Char.ofNat 112, Char.ofNat 117, Char.ofNat 98, Char.ofNat 108, Char.ofNat 105, Char.ofNat 99, Char.ofNat 115, Char.ofNat 117, Char.ofNat 109, Char.ofNat 115] := tl (by kernel_rfl)
theorem ne_publicsums : (wC == "publicsums".toList) = false := by rw [tl_publicsums]; kernel_rfl
theorem tl_reflbeside : "reflbeside".toList = [Char.ofNat 114, Char.ofNat 101, Char.ofNat 102, Char.ofNat 108, Char.ofNat 98, Char.ofNat 101, Char.ofNat 115, Char.ofNat 105, Char.ofNat 100, Char.ofNat 101] := tl (by kernel_rfl)
theorem ne_reflbeside : (wC == "reflbeside".toList) = false := by rw [tl_reflbeside]; kernel_rfl
theorem tl_reflectrows : "reflectrows".toList = [Char.ofNat 114, Char.ofNat 101, Char.ofNat 102, Char.ofNat 108, Char.ofNat 101, Char.ofNat 99, Char.ofNat 116, Char.ofNat 114, Char.ofNat 111, Char.ofNat 119, Char.ofNat 115] := tl (by kernel_rfl)
theorem ne_reflectrows : (wC == "reflectrows".toList) = false := by rw [tl_reflectrows]; kernel_rfl
theorem tl_roadunsafe : "roadunsafe".toList = [Char.ofNat 114, Char.ofNat 111, Char.ofNat 97, Char.ofNat 100, Char.ofNat 117, Char.ofNat 110, Char.ofNat 115, Char.ofNat 97, Char.ofNat 102, Char.ofNat 101] := tl (by kernel_rfl)
theorem ne_roadunsafe : (wC == "roadunsafe".toList) = false := by rw [tl_roadunsafe]; kernel_rfl
theorem tl_spec : "spec".toList = [Char.ofNat 115, Char.ofNat 112, Char.ofNat 101, Char.ofNat 99] := tl (by kernel_rfl)
theorem ne_spec : (wC == "spec".toList) = false := by rw [tl_spec]; kernel_rfl
theorem tl_stop : "stop".toList = [Char.ofNat 115, Char.ofNat 116, Char.ofNat 111, Char.ofNat 112] := tl (by kernel_rfl)
theorem ne_stop : (wC == "stop".toList) = false := by rw [tl_stop]; kernel_rfl
theorem eq_cut : (wC == "cut".toList) = true := by rw [tl_cut]; kernel_rfl
theorem eq_harness : (wA == "harness".toList) = true := by rw [tl_harness]; kernel_rfl
theorem sum_wH : isSumSigns wH = true := by kernel_rfl
theorem strip_one (os : List String) (w : List Char) (o : String) (ws : List (List Char)) (h : (w == o.toList) = false) (hr : stripLifts os (w :: ws) = ([], w :: ws)) : stripLifts (o :: os) (w :: ws) = ([], w :: ws) := by
  rw [stripLifts, h]
  exact hr
theorem factStrip (rest : List (List Char)) : stripLifts liftWords (wC :: rest) = ([], wC :: rest) :=
  strip_one _ _ _ _ ne_finals (strip_one _ _ _ _ ne_reflectrows (strip_one _ _ _ _ ne_leanrows (strip_one _ _ _ _ ne_onebuild (strip_one _ _ _ _ ne_publicsums (strip_one _ _ _ _ ne_eqguard (strip_one _ _ _ _ ne_ownunsafe (strip_one _ _ _ _ ne_libbeside (strip_one _ _ _ _ ne_ownbeside (strip_one _ _ _ _ ne_reflbeside (strip_one _ _ _ _ ne_aliases (strip_one _ _ _ _ ne_afterinit (strip_one _ _ _ _ ne_crcplain (strip_one _ _ _ _ ne_roadunsafe (strip_one _ _ _ _ ne_fmthandon (by rw [stripLifts])))))))))))))))
theorem head_eq : Try.prog.initOrder = String.ofList (wA ++ Char.ofNat 32 :: (wH ++ Char.ofNat 32 :: (wC ++ Char.ofNat 32 :: wR))) := by kernel_rfl
theorem words_eq : ∃ rest, behindMainWord (wordsSigns Try.pinned.checked.prog.initOrder.toList) = wC :: rest := by
  refine ⟨wordsSigns wR, ?_⟩
  have e : Try.pinned.checked.prog.initOrder = Try.prog.initOrder := rfl
  rw [e, head_eq, String.toList_ofList, words_at wA _ (by kernel_rfl), words_at wH _ (by kernel_rfl), words_at wC _ (by kernel_rfl), behindMainWord, eq_harness, sum_wH]
  rfl
theorem factLays : Try.pinned.checked.prog.laysLater = false := by kernel_rfl
theorem factBears : Try.pinned.checked.prog.bearsReflect = false := by kernel_rfl
theorem factDoor : Try.pinned.checked.prog.doorFits [] = true := by kernel_rfl
theorem head_is {a : List Char} {l : List (List Char)} {b : List Char} (h : (a == b) = true) : ((a :: l).head? == some b) = true := h
theorem enter_of (P : Program) (rest : List (List Char)) (hr : behindMainWord (wordsSigns P.initOrder.toList) = wC :: rest) (f1 : P.laysLater = false) (f2 : P.bearsReflect = false) (f3 : P.doorFits [] = true) : P.mayEnter = true := by
  have hc : ((wC :: rest).head? == some "cut".toList) = true := head_is eq_cut
  unfold Program.mayEnter
  rw [hr]
  simp only [factStrip, f1, f2, f3, hc, ne_gc, ne_spec, ne_carried, List.contains_nil, Bool.not_false, Bool.or_true, Bool.and_true, Bool.or_false, Bool.false_and]
theorem factEnter : Try.pinned.checked.prog.mayEnter = true := by
  obtain ⟨rest, hr⟩ := words_eq
  exact enter_of _ rest hr factLays factBears factDoor
theorem head_of (P : Program) (rest : List (List Char)) (hr : behindMainWord (wordsSigns P.initOrder.toList) = wC :: rest) : P.headLifts = [] := by
  have hc : ((wC :: rest).head? == some "cut".toList) = true := head_is eq_cut
  unfold Program.headLifts
  rw [hr]
  simp only [factStrip, hc, if_true]
theorem factHead : Try.pinned.checked.prog.headLifts = [] := by
  obtain ⟨rest, hr⟩ := words_eq
  exact head_of _ rest hr
theorem head_not {a : List Char} {l : List (List Char)} {b : List Char} (h : (a == b) = false) : ((a :: l).head? == some b) = false := h
theorem final_of (P : Program) (rest : List (List Char)) (hr : behindMainWord (wordsSigns P.initOrder.toList) = wC :: rest) : P.liftsFinal = false := by
  have hc : ((wC :: rest).head? == some "carried".toList) = false := head_not ne_carried
  unfold Program.liftsFinal
  rw [hr]
  simp only [head_of P rest hr, hc, List.contains_nil, Bool.false_and, Bool.or_false]
theorem factFinal : Try.pinned.checked.prog.liftsFinal = false := by
  obtain ⟨rest, hr⟩ := words_eq
  exact final_of _ rest hr
theorem factLifts : (Rows.fnExactAreLettersRow.lifted == Try.pinned.checked.prog.liftsFinal) = true := by
  rw [factFinal]
  kernel_rfl
theorem make_of (P : Program) (rest : List (List Char)) (hr : behindMainWord (wordsSigns P.initOrder.toList) = wC :: rest) : P.make = some .cut := by
  unfold Program.make
  rw [hr]
  simp only [ne_gc, ne_spec, eq_cut, Bool.or_false, Bool.true_or, if_true, Bool.false_eq_true, if_false]
theorem factMake0 : Try.pinned.checked.prog.make = some Rows.fnExactAreLettersRow.make := by
  obtain ⟨rest, hr⟩ := words_eq
  exact make_of _ rest hr
theorem factMake : (Try.pinned.checked.prog.make == some Rows.fnExactAreLettersRow.make) = true := by
  rw [factMake0]
  kernel_rfl
end Go.Proofs.Ythkafalpjokfeaa
