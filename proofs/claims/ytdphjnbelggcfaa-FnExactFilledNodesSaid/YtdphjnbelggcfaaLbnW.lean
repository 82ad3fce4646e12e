/-
  lettersByNode of the program: the map from a Table's nodes to its letters; numbersOf's range. Used by the claims on chapter 9.
-/
import Derived.Test.YtdphjnbelggcfaaNodW
import Derived.Test.YtdphjnbelggcfaaTableW
import Derived.Maps.OwnSet
import Derived.Maps.RangeWalk
namespace Go.Proofs.Ytdphjnbelggcfaa
open Go.RowKit Go.Maps
set_option linter.unusedVariables false

def keyM (d : Nat) : Lit := .int .i64 (d : Int)
theorem keyM_inj {d d' : Nat} (h : keyM d = keyM d') : d = d' := by
  unfold keyM at h
  injection h with _ e2
  omega
theorem keyM_ok (d : Nat) : WideAt.IsKeyLit (keyM d) := trivial
theorem lawM : Keyed Try.prog 76 := int_keyed Try.underlying76
theorem keyM_of {d : Nat} (h : d ≤ 1000) : keyOf Try.prog 76 (.int .i64 (d : Int)) = some (keyM d) := keyOf_int_mk Try.underlying76 (WalkArith.wf_i64 (by omega))

/-- The node of letter i. -/
def ndI (xs : List ByteArray) (i : Nat) : Nat := nd (bl (xs.getD i ⟨#[]⟩))
theorem ndI_eq {xs : List ByteArray} {i : Nat} {x : ByteArray} (h : xs[i]? = some x) : ndI xs i = nd (bl x) := by
  unfold ndI; rw [List.getD_eq_getElem?_getD, h]; rfl
/-- The map in block b: each node of the first k letters, and its letter. -/
structure NodM (xs : List ByteArray) (w : World) (b k : Nat) (D : DataW Value) : Prop where
  own : w.ownsMap Try.prog 76 (plainElem Try.prog 3) b k D
  has_ : ∀ kl, Maps.has D kl = true ↔ ∃ i, i < k ∧ kl = keyM (ndI xs i)
  at_ : ∀ i, i < k → ∀ z, D.atKey (keyM (ndI xs i)) z = .lit (.int .i64 (i : Int))
theorem NodM.kept {xs : List ByteArray} {w w' : World} {b k : Nat} {D : DataW Value} (h : NodM xs w b k D) (hb : Below w.heap.size w w') : NodM xs w' b k D :=
  ⟨h.own.kept (row := none) ⟨hb.os, hb.tape, hb.output, hb.size, fun i hi _ => hb.block i hi⟩ (by simp), h.has_, h.at_⟩
theorem NodM.step {xs : List ByteArray} {w w' : World} {b k : Nat} {D : DataW Value} (h : NodM xs w b k D) (hinj : ∀ i, i < k → ndI xs i ≠ ndI xs k)
    (hown : w'.ownsMap Try.prog 76 (plainElem Try.prog 3) b (k + 1) (D.put (keyM (ndI xs k)) (.lit (.int .i64 (k : Int))))) : NodM xs w' b (k + 1) (D.put (keyM (ndI xs k)) (.lit (.int .i64 (k : Int)))) := by
  refine ⟨hown, fun kl => ?_, fun i hi z => ?_⟩
  · by_cases e : kl = keyM (ndI xs k)
    · subst e
      rw [has_put_same h.own.isMap (keyM_ok _)]
      exact ⟨fun _ => ⟨k, by omega, rfl⟩, fun _ => rfl⟩
    · rw [has_put_other e, h.has_ kl]
      constructor
      · rintro ⟨i, hi, e2⟩; exact ⟨i, by omega, e2⟩
      · rintro ⟨i, hi, e2⟩
        refine ⟨i, ?_, e2⟩
        rcases Nat.lt_or_ge i k with h1 | h1
        · exact h1
        · obtain rfl : i = k := by omega
          exact absurd e2 e
  · by_cases e : i = k
    · subst e
      rw [atKey_put_same h.own.isMap (keyM_ok _)]
    · rw [atKey_put_other (fun e2 => hinj i (by omega) (keyM_inj e2))]
      exact h.at_ i (by omega) z

set_option maxHeartbeats 4000000 in
set_option maxRecDepth 8000 in
theorem lettersByNode_any (a : Option Addr) (b o c : Nat) (xs : List ByteArray) (w : World) (h : ListIn w a b o xs) (hn : ∀ x ∈ xs, noneT x = true) (hl : xs.length ≤ 62) (hinj : ∀ i j, i < j → j < xs.length → ndI xs i ≠ ndI xs j) :
    Calls Try.prog 82 #[.agg #[.slice a xs.length c]] w fun e w' => ∃ B D, e = .returned (.map (some B)) ∧ w.heap.size ≤ B ∧ NodM xs w' B xs.length D ∧ Below w.heap.size w w' := by
  have HS := Lib.hid h
  have HN := Lib.hid hn
  have HI := Lib.hid hinj
  clear h hn hinj
  have hmm := @run_makeMap Try.prog
  have e0 : (w.alloc (.cells #[.slice a xs.length c] 35)).heap.size = w.heap.size + 1 := by simp
  have HG0 : Hid (NodM xs ((w.alloc (.cells #[.slice a xs.length c] 35)).alloc (.map #[] 0)) (w.heap.size + 1) 0 (.map [])) := Lib.hid (by
    refine ⟨?_, fun kl => ⟨fun h => by simp [Maps.has] at h, fun ⟨i, hi, _⟩ => absurd hi (by omega)⟩, fun i hi => absurd hi (by omega)⟩
    have := World.ownsMap_made (w.alloc (.cells #[.slice a xs.length c] 35)) Try.prog 76 (plainElem (H := Value) Try.prog 3)
    rwa [e0] at this)
  have hB1 := Lib.hid ((below_alloc w (.cells #[.slice a xs.length c] 35)).alloc (by simp) (.map #[] 0))
  have HZ0 : Hid (w.heap.size + 2 ≤ ((w.alloc (.cells #[.slice a xs.length c] 35)).alloc (.map #[] 0)).heap.size) := Lib.hid (by simp)
  go_enter Try.func82, Try.ntmps82
  go_wp2
  go_loopw [10] (fun v wr => ∃ (k : Nat) (D : DataW Value), v = .int .i64 k ∧ k ≤ xs.length ∧ Hid (NodM xs wr (w.heap.size + 1) k D) ∧ Hid (Below w.heap.size w wr) ∧ Hid (w.heap.size + 2 ≤ wr.heap.size)) (fun v _ => xs.length - (intOf v).toNat)
  case atStart => exact ⟨0, .map [], rfl, Nat.zero_le _, HG0, hB1, HZ0⟩
  case round =>
    obtain ⟨k, D, rfl, hk, HG, HB, HZ⟩ := hrel
    by_cases hlt : k < xs.length
    · obtain rfl := HS.out.src.1 (by omega)
      have hcell := (HS.out.below HB.out).src.2 k _ (List.getElem?_eq_getElem hlt)
      have HX : Hid (ndI xs k = nd (bl xs[k])) := Lib.hid (ndI_eq (List.getElem?_eq_getElem hlt))
      have hx5 := HN.out _ (List.getElem_mem hlt)
      generalize xs[k] = x at hcell HX hx5
      have hd5 : ndI xs k ≤ 63 := by rw [HX.out]; exact nd_le (by rw [bl_len]; exact noneT_size hx5)
      have HNs := Lib.hid fun W => nodeOf_any x W hx5
      rw [← HX.out] at HNs
      have HJ : Hid (∀ i, i < k → ndI xs i ≠ ndI xs k) := Lib.hid fun i hi => HI.out i k hi hlt
      obtain ⟨d0, hd0⟩ : ∃ d0, d0 = ndI xs k := ⟨_, rfl⟩
      rw [← hd0] at HNs hd5
      have HD0 := Lib.hid hd0
      clear hd0 HX
      go_wp2_with fail
      refine (HNs.out _).mono ?_
      rintro e w1 ⟨rfl, hb1⟩
      have HG1 := Lib.hid (HG.out.kept hb1)
      have HB1 := Lib.hid (HB.out.trans (hb1.mono HB.out.size))
      have hsz1 : w.heap.size + 2 ≤ w1.heap.size := Nat.le_trans HZ.out hb1.size
      clear hb1 hcell
      have HKo := Lib.hid (keyM_of (d := d0) (by omega))
      have HV : Hid (plainElem (H := Value) Try.prog 3 (.int .i64 (k : Int)) = some (.lit (.int .i64 (k : Int)), [])) := Lib.hid (plainElem_int Try.underlying3 (WalkArith.wf_i64 (by omega)))
      go_wp2_with (first
        | (at_mapUpdate; refine wpList_mapUpdate_own _ rfl _ _ _ 83 rfl 76 3 lawM Try.underlying83 _ (w.heap.size + 1) k _ rfl HG1.out.own (by unfold maxLen; omega) _ _ _ rfl rfl HKo.out _ [] HV.out ?_; intro w3 hown3 hgrow3)
        | go_in)
      have HG3 : Hid (NodM xs w3 (w.heap.size + 1) (k + 1) (D.put (keyM (ndI xs k)) (.lit (.int .i64 (k : Int))))) := Lib.hid (HG1.out.step HJ.out (by rw [HD0.out] at hown3; exact hown3))
      have HB3 : Hid (Below w.heap.size w w3) := Lib.hid (HB1.out.grown hgrow3 HB1.out.size (fun q e => by injection e; omega))
      have HZ3 : Hid (w.heap.size + 2 ≤ w3.heap.size) := Lib.hid (Nat.le_trans hsz1 hgrow3.size)
      clear hown3 hgrow3
      go_wp2
      go_roundw
      case rel => exact ⟨k + 1, _, by go_num, by omega, HG3, HB3, HZ3⟩
      case measure => simp [intOf]; omega
    · obtain rfl : k = xs.length := by omega
      go_wp2
      go_ret
      exact ⟨w.heap.size + 1, D, rfl, by omega, HG.out, HB.out⟩
end Go.Proofs.Ytdphjnbelggcfaa
