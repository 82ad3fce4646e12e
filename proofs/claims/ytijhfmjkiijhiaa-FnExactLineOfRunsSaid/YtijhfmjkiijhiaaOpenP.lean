/-
  A slice of pairs of numbers that came in: how it is opened, what a walk is told of it. Used by the claim on LineOfRuns.
-/
import Derived.Test.YtijhfmjkiijhiaaLorL
import Derived.Test.YtijhfmjkiijhiaaTwoW
import Derived.Deep.Slices
import Derived.ChangeSame
namespace Go.Proofs.Ytijhfmjkiijhiaa
open Go.RowKit Go.ChangeShapes Go.WideShapes Go.Deep
set_option linter.unusedVariables false

/-- Pairs in memory, from an offset of a block on. -/
def SrcP (w : World) (a : Option Addr) (b o : Nat) (l : Ps) : Prop := (0 < l.length → a = some ⟨b, o, none⟩) ∧ ∀ (j : Nat) p, l[j]? = some p → w.cell? ⟨b, o + j * 2, none⟩ = some (.int .i64 p.1) ∧ w.cell? ⟨b, o + j * 2 + 1, none⟩ = some (.int .i64 p.2)
theorem SrcP.below {w w' : World} {a : Option Addr} {b o : Nat} {l : Ps} (h : SrcP w a b o l) (hb : Below w.heap.size w w') : SrcP w' a b o l :=
  ⟨h.1, fun j p hp => ⟨(hb.cell (World.block_lt_of_cell? _ _ (h.2 j p hp).1)).trans (h.2 j p hp).1, (hb.cell (World.block_lt_of_cell? _ _ (h.2 j p hp).2)).trans (h.2 j p hp).2⟩⟩
def PsIn (l : Ps) : Prop := ∀ p ∈ l, (-9223372036854775808 ≤ p.1 ∧ p.1 ≤ 9223372036854775807) ∧ (-9223372036854775808 ≤ p.2 ∧ p.2 ≤ 9223372036854775807)
def IsPairs (w : World) (a : Option Addr) (len : Nat) (zs : Ps) : Prop := zs.length = len ∧ len ≤ maxLen ∧ (∃ b o, SrcP w a b o zs) ∧ PsIn zs

section
variable {H : Type} {enc : TypeId × Value → H} {P : Program} {w : World} {base : Nat} {spare : Nat → Bool} {held : Bool}
theorem trod_array2 {t e : TypeId} {fuel : Nat} {c0 c1 : Value} {x : DataW H × List MemPlace} (ht : P.underlying t = some (.array 2 e)) (hce : P.cellsOf e = 1)
    (h : DataW.trod enc P w base spare held fuel t [c0, c1] = some x) :
    ∃ y0 y1 n, DataW.trod enc P w base spare held n e [c0] = some y0 ∧ DataW.trod enc P w base spare held n e [c1] = some y1 := by
  cases fuel with
  | zero => simp [DataW.trod] at h
  | succ n =>
    unfold DataW.trod at h
    rw [ht] at h
    have r2 : List.range 2 = [0, 1] := rfl
    simp [r2, hce] at h
    obtain ⟨_, h⟩ := h
    cases h0 : DataW.trod enc P w base spare held n e [c0] with
    | none => simp [h0] at h
    | some y0 =>
      cases h1 : DataW.trod enc P w base spare held n e [c1] with
      | none => simp [h0, h1] at h
      | some y1 => exact ⟨y0, y1, n, h0, h1⟩
theorem wf_in {n : Int} (h : (Lit.int .i64 n).wf = true) : -9223372036854775808 ≤ n ∧ n ≤ 9223372036854775807 := by
  have h' : (decide (IntKind.i64.min ≤ n) && decide (n ≤ IntKind.i64.max)) = true := h
  have e1 : IntKind.i64.min = -9223372036854775808 := by decide
  have e2 : IntKind.i64.max = 9223372036854775807 := by decide
  rw [e1, e2] at h'
  simpa using h'
theorem open_prs {t e i : TypeId} {fuel : Nat} {cs : List Value} {x : DataW H × List MemPlace} (ht : P.underlying t = some (.slice e)) (he : P.underlying e = some (.array 2 i)) (hi : P.underlying i = some (.int .i64)) (ce : P.cellsOf e = 2) (ci : P.cellsOf i = 1)
    (h : DataW.trod enc P w 0 (fun _ => true) true fuel t cs = some x) : ∃ a len cap zs, cs = [.slice a len cap] ∧ IsPairs w a len zs := by
  rcases open_slice ht h with ⟨rfl, _⟩ | ⟨a, len, cap, m, n, D, Pl, rfl, _, hl, hm, hmm, _, hx⟩
  · exact ⟨none, 0, 0, [], rfl, rfl, by simp, ⟨0, 0, fun h => by simp at h, fun j p hp => by simp at hp⟩, fun p hp => by simp at hp⟩
  · have hmm' : m = cap := by simpa using hmm
    have each : ∀ k, k < len → ∃ q : Int × Int, w.cell? (a.add (k * 2)) = some (.int .i64 q.1) ∧ w.cell? ((a.add (k * 2)).add 1) = some (.int .i64 q.2) ∧ (-9223372036854775808 ≤ q.1 ∧ q.1 ≤ 9223372036854775807) ∧ (-9223372036854775808 ≤ q.2 ∧ q.2 ≤ 9223372036854775807) := by
      intro k hk
      obtain ⟨cs', h1, h2⟩ := hx k (by omega)
      rw [ce] at h1
      obtain ⟨_, hlen, hcell⟩ := World.cells?_some h1
      match cs', hlen with
      | [c0, c1], _ =>
        obtain ⟨y0, y1, f, g0, g1⟩ := trod_array2 he ci h2
        obtain ⟨n0, e0, _, w0⟩ := DataW.trod_int hi g0
        obtain ⟨n1, e1, _, w1⟩ := DataW.trod_int hi g1
        injection e0 with e0
        injection e1 with e1
        subst e0 e1
        have k0 := hcell 0 (by omega)
        have k1 := hcell 1 (by omega)
        exact ⟨(n0, n1), by simpa [Addr.add] using k0, by simpa using k1, wf_in w0, wf_in w1⟩
    obtain ⟨q, hq⟩ := choose_lt each
    obtain ⟨b, off, spot⟩ := a
    have hspot : 0 < len → spot = none := fun h0 => by
      have := World.cell?_spot (hq 0 h0).1
      simpa [Addr.add] using this
    refine ⟨_, len, cap, (List.range len).map q, rfl, by simp, by omega, ⟨b, off, fun h0 => by rw [hspot (by simpa using h0)], fun j p hp => ?_⟩, fun p hp => ?_⟩
    · have hj : j < len := by have := (List.getElem?_eq_some_iff.1 hp).1; simpa using this
      have hpq : p = q j := by
        rw [List.getElem?_map, List.getElem?_range hj] at hp
        simpa using hp.symm
      subst hpq
      obtain rfl := hspot (by omega)
      have h1 := (hq j hj).1
      have h2 := (hq j hj).2.1
      rw [Addr.add_lit] at h1 h2
      rw [Addr.add_lit] at h2
      exact ⟨h1, h2⟩
    · obtain ⟨j, hj, rfl⟩ := List.mem_map.1 hp
      exact (hq j (by simpa using hj)).2.2
end
end Go.Proofs.Ytijhfmjkiijhiaa
