/-
  Slices of jobs and of hops that came in, and one job: how they are opened, what a walk is told of them. Used by the claims on chapter 10.
-/
import Derived.Test.YtiialbnfgichhaaJobL
import Derived.Deep.Slices
import Derived.ChangeSame
import Derived.Below
import Derived.OpenShut
namespace Go.Proofs.Ytiialbnfgichhaa
open Go.RowKit Go.ChangeShapes Go.WideShapes Go.Deep
set_option linter.unusedVariables false

/-- Jobs in memory, from an offset of a block on. -/
def SrcJ (w : World) (a : Option Addr) (b o : Nat) (l : List Jb) : Prop := (0 < l.length → a = some ⟨b, o, none⟩) ∧ ∀ (j : Nat) p, l[j]? = some p → w.cell? ⟨b, o + j * 4, none⟩ = some (.int .i64 p.fr) ∧ w.cell? ⟨b, o + j * 4 + 1, none⟩ = some (.int .i64 p.to) ∧ w.cell? ⟨b, o + j * 4 + 2, none⟩ = some (.int .i64 p.sp) ∧ w.cell? ⟨b, o + j * 4 + 3, none⟩ = some (.int .i64 p.st)
def SrcH (w : World) (a : Option Addr) (b o : Nat) (l : List Hp) : Prop := (0 < l.length → a = some ⟨b, o, none⟩) ∧ ∀ (j : Nat) p, l[j]? = some p → w.cell? ⟨b, o + j * 3, none⟩ = some (.int .i64 p.jb) ∧ w.cell? ⟨b, o + j * 3 + 1, none⟩ = some (.int .i64 p.fr) ∧ w.cell? ⟨b, o + j * 3 + 2, none⟩ = some (.int .i64 p.bg)
theorem cellB {w w' : World} {p : Addr} {v : Value} (h : w.cell? p = some v) (hb : Below w.heap.size w w') : w'.cell? p = some v := (hb.cell (World.block_lt_of_cell? _ _ h)).trans h
theorem SrcJ.below {w w' : World} {a : Option Addr} {b o : Nat} {l : List Jb} (h : SrcJ w a b o l) (hb : Below w.heap.size w w') : SrcJ w' a b o l :=
  ⟨h.1, fun j p hp => ⟨cellB (h.2 j p hp).1 hb, cellB (h.2 j p hp).2.1 hb, cellB (h.2 j p hp).2.2.1 hb, cellB (h.2 j p hp).2.2.2 hb⟩⟩
theorem SrcH.below {w w' : World} {a : Option Addr} {b o : Nat} {l : List Hp} (h : SrcH w a b o l) (hb : Below w.heap.size w w') : SrcH w' a b o l :=
  ⟨h.1, fun j p hp => ⟨cellB (h.2 j p hp).1 hb, cellB (h.2 j p hp).2.1 hb, cellB (h.2 j p hp).2.2 hb⟩⟩
def IsJobs (w : World) (a : Option Addr) (len : Nat) (zs : List Jb) : Prop := zs.length = len ∧ len ≤ maxLen ∧ (∃ b o, SrcJ w a b o zs) ∧ ∀ j ∈ zs, JbIn j
def IsHops (w : World) (a : Option Addr) (len : Nat) (zs : List Hp) : Prop := zs.length = len ∧ len ≤ maxLen ∧ (∃ b o, SrcH w a b o zs) ∧ ∀ j ∈ zs, HpIn j
theorem wf_64 {n : Int} (h : (Lit.int .i64 n).wf = true) : In64 n := by
  have h' : (decide (IntKind.i64.min ≤ n) && decide (n ≤ IntKind.i64.max)) = true := h
  have e1 : IntKind.i64.min = -9223372036854775808 := by decide
  have e2 : IntKind.i64.max = 9223372036854775807 := by decide
  rw [e1, e2] at h'
  simpa [In64] using h'

section
variable {H : Type} {enc : TypeId × Value → H} {P : Program} {w : World} {base : Nat} {spare : Nat → Bool} {held : Bool}
theorem trod_ints4 {e i : TypeId} {fuel : Nat} {f0 f1 f2 f3 : Field} {c0 c1 c2 c3 : Value} {x : DataW H × List MemPlace} (he : P.underlying e = some (.struct #[f0, f1, f2, f3])) (hi : P.underlying i = some (.int .i64)) (ci : P.cellsOf i = 1)
    (t0 : f0.type = i) (t1 : f1.type = i) (t2 : f2.type = i) (t3 : f3.type = i) (o0 : f0.offset = 0) (o1 : f1.offset = 1) (o2 : f2.offset = 2) (o3 : f3.offset = 3)
    (h : DataW.trod enc P w base spare held fuel e [c0, c1, c2, c3] = some x) : ∃ n0 n1 n2 n3, c0 = .int .i64 n0 ∧ c1 = .int .i64 n1 ∧ c2 = .int .i64 n2 ∧ c3 = .int .i64 n3 ∧ In64 n0 ∧ In64 n1 ∧ In64 n2 ∧ In64 n3 := by
  obtain ⟨xs, k, _, _, _, hxl, hf⟩ := DataW.trod_struct he h
  match xs, hxl with
  | [y0, y1, y2, y3], _ =>
    have g0 := hf 0 f0 rfl
    have g1 := hf 1 f1 rfl
    have g2 := hf 2 f2 rfl
    have g3 := hf 3 f3 rfl
    rw [t0, o0, ci] at g0
    rw [t1, o1, ci] at g1
    rw [t2, o2, ci] at g2
    rw [t3, o3, ci] at g3
    obtain ⟨n0, e0, _, w0⟩ := DataW.trod_int hi (show DataW.trod enc P w base spare held k i [c0] = some y0 from g0)
    obtain ⟨n1, e1, _, w1⟩ := DataW.trod_int hi (show DataW.trod enc P w base spare held k i [c1] = some y1 from g1)
    obtain ⟨n2, e2, _, w2⟩ := DataW.trod_int hi (show DataW.trod enc P w base spare held k i [c2] = some y2 from g2)
    obtain ⟨n3, e3, _, w3⟩ := DataW.trod_int hi (show DataW.trod enc P w base spare held k i [c3] = some y3 from g3)
    injection e0 with e0
    injection e1 with e1
    injection e2 with e2
    injection e3 with e3
    exact ⟨n0, n1, n2, n3, e0, e1, e2, e3, wf_64 w0, wf_64 w1, wf_64 w2, wf_64 w3⟩
theorem trod_ints3 {e i : TypeId} {fuel : Nat} {f0 f1 f2 : Field} {c0 c1 c2 : Value} {x : DataW H × List MemPlace} (he : P.underlying e = some (.struct #[f0, f1, f2])) (hi : P.underlying i = some (.int .i64)) (ci : P.cellsOf i = 1)
    (t0 : f0.type = i) (t1 : f1.type = i) (t2 : f2.type = i) (o0 : f0.offset = 0) (o1 : f1.offset = 1) (o2 : f2.offset = 2)
    (h : DataW.trod enc P w base spare held fuel e [c0, c1, c2] = some x) : ∃ n0 n1 n2, c0 = .int .i64 n0 ∧ c1 = .int .i64 n1 ∧ c2 = .int .i64 n2 ∧ In64 n0 ∧ In64 n1 ∧ In64 n2 := by
  obtain ⟨xs, k, _, _, _, hxl, hf⟩ := DataW.trod_struct he h
  match xs, hxl with
  | [y0, y1, y2], _ =>
    have g0 := hf 0 f0 rfl
    have g1 := hf 1 f1 rfl
    have g2 := hf 2 f2 rfl
    rw [t0, o0, ci] at g0
    rw [t1, o1, ci] at g1
    rw [t2, o2, ci] at g2
    obtain ⟨n0, e0, _, w0⟩ := DataW.trod_int hi (show DataW.trod enc P w base spare held k i [c0] = some y0 from g0)
    obtain ⟨n1, e1, _, w1⟩ := DataW.trod_int hi (show DataW.trod enc P w base spare held k i [c1] = some y1 from g1)
    obtain ⟨n2, e2, _, w2⟩ := DataW.trod_int hi (show DataW.trod enc P w base spare held k i [c2] = some y2 from g2)
    injection e0 with e0
    injection e1 with e1
    injection e2 with e2
    exact ⟨n0, n1, n2, e0, e1, e2, wf_64 w0, wf_64 w1, wf_64 w2⟩
theorem open_jbs {t e i : TypeId} {fuel : Nat} {f0 f1 f2 f3 : Field} {cs : List Value} {x : DataW H × List MemPlace} (ht : P.underlying t = some (.slice e)) (he : P.underlying e = some (.struct #[f0, f1, f2, f3])) (hi : P.underlying i = some (.int .i64)) (ce : P.cellsOf e = 4) (ci : P.cellsOf i = 1)
    (t0 : f0.type = i) (t1 : f1.type = i) (t2 : f2.type = i) (t3 : f3.type = i) (o0 : f0.offset = 0) (o1 : f1.offset = 1) (o2 : f2.offset = 2) (o3 : f3.offset = 3)
    (h : DataW.trod enc P w 0 (fun _ => true) true fuel t cs = some x) : ∃ a len cap zs, cs = [.slice a len cap] ∧ IsJobs w a len zs := by
  rcases open_slice ht h with ⟨rfl, _⟩ | ⟨a, len, cap, m, n, D, Pl, rfl, _, hl, hm, hmm, _, hx⟩
  · exact ⟨none, 0, 0, [], rfl, rfl, by simp, ⟨0, 0, fun h => by simp at h, fun j p hp => by simp at hp⟩, fun p hp => by simp at hp⟩
  · have hmm' : m = cap := by simpa using hmm
    have each : ∀ k, k < len → ∃ q : Jb, w.cell? (a.add (k * 4)) = some (.int .i64 q.fr) ∧ w.cell? ((a.add (k * 4)).add 1) = some (.int .i64 q.to) ∧ w.cell? ((a.add (k * 4)).add 2) = some (.int .i64 q.sp) ∧ w.cell? ((a.add (k * 4)).add 3) = some (.int .i64 q.st) ∧ JbIn q := by
      intro k hk
      obtain ⟨cs', h1, h2⟩ := hx k (by omega)
      rw [ce] at h1
      obtain ⟨_, hlen, hcell⟩ := World.cells?_some h1
      match cs', hlen with
      | [c0, c1, c2, c3], _ =>
        obtain ⟨n0, n1, n2, n3, e0, e1, e2, e3, w0, w1, w2, w3⟩ := trod_ints4 he hi ci t0 t1 t2 t3 o0 o1 o2 o3 h2
        subst e0 e1 e2 e3
        have k0 := hcell 0 (by omega)
        have k1 := hcell 1 (by omega)
        have k2 := hcell 2 (by omega)
        have k3 := hcell 3 (by omega)
        exact ⟨⟨n0, n1, n2, n3⟩, by simpa [Addr.add] using k0, by simpa using k1, by simpa using k2, by simpa using k3, ⟨w0, w1, w2, w3⟩⟩
    obtain ⟨q, hq⟩ := choose_lt each
    obtain ⟨b, off, spot⟩ := a
    have hspot : 0 < len → spot = none := fun h0 => by
      have := World.cell?_spot (hq 0 h0).1
      simpa [Addr.add] using this
    refine ⟨_, len, cap, (List.range len).map q, rfl, by simp, by omega, ⟨b, off, fun h0 => by rw [hspot (by simpa using h0)], fun j p hp => ?_⟩, fun p hp => ?_⟩
    · have hj : j < len := by have := (List.getElem?_eq_some_iff.1 hp).1; simpa using this
      have hpq : p = q j := by
        rw [List.getElem?_map, List.getElem?_range hj] at hp
        simpa using hp.symm
      subst hpq
      obtain rfl := hspot (by omega)
      have h1 := (hq j hj).1
      have h2 := (hq j hj).2.1
      have h3 := (hq j hj).2.2.1
      have h4 := (hq j hj).2.2.2.1
      rw [Addr.add_lit] at h1 h2 h3 h4
      rw [Addr.add_lit] at h2 h3 h4
      exact ⟨h1, h2, h3, h4⟩
    · obtain ⟨j, hj, rfl⟩ := List.mem_map.1 hp
      exact (hq j (by simpa using hj)).2.2.2.2
theorem open_hps {t e i : TypeId} {fuel : Nat} {f0 f1 f2 : Field} {cs : List Value} {x : DataW H × List MemPlace} (ht : P.underlying t = some (.slice e)) (he : P.underlying e = some (.struct #[f0, f1, f2])) (hi : P.underlying i = some (.int .i64)) (ce : P.cellsOf e = 3) (ci : P.cellsOf i = 1)
    (t0 : f0.type = i) (t1 : f1.type = i) (t2 : f2.type = i) (o0 : f0.offset = 0) (o1 : f1.offset = 1) (o2 : f2.offset = 2)
    (h : DataW.trod enc P w 0 (fun _ => true) true fuel t cs = some x) : ∃ a len cap zs, cs = [.slice a len cap] ∧ IsHops w a len zs := by
  rcases open_slice ht h with ⟨rfl, _⟩ | ⟨a, len, cap, m, n, D, Pl, rfl, _, hl, hm, hmm, _, hx⟩
  · exact ⟨none, 0, 0, [], rfl, rfl, by simp, ⟨0, 0, fun h => by simp at h, fun j p hp => by simp at hp⟩, fun p hp => by simp at hp⟩
  · have hmm' : m = cap := by simpa using hmm
    have each : ∀ k, k < len → ∃ q : Hp, w.cell? (a.add (k * 3)) = some (.int .i64 q.jb) ∧ w.cell? ((a.add (k * 3)).add 1) = some (.int .i64 q.fr) ∧ w.cell? ((a.add (k * 3)).add 2) = some (.int .i64 q.bg) ∧ HpIn q := by
      intro k hk
      obtain ⟨cs', h1, h2⟩ := hx k (by omega)
      rw [ce] at h1
      obtain ⟨_, hlen, hcell⟩ := World.cells?_some h1
      match cs', hlen with
      | [c0, c1, c2], _ =>
        obtain ⟨n0, n1, n2, e0, e1, e2, w0, w1, w2⟩ := trod_ints3 he hi ci t0 t1 t2 o0 o1 o2 h2
        subst e0 e1 e2
        have k0 := hcell 0 (by omega)
        have k1 := hcell 1 (by omega)
        have k2 := hcell 2 (by omega)
        exact ⟨⟨n0, n1, n2⟩, by simpa [Addr.add] using k0, by simpa using k1, by simpa using k2, ⟨w0, w1, w2⟩⟩
    obtain ⟨q, hq⟩ := choose_lt each
    obtain ⟨b, off, spot⟩ := a
    have hspot : 0 < len → spot = none := fun h0 => by
      have := World.cell?_spot (hq 0 h0).1
      simpa [Addr.add] using this
    refine ⟨_, len, cap, (List.range len).map q, rfl, by simp, by omega, ⟨b, off, fun h0 => by rw [hspot (by simpa using h0)], fun j p hp => ?_⟩, fun p hp => ?_⟩
    · have hj : j < len := by have := (List.getElem?_eq_some_iff.1 hp).1; simpa using this
      have hpq : p = q j := by
        rw [List.getElem?_map, List.getElem?_range hj] at hp
        simpa using hp.symm
      subst hpq
      obtain rfl := hspot (by omega)
      have h1 := (hq j hj).1
      have h2 := (hq j hj).2.1
      have h3 := (hq j hj).2.2.1
      rw [Addr.add_lit] at h1 h2 h3
      rw [Addr.add_lit] at h2 h3
      exact ⟨h1, h2, h3⟩
    · obtain ⟨j, hj, rfl⟩ := List.mem_map.1 hp
      exact (hq j (by simpa using hj)).2.2.2
theorem open_job {t i : TypeId} {cs : Array Value} {d : DataW H} {p : List MemPlace} {f0 f1 f2 f3 : Field} (ht : P.underlying t = some (.struct #[f0, f1, f2, f3])) (hi : P.underlying i = some (.int .i64)) (hc : P.cellsOf t = 4) (ci : P.cellsOf i = 1)
    (t0 : f0.type = i) (t1 : f1.type = i) (t2 : f2.type = i) (t3 : f3.type = i) (o0 : f0.offset = 0) (o1 : f1.offset = 1) (o2 : f2.offset = 2) (o3 : f3.offset = 3)
    (h : DataW.Trod enc P w 0 (fun _ => true) true t (.agg cs) d p) : ∃ j : Jb, cs = #[.int .i64 j.fr, .int .i64 j.to, .int .i64 j.sp, .int .i64 j.st] ∧ JbIn j := by
  obtain ⟨fuel, hf⟩ := h
  have hcells : (Value.agg cs).cells.toList = cs.toList := by simp [Value.cells]
  rw [hcells] at hf
  obtain ⟨xs, k, _, _, hlen, _, _⟩ := DataW.trod_struct ht hf
  rw [hc] at hlen
  obtain ⟨c0, c1, c2, c3, hv⟩ : ∃ c0 c1 c2 c3, cs = #[c0, c1, c2, c3] := by
    obtain ⟨l⟩ := cs
    match l, hlen with
    | [a, b, c, d], _ => exact ⟨a, b, c, d, rfl⟩
  subst hv
  obtain ⟨n0, n1, n2, n3, e0, e1, e2, e3, w0, w1, w2, w3⟩ := trod_ints4 ht hi ci t0 t1 t2 t3 o0 o1 o2 o3 hf
  subst e0 e1 e2 e3
  exact ⟨⟨n0, n1, n2, n3⟩, rfl, ⟨w0, w1, w2, w3⟩⟩
end
end Go.Proofs.Ytiialbnfgichhaa
