/-
  partsAt of the program: the parts that are not empty. Used by the claims on chapter 11.
-/
import Derived.Test.YthkafalpjokfeaaPtW
import Derived.Test.YthkafalpjokfeaaShf
namespace Go.Proofs.Ythkafalpjokfeaa
open Go.RowKit Go.Shelf
set_option linter.unusedVariables false

abbrev Sl := Option Addr × Nat × Nat
def encS (x : Sl) : Value := .slice x.1 x.2.1 x.2.2
theorem oneS : OneCell encS := fun x => rfl
def isNo (x : Sl) : Bool := (x.2.1 : Int) == 0
theorem gives_no (W : World) (x : Sl) : FnGives Try.prog 119 #[] #[encS x] (.bool (isNo x)) W := by
  obtain ⟨a, n, c⟩ := x
  show Calls Try.prog 119 #[.slice a n c] W _
  have HB : Hid (isNo (a, n, c) = ((n : Int) == 0)) := Lib.hid rfl
  rw [HB.out]
  go_enter Try.func119, Try.ntmps119
  go_wp2
  go_ret
  exact ⟨by simp, 0, rfl⟩

/-- Lists of numbers lie in a block of slices. -/
def Lies (W : World) (g : Nat) (ps : List (List Nat)) : Prop := ∀ (j : Nat) (hj : j < ps.length), ∃ a gj c, W.cell? ⟨g, j, none⟩ = some (.slice a ps[j].length c) ∧ SrcV W a gj (ints ps[j])
theorem Lies.below {W W' : World} {g : Nat} {ps : List (List Nat)} (h : Lies W g ps) (hb : Below W.heap.size W W') : Lies W' g ps := fun j hj => by
  obtain ⟨a, gj, c, h1, h2⟩ := h j hj
  exact ⟨a, gj, c, cell_belowB hb h1, h2.below hb⟩

theorem slices_delF (g : Nat) (d : Array Sl) (w : World) (hH : Sort.Holds encS w g 0 d) (hsz : d.size ≤ 9223372036854775807) :
    Calls Try.prog 118 #[.slice (some ⟨g, 0, none⟩) d.size d.size, .func (.func 119) #[] #[]] w fun e w' => e = .returned (.slice (some ⟨g, 0, none⟩) (d.toList.filter fun x => !isNo x).length d.size) ∧ ∃ q, w' = Sort.putRow encS (Sort.ahead w q) g 0 ((d.toList.filter fun x => !isNo x) ++ List.replicate (d.size - (d.toList.filter fun x => !isNo x).length) ((none, 0, 0) : Sl)).toArray :=
  AnyE.slices_DeleteFunc Try.delF encS oneS isNo 119 #[] (enters_of Try.func119 (by kernel_rfl) rfl) ((none, 0, 0) : Sl) Try.zeroValue25 g 0 d.size d w (fun W x _ => gives_no W x) (fun n os dk x _ => gives_no _ x) hH hsz (Nat.le_refl _)
theorem below_put {n : Nat} {w W : World} (h : Below n w W) (q g : Nat) (hg : n ≤ g) (d : Array Sl) : Below n w (Sort.putRow encS (Sort.ahead W q) g 0 d) := by
  refine ⟨h.os, h.tape, h.output, ?_, fun i hi => ?_⟩
  · have h1 := h.size
    simpa [Sort.putRow, Sort.mapBlock, Sort.ahead] using h1
  · rw [← h.block i hi]
    simp only [Sort.putRow, Sort.mapBlock, Sort.ahead, Array.getElem?_modify]
    rw [if_neg (by omega)]
theorem lies_put {W : World} {g q : Nat} (L : List (Sl × List Nat)) (hL : ∀ z ∈ L, z.1.2.1 = z.2.length ∧ ∃ gj, SrcV W z.1.1 gj (ints z.2) ∧ (0 < z.2.length → gj ≠ g)) (hH : Sort.Holds encS W g 0 (L.map Prod.fst).toArray) :
    ((L.map Prod.fst).filter fun x => !isNo x).length = ((L.map Prod.snd).filter fun l => decide (l ≠ [])).length ∧
    Lies (Sort.putRow encS (Sort.ahead W q) g 0 (((L.map Prod.fst).filter fun x => !isNo x) ++ List.replicate ((L.map Prod.fst).toArray.size - ((L.map Prod.fst).filter fun x => !isNo x).length) ((none, 0, 0) : Sl)).toArray) g ((L.map Prod.snd).filter fun l => decide (l ≠ [])) := by
  have hc : L.filter ((fun x => !isNo x) ∘ Prod.fst) = L.filter ((fun l => decide (l ≠ [])) ∘ Prod.snd) := by
    apply List.filter_congr
    intro z hz
    have h1 := (hL z hz).1
    show (!isNo z.1) = decide (z.2 ≠ [])
    unfold isNo
    rw [h1]
    cases z.2 with
    | nil => rfl
    | cons a r =>
      have : (((a :: r).length : Int) == 0) = false := beq_false_of_ne (by simp; omega)
      rw [this]; simp
  have e1 : ((L.map Prod.fst).filter fun x => !isNo x) = (L.filter ((fun l => decide (l ≠ [])) ∘ Prod.snd)).map Prod.fst := by rw [List.filter_map, hc]
  have e2 : ((L.map Prod.snd).filter fun l => decide (l ≠ [])) = (L.filter ((fun l => decide (l ≠ [])) ∘ Prod.snd)).map Prod.snd := by rw [List.filter_map]
  rw [e1, e2]
  have hsub : ∀ z ∈ L.filter ((fun l => decide (l ≠ [])) ∘ Prod.snd), z ∈ L := fun z hz => (List.mem_filter.1 hz).1
  have hle : (L.filter ((fun l => decide (l ≠ [])) ∘ Prod.snd)).length ≤ L.length := List.length_filter_le _ _
  generalize L.filter ((fun l => decide (l ≠ [])) ∘ Prod.snd) = M at hsub hle
  refine ⟨by rw [List.length_map, List.length_map], fun j hj => ?_⟩
  rw [List.length_map] at hj
  obtain ⟨h1, gj, h2, h3⟩ := hL _ (hsub _ (List.getElem_mem hj))
  have hz : ((M.map Prod.fst) ++ List.replicate ((L.map Prod.fst).toArray.size - (M.map Prod.fst).length) ((none, 0, 0) : Sl)).toArray.size = (L.map Prod.fst).toArray.size := by
    simp only [List.size_toArray, List.length_append, List.length_map, List.length_replicate]
    omega
  have hcell := Sort.cell?_putRow encS (Sort.ahead W q) g 0 (L.map Prod.fst).toArray _ hH hz j (by rw [hz]; simp; omega)
  have hget : ((M.map Prod.fst) ++ List.replicate ((L.map Prod.fst).toArray.size - (M.map Prod.fst).length) ((none, 0, 0) : Sl)).toArray[j]! = M[j].1 := by
    rw [getElem!_pos _ j (by rw [hz]; simp; omega)]
    simp only [List.getElem_toArray]
    rw [List.getElem_append_left (by rw [List.length_map]; exact hj), List.getElem_map]
  rw [hget, Nat.zero_add] at hcell
  have hs : (M.map Prod.snd)[j]'(by rw [List.length_map]; exact hj) = M[j].2 := by rw [List.getElem_map]
  rw [hs]
  refine ⟨M[j].1.1, gj, M[j].1.2.2, ?_, h2.1, fun k v hv => ?_⟩
  · rw [hcell, ← h1]; rfl
  · have hk : k < (ints M[j].2).length := (List.getElem?_eq_some_iff.1 hv).1
    rw [ints_len] at hk
    exact (Sort.cell?_putRow_other encS (Sort.ahead W q) g 0 _ ⟨gj, k, none⟩ (.inl (h3 (by omega)))).trans (h2.2 k v hv)

set_option maxHeartbeats 4000000 in
set_option maxRecDepth 8000 in
theorem partsAt_any (a : Option Addr) (b o c : Nat) (xs : List ByteArray) (a1 : Option Addr) (g1 c1 : Nat) (m : List Nat) (p : Nat) (w : World) (h : ListIn w a b o xs) (hs : SrcV w a1 g1 (ints m)) (hm : ∀ i ∈ m, i < xs.length) (h5 : ∀ i ∈ m, (atL xs i).size ≤ 5) (hml : m.length ≤ 10) (hp : p ≤ 5) :
    Calls Try.prog 95 #[.agg #[.slice a xs.length c], .slice a1 m.length c1, .int .i64 p] w fun e w' => ∃ g, e = .returned (.slice (some ⟨g, 0, none⟩) (prts xs m p).length 3) ∧ w.heap.size ≤ g ∧ Lies w' g (prts xs m p) ∧ Below w.heap.size w w' := by
  have F := Lib.hid fun W hb => partBy_any a b o c xs a1 g1 c1 m p W (h.below (w' := W) hb) (hs.below hb) hm h5 hml hp
  have HB0 := Lib.hid (below_alloc w (.cells #[.slice a xs.length c] 29))
  clear h hs hm h5
  go_enter Try.func95, Try.ntmps95
  go_wp2_with fail
  refine (F.out _ HB0.out).mono ?_
  rintro e w1 ⟨sv, rfl, hR, hb⟩
  have HB1 := Lib.hid (HB0.out.trans (hb.mono HB0.out.size))
  obtain ⟨a0, n0, h0⟩ := hR.form 0
  obtain ⟨a2, n2, h1⟩ := hR.form 1
  obtain ⟨a3, n3, h2⟩ := hR.form 2
  have hz := hb.size
  have HR := Lib.hid hR
  have HV := Lib.hid (And.intro h0 (And.intro h1 h2))
  rw [h0, h1, h2]
  clear hb h0 h1 h2 hR
  have hT := tri_new w1 (fun q => if q = 0 then .slice a0 (partK xs m p 0).length n0 else if q = 1 then .slice a2 (partK xs m p 1).length n2 else .slice a3 (partK xs m p 2).length n3)
  have hH : Sort.Holds encS (w1.alloc (.cells #[.slice a0 (partK xs m p 0).length n0, .slice a2 (partK xs m p 1).length n2, .slice a3 (partK xs m p 2).length n3] 49)) w1.heap.size 0 ([(((a0, (partK xs m p 0).length, n0) : Sl), partK xs m p 0), ((a2, (partK xs m p 1).length, n2), partK xs m p 1), ((a3, (partK xs m p 2).length, n3), partK xs m p 2)].map Prod.fst).toArray := by
    intro j hj
    have hj3 : j < 3 := hj
    have c1 := hT.cell j hj3
    have c2 := hT.frozen j
    rw [Nat.zero_add]
    rcases (show j = 0 ∨ j = 1 ∨ j = 2 by omega) with rfl | rfl | rfl
    · exact ⟨c1, c2⟩
    · exact ⟨c1, c2⟩
    · exact ⟨c1, c2⟩
  have hDel := slices_delF w1.heap.size _ _ hH (by show (3 : Nat) ≤ _; omega)
  have hLL : ∀ z ∈ [(((a0, (partK xs m p 0).length, n0) : Sl), partK xs m p 0), ((a2, (partK xs m p 1).length, n2), partK xs m p 1), ((a3, (partK xs m p 2).length, n3), partK xs m p 2)], z.1.2.1 = z.2.length ∧ ∃ gj, SrcV (w1.alloc (.cells #[.slice a0 (partK xs m p 0).length n0, .slice a2 (partK xs m p 1).length n2, .slice a3 (partK xs m p 2).length n3] 49)) z.1.1 gj (ints z.2) ∧ (0 < z.2.length → gj ≠ w1.heap.size) := by
    have key : ∀ q av cv, sv q = .slice av (partK xs m p q).length cv → ∃ gj, SrcV (w1.alloc (.cells #[.slice a0 (partK xs m p 0).length n0, .slice a2 (partK xs m p 1).length n2, .slice a3 (partK xs m p 2).length n3] 49)) av gj (ints (partK xs m p q)) ∧ (0 < (partK xs m p q).length → gj ≠ w1.heap.size) := by
      intro q av cv hq
      obtain ⟨ax, gx, cx, e1, e2, _, _⟩ := seq_of_row (HR.out.row q)
      rw [hq] at e1
      injection e1 with e3 _ _
      subst e3
      refine ⟨gx, e2.alloc _, fun h0 => ?_⟩
      have := srcV_lt e2 (by rw [ints_len]; exact h0)
      omega
    intro z hz
    simp only [List.mem_cons, List.not_mem_nil, or_false] at hz
    rcases hz with rfl | rfl | rfl
    · exact ⟨rfl, key 0 _ _ HV.out.1⟩
    · exact ⟨rfl, key 1 _ _ HV.out.2.1⟩
    · exact ⟨rfl, key 2 _ _ HV.out.2.2⟩
  have HF := Lib.hid fun q => lies_put (q := q) _ hLL hH
  have HD := Lib.hid hDel
  have HB2 := Lib.hid (HB1.out.alloc HB1.out.size (.cells #[.slice a0 (partK xs m p 0).length n0, .slice a2 (partK xs m p 1).length n2, .slice a3 (partK xs m p 2).length n3] 49))
  have HZ1 := Lib.hid HB1.out.size
  clear hT hH hDel hLL hz
  go_wp2_with fail
  refine HD.out.mono ?_
  rintro e w2 ⟨rfl, q, rfl⟩
  have HE := Lib.hid (HF.out q)
  go_wp2
  go_ret
  refine ⟨w1.heap.size, ?_, HZ1.out, HE.out.2, below_put HB2.out q _ HZ1.out _⟩
  rw [show (prts xs m p).length = _ from HE.out.1.symm]; rfl
end Go.Proofs.Ythkafalpjokfeaa
