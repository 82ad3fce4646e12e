/-
  Contract of the program's SplitString: the parts of a text, in a slice of its own. Used by the claims on SplitString, VerifyChecksum, FnStrings, FnSplitJoin.
-/
import Derived.Test.YtfjedcjpgmledaaPartsW
import Derived.Test.YtfjedcjpgmledaaAppTwo
namespace Go.Proofs.Ytfjedcjpgmledaa
open Go.RowKit Go.Shelf
set_option linter.unusedVariables false

attribute [local go_sem] Oper.semAt_some

/-- What SplitString's own variables hold when the parts 'pre' have come: the box of the slice; below the call nothing has turned. -/
def SplitInv (w : World) (Bp Bs : Nat) (pre : List ByteArray) (W : World) : Prop :=
  (∃ v, Boxed W Bp 24 v ∧ StartOr W Bs 9 1 v pre.length (pre.map Value.string)) ∧ Below w.heap.size w W ∧ Bs ≤ W.heap.size

theorem splitInv_own (w : World) (Bp Bs : Nat) (hBs : w.heap.size ≤ Bs) : OwnFrom Bs (SplitInv w Bp Bs) := by
  rintro pre X Y row ⟨⟨v, hv, hs⟩, hB, hz⟩ hg hrow
  refine ⟨⟨v, hv.kept hg (fun e' => ?_), ?_⟩, hB.grown hg (Nat.le_trans hBs hz) (fun k e => Nat.le_trans hBs (hrow k e).1), Nat.le_trans hz hg.size⟩
  · obtain ⟨_, o, ho, hc⟩ := hrow Bp e'.symm
    rw [show X.heap[Bp]? = _ from hv] at ho; cases ho; cases hc
  · rcases hs with h | hr
    · exact .inl h
    · refine .inr (hr.kept hg ?_)
      rcases hr.2 with ⟨rfl, _⟩ | ⟨g, cap, cur, rfl, _, hgb, _⟩
      · exact .inl rfl
      · refine .inr fun e' => ?_
        obtain ⟨_, o, ho, hc⟩ := hrow g (by simpa [Value.ownBlock] using e'.symm)
        rw [hgb] at ho; cases ho; cases hc

/-- One part more. -/
theorem splitInv_step {w W w1 : World} {Bp Bs : Nat} {pre : List ByteArray} {x : ByteArray} {v v' : Value} (h1 : w.heap.size ≤ Bp) (h2 : Bp < Bs) (hv : Boxed W Bp 24 v) (hB : Below w.heap.size w W) (hz : Bs ≤ W.heap.size)
    (hown : w1.ownsRow Bs 9 1 v' (pre.length + 1) (pre.map Value.string ++ [Value.string x])) (hb : Below Bs (W.alloc (.cells #[.string x] 9)) w1) (hk : KeepsOthers (W.alloc (.cells #[.string x] 9)) w1) :
    Boxed w1 Bp 24 v ∧ (∀ B1 B2, B1 < Bs → B2 < Bs → B1 ≠ Bp → B2 ≠ Bp → SameTwo B1 B2 W (w1.setCell ⟨Bp, 0, none⟩ v')) ∧ KeepsOthers W (w1.setCell ⟨Bp, 0, none⟩ v') ∧ SplitInv w Bp Bs (pre ++ [x]) (w1.setCell ⟨Bp, 0, none⟩ v') := by
  have hb2 : Below Bs W w1 := ((Below.refl Bs W).alloc hz _).trans hb
  have hv1 : Boxed w1 Bp 24 v := (hb2.block Bp h2).trans hv
  refine ⟨hv1, fun B1 B2 k1 k2 n1 n2 => ⟨?_, ?_⟩, ((KeepsOthers.alloc W _).trans hk).trans (KeepsOthers.setCell _ _ _), ⟨v', hv1.set v', .inr ?_⟩, ?_, ?_⟩
  · exact (Below.heap_setCell _ _ _ _ n1).trans (hb2.block B1 k1)
  · exact (Below.heap_setCell _ _ _ _ n2).trans (hb2.block B2 k2)
  · have := ownsRow_setCell_below hown (a := ⟨Bp, 0, none⟩) h2 v'
    simpa using this
  · exact (hB.trans ((hb2.mono (by omega)).setCell (p := ⟨Bp, 0, none⟩) h1 v'))
  · have := hb2.size; simp [World.setCell]; omega

set_option maxRecDepth 100000 in
set_option maxHeartbeats 2000000 in
theorem split_in (F : Fence) (n : Nat) (h35 : F.fn 82) (h45 : F.fn 104) (h55 : F.fn 113) (hro : F.round = none) (hn : 3 ≤ n) (s : ByteArray) (b : UInt8) (hs : s.size ≤ 4000) (w : World) :
    CallsIn F n Try.prog 82 #[.string s, .string ⟨#[b]⟩] w fun e W' => ∃ v, e = .returned (.tuple #[v, .bool true]) ∧ W'.ownsRow w.heap.size 9 1 v (splitS s b).length ((splitS s b).map Value.string) ∧ Below w.heap.size w W' := by
  have h1 : 1 ≤ n := by omega
  obtain ⟨i0, hi, hz0, hz1, hz2⟩ := info_parts infoStr
  refine callsIn_of_wp_marks Try.func82 rfl h35 ?_ hro
  simp only [Try.ntmps82, List.size_toArray, List.length_cons, List.length_nil, Nat.reduceAdd, Nat.reduceSub, Array.replicate_succ, Array.replicate_zero, List.push_toArray, List.append_toArray, List.nil_append, List.cons_append]
  gi_wp2_with (gi_at_call 104; refine (partsOf_in F (n - 1) h45 hro _ b _).mono ?_; rintro e w' ⟨rfl, rfl⟩)
  have bP : Boxed ((w.alloc (.cells #[] 9)).alloc (.cells #[.slice (some ⟨w.heap.size, 0, none⟩) 0 0] 24)) (w.heap.size + 1) 24 (.slice (some ⟨w.heap.size, 0, none⟩) 0 0) := by
    have := Boxed.new (w.alloc (.cells #[] 9)) 24 (.slice (some ⟨w.heap.size, 0, none⟩) 0 0)
    simpa using this
  have bS : Boxed (((w.alloc (.cells #[] 9)).alloc (.cells #[.slice (some ⟨w.heap.size, 0, none⟩) 0 0] 24)).alloc (.cells #[.string s] 9)) (w.heap.size + 1 + 1) 9 (.string s) := by
    have := Boxed.new ((w.alloc (.cells #[] 9)).alloc (.cells #[.slice (some ⟨w.heap.size, 0, none⟩) 0 0] 24)) 9 (.string s)
    simpa using this
  have bC : Boxed ((((w.alloc (.cells #[] 9)).alloc (.cells #[.slice (some ⟨w.heap.size, 0, none⟩) 0 0] 24)).alloc (.cells #[.string s] 9)).alloc (.cells #[.int .u8 b.toNat] 5)) (w.heap.size + 1 + 1 + 1) 5 (.int .u8 b.toNat) := by
    have := Boxed.new (((w.alloc (.cells #[] 9)).alloc (.cells #[.slice (some ⟨w.heap.size, 0, none⟩) 0 0] 24)).alloc (.cells #[.string s] 9)) 5 (.int .u8 b.toNat)
    simpa using this
  have hB0 : Below w.heap.size w ((((w.alloc (.cells #[] 9)).alloc (.cells #[.slice (some ⟨w.heap.size, 0, none⟩) 0 0] 24)).alloc (.cells #[.string s] 9)).alloc (.cells #[.int .u8 b.toNat] 5)) :=
    (((((Below.refl _ w).alloc (Nat.le_refl _) _).alloc (by simp) _).alloc (by simp; omega) _).alloc (by simp; omega) _)
  refine wpIn_rangeFunc_ownG hro h1 (gf := 113) (lb := #[.pointer (some ⟨w.heap.size + 1 + 1, 0, none⟩), .pointer (some ⟨w.heap.size + 1 + 1 + 1, 0, none⟩)]) rfl h55 (enters_of Try.func113 (by kernel_rfl) rfl)
    (parts_stops F (n - 1) h55 hro (by omega) (w.heap.size + 1 + 1) (w.heap.size + 1 + 1 + 1) s b (by omega) _ (by simp) (by simp) (bS.alloc _).cell bC.cell) (fun h k => SameTwo.trans h k) (fun W l o o' hl _ _ _ => same_b (by simp) (by simp) W l o o' hl) (Below.refl _ _) (fun _ => rfl)
    (SplitInv w (w.heap.size + 1) (w.heap.size + 4)) (fun _ _ _ => False) (by simpa using splitInv_own w (w.heap.size + 1) (w.heap.size + 4) (by omega)) (fun _ _ _ _ _ hs _ _ => hs)
    ⟨⟨_, (bP.alloc _).alloc _, .inl ⟨rfl, rfl, _, rfl⟩⟩, hB0, by simp⟩
    (fun x => { tmps := #[.string s, .string ⟨#[b]⟩, undef, undef, .slice none 0 0, .bool false, .pointer (some ⟨w.heap.size + 1, 0, none⟩), .string x, .string s, .int .i64 s.size, .bool (decide ((4000 : Int) < s.size)), .bool (decide ((4000 : Int) < s.size)), .string ⟨#[b]⟩, .int .i64 1, .bool false, .bool (decide ((4000 : Int) < s.size)), undef, .slice (some ⟨w.heap.size, 0, none⟩) 0 0, .string s, .string ⟨#[b]⟩, .int .u8 ((⟨#[b]⟩ : ByteArray)[0]'(by exact Nat.zero_lt_one)).toNat, .func (.func 113) #[] #[.pointer (some ⟨w.heap.size + 1 + 1, 0, none⟩), .pointer (some ⟨w.heap.size + 1 + 1 + 1, 0, none⟩)], .string x, undef, undef, undef, undef, undef], defers := [] }) ?assign ?body ?done ?stop
  case assign =>
    intro l x W K hK
    gi_wp2
    exact hK
  case body =>
    rintro l pre x W ⟨⟨v, hv, hst⟩, hB, hz⟩ hlt
    have hc := hv.cell
    have hst2 : StartOr (W.alloc (.cells #[.string x] 9)) (w.heap.size + 4) 9 1 v pre.length (pre.map Value.string) := by
      rcases hst with h | h
      · exact .inl h
      · exact .inr (h.alloc _)
    gi_wp2_with (gi_at_builtin; refine wpListIn_append_two _ rfl _ _ 24 rfl (w.heap.size + 4) 9 i0 (.string ByteArray.empty) 1 16 Try.underlying24 hi hz0 hz1 hz2 rfl (by decide) _ _ _ rfl hst2 ⟨W.heap.size, 0, none⟩ 1 1 [.string x] rfl rfl (cell_one_new _ _ _) (by simp [Value.oneCell']) (by omega) (by unfold maxLen; omega) (by omega) (by simp; omega) ?_; intro v' w1 hown' hb' hk'; obtain ⟨g', cap', rfl⟩ := ownsRow_succ hown'; obtain ⟨hv1, hs2, hk2, hI2⟩ := splitInv_step (Nat.le_succ _) (by omega) hv hB hz hown' hb' hk'; have hc1 := hv1.cell; have hf1 := hv1.frozen)
    exact ⟨hk2.from _, hs2 _ _ (by omega) (by omega) (by omega) (by omega), hI2⟩
  case done =>
    rintro D ys W hD rfl ⟨⟨v, hv, hst⟩, hB, hz⟩ hK
    have hc := hv.cell
    have hlen := (splitS_len s b).1
    have hrow : W.ownsRow w.heap.size 9 1 v (splitS s b).length ((splitS s b).map Value.string) := by
      rcases hst with ⟨h0, _⟩ | h
      · omega
      · exact ownsRow_weak h (by omega)
    obtain ⟨g', cap', rfl⟩ : ∃ g cap, v = .slice (some ⟨g, 0, none⟩) (splitS s b).length cap := by
      rcases hrow.2 with ⟨_, h0⟩ | ⟨g, cap, _, rfl, _⟩
      · omega
      · exact ⟨g, cap, rfl⟩
    gi_wp2
    refine ⟨by simp, .inl ⟨_, _, rfl, run_takeDeferred hK, ?_⟩⟩
    exact ⟨_, results_tmp2 rfl _ _ _, _, rfl, ownsRow_putObj hrow _ hK rfl, hB.trans (belowK_b (w := w) (Nat.le_refl _) W D _ _ (by simp at hD; omega) hK rfl rfl)⟩
  case stop =>
    rintro D c pre W _ _ h _
    exact h.elim

theorem split_ok (s : ByteArray) (b : UInt8) (hs : s.size ≤ 4000) (w : World) :
    Calls Try.prog 82 #[.string s, .string ⟨#[b]⟩] w fun e W' => ∃ v, e = .returned (.tuple #[v, .bool true]) ∧ W'.ownsRow w.heap.size 9 1 v (splitS s b).length ((splitS s b).map Value.string) ∧ Below w.heap.size w W' :=
  callsIn_wide.1 (split_in Fence.wide 3 trivial trivial trivial rfl (Nat.le_refl _) s b hs w)
end Go.Proofs.Ytfjedcjpgmledaa
