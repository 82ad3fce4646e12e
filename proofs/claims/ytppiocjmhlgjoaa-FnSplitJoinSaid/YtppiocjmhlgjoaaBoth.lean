/-
  FnSplitJoin at the commit in COMMIT: for every code the law returns true and its argument reads as before: what SplitString of the program splits, its JoinStrings joins again; JoinStrings answers as the model's; LessString answers as the model's and is asymmetric. No condition beyond the row's own cells.
-/
import Derived.Test.YtppiocjmhlgjoaaRows
import Derived.WalkKit
import Derived.ProofKit
import Derived.OpenShut
import Derived.ShutString
import Derived.ChangeOld
import Derived.Below
import Derived.Test.YtppiocjmhlgjoaaBackW
namespace Go.Proofs.Ytppiocjmhlgjoaa.fnSplitJoin
open Go.ChangeShapes Go.WideShapes Go.ChangeAt Go.RowKit
open Go.ChangeMaps (open_string shut_string)
set_option linter.unusedVariables false

theorem own : ownKnob Try.prog.godebug = none := by kernel_rfl
theorem laidOut : laidOutB Try.prog = true := by kernel_rfl

/-- What the walk is told of a slice of integers that came in: nil, or a row of cap cells. -/
def IsRow (k : IntKind) (w : World) (a : Option Addr) (len cap : Nat) (zs : List Int) : Prop :=
  (a = none ∧ len = 0 ∧ cap = 0 ∧ zs = []) ∨
  ∃ x, a = some x ∧ len ≤ cap ∧ cap ≤ maxLen ∧ zs.length = cap ∧ (∀ i, i < zs.length → w.cell? (x.add i) = some (.int k (zs.getD i 0))) ∧ ∀ n ∈ zs, (Lit.int k n).wf = true

theorem codeIn_of_row {w : World} {a : Option Addr} {len cap : Nat} {zs : List Int} (h : IsRow .u8 w a len cap zs) : CodeIn w a len ∧ len ≤ maxLen := by
  rcases h with ⟨rfl, rfl, rfl, rfl⟩ | ⟨x, rfl, hlc, hcm, hz, hcell, hwz⟩
  · exact ⟨fun h => by omega, by unfold maxLen; omega⟩
  · refine ⟨fun h0 => ?_, by omega⟩
    obtain ⟨b, off, spot⟩ := x
    have hc0 := hcell 0 (by omega)
    have hspot : spot = none := by simpa [Addr.add] using World.cell?_spot hc0
    subst hspot
    rw [Addr.add_lit] at hc0
    refine ⟨b, off, rfl, World.block_lt_of_cell? _ _ hc0, fun j hj => ?_⟩
    have hc := hcell j (by omega)
    rw [Addr.add_lit] at hc
    have hw := hwz (zs.getD j 0) (by rw [List.getD_eq_getElem?_getD, List.getElem?_eq_getElem (by omega)]; exact List.getElem_mem _)
    have hr : 0 ≤ zs.getD j 0 ∧ zs.getD j 0 ≤ 255 := bounds_u8 hw
    exact ⟨_, hr.1, hr.2, hc⟩

theorem walk (a0 : Option Addr) (len0 cap0 : Nat) (z0 : List Int) (w : World) (w0 : IsRow .u8 w a0 len0 cap0 z0) :
    Calls Try.prog 3 #[.slice a0 len0 cap0] w fun e w' => e = .returned (.bool true) ∧ Below w.heap.size w w' := by
  obtain ⟨hci, hlm⟩ := codeIn_of_row w0
  have CI := Lib.hid hci
  clear w0 hci
  by_cases hbig : len0 ≤ 65536
  · go_enter Try.func3, Try.ntmps3
    go_wp2_with fail
    refine (big_no a0 len0 cap0 hbig w).mono ?_
    rintro e w' ⟨rfl, rfl⟩
    go_wp2_with fail
    refine (drawSplit a0 len0 cap0 _ CI.out hbig).mono ?_
    rintro e W1 ⟨s, sep, rfl, hs, hsep, hb1⟩
    have B1 := Lib.hid hb1
    clear hb1
    go_wp2_with fail
    refine (split_to s sep _ (by omega) (by unfold maxLen; omega)).mono ?_
    rintro e W2 ⟨xs, ok, la, lb, lc, rfl, hsrc, hlc, hno, hyes, hb2⟩
    have F2 : Hid (Src W2 la lb 0 xs ∧ xs.length ≤ lc ∧ (sep.size ≠ 1 → xs = [] ∧ ok = false) ∧ (∀ x, sep = ⟨#[x]⟩ → xs = splitS s x ∧ ok = true) ∧ Below w'.heap.size w' W2) := ⟨hsrc, hlc, hno, hyes, B1.out.trans (hb2.mono B1.out.size)⟩
    clear hsrc hlc hno hyes hb2
    go_wp2_with fail
    refine (drawJoin a0 len0 cap0 _ (CI.out.below F2.out.2.2.2.2) hbig).mono ?_
    rintro e W3 ⟨ja, jb, jc, ys, mk, rfl, hsrc, hjc, hbulk, hmk, hb3⟩
    obtain ⟨r, fine, hsp, him⟩ := join_both ys mk hbulk (by unfold maxLen; omega)
    have F3 : Hid (Src W3 ja jb 0 ys ∧ ys.length ≤ jc ∧ Below W2.heap.size W2 W3) := ⟨hsrc, hjc, hb3⟩
    have SP := Lib.hid hsp
    have IM := Lib.hid him
    clear hsrc hjc hbulk hb3 hsp him
    go_wp2_with fail
    refine (IM.out _ _ _ _ _ F3.out.1 F3.out.2.1).mono ?_
    rintro e W4 ⟨rfl, hb4⟩
    have B4 := Lib.hid hb4
    clear hb4
    go_wp2_with fail
    refine (SP.out _ _ _ _ _ (F3.out.1.below B4.out)).mono ?_
    rintro e W5 ⟨rfl, hb5⟩
    have B5 : Hid (Below W2.heap.size W2 W5) := Lib.hid (F3.out.2.2.trans ((B4.out.trans (hb5.mono B4.out.size)).mono F3.out.2.2.size))
    clear hb5
    go_wp2_with fail
    refine (drawLess a0 len0 cap0 _ (CI.out.below (F2.out.2.2.2.2.trans (B5.out.mono F2.out.2.2.2.2.size))) hbig).mono ?_
    rintro e W6 ⟨p, q, rfl, hp, hq, hb6⟩
    have B6 : Hid (Below W2.heap.size W2 W6) := Lib.hid (B5.out.trans (hb6.mono B5.out.size))
    clear hb6
    obtain ⟨r1, hr1⟩ : ∃ r1, Op.bytesLess p.toList q.toList = r1 := ⟨_, rfl⟩
    obtain ⟨r2, hr2⟩ : ∃ r2, Op.bytesLess q.toList p.toList = r2 := ⟨_, rfl⟩
    have hr12 : r1 = true → r2 = false := fun h => by subst h; rw [← hr2]; exact less_asym _ _ hr1
    by_cases h1 : sep.size = 1
    · obtain ⟨x, rfl⟩ := one_byte h1
      obtain ⟨rfl, rfl⟩ := F2.out.2.2.2.1 x rfl
      have HJ := Lib.hid (back_ok s x la lb lc W6 (by omega) (F2.out.1.below B6.out) F2.out.2.1)
      clear hs hsep hmk hp hq h1
      cases r1
      · clear hr12
        go_wp2_with fail
        refine (less_i p q _ hr1 _).mono ?_
        rintro e wa ⟨rfl, hw⟩; subst hw
        go_wp2_with fail
        refine (less_s p q _ hr1 _).mono ?_
        rintro e wb ⟨rfl, hw⟩; subst hw
        go_wp2_with fail
        refine (less_i p q _ hr1 _).mono ?_
        rintro e wd ⟨rfl, hw⟩; subst hw
        go_wp2_with fail
        refine HJ.out.mono ?_
        rintro e wz ⟨rfl, hbz⟩
        have BZ : Hid (Below w'.heap.size w' wz) := Lib.hid ((F2.out.2.2.2.2.trans (B6.out.mono F2.out.2.2.2.2.size)).trans (hbz.mono (Nat.le_trans F2.out.2.2.2.2.size B6.out.size)))
        clear hbz
        go_wp2
        go_ret
        exact ⟨rfl, BZ.out⟩
      · obtain rfl := hr12 rfl
        clear hr12
        go_wp2_with fail
        refine (less_i p q _ hr1 _).mono ?_
        rintro e wa ⟨rfl, hw⟩; subst hw
        go_wp2_with fail
        refine (less_s p q _ hr1 _).mono ?_
        rintro e wb ⟨rfl, hw⟩; subst hw
        go_wp2_with fail
        refine (less_i p q _ hr1 _).mono ?_
        rintro e wd ⟨rfl, hw⟩; subst hw
        go_wp2_with fail
        refine (less_i q p _ hr2 _).mono ?_
        rintro e wc ⟨rfl, hw⟩; subst hw
        go_wp2_with fail
        refine HJ.out.mono ?_
        rintro e wz ⟨rfl, hbz⟩
        have BZ : Hid (Below w'.heap.size w' wz) := Lib.hid ((F2.out.2.2.2.2.trans (B6.out.mono F2.out.2.2.2.2.size)).trans (hbz.mono (Nat.le_trans F2.out.2.2.2.2.size B6.out.size)))
        clear hbz
        go_wp2
        go_ret
        exact ⟨rfl, BZ.out⟩
    · obtain ⟨rfl, rfl⟩ := F2.out.2.2.1 h1
      have n1 : ((sep.size : Int) == 1) = false := beq_false_of_ne (by omega)
      have n2 : ((sep.size : Int) != 1) = true := by rw [bne, n1]; rfl
      clear hs hsep hmk hp hq h1
      cases r1
      · clear hr12
        go_wp2_with fail
        refine (less_i p q _ hr1 _).mono ?_
        rintro e wa ⟨rfl, hw⟩; subst hw
        go_wp2_with fail
        refine (less_s p q _ hr1 _).mono ?_
        rintro e wb ⟨rfl, hw⟩; subst hw
        go_wp2_with fail
        refine (less_i p q _ hr1 _).mono ?_
        rintro e wd ⟨rfl, hw⟩; subst hw
        go_wp2
        go_ret
        exact ⟨rfl, F2.out.2.2.2.2.trans (B6.out.mono F2.out.2.2.2.2.size)⟩
      · obtain rfl := hr12 rfl
        clear hr12
        go_wp2_with fail
        refine (less_i p q _ hr1 _).mono ?_
        rintro e wa ⟨rfl, hw⟩; subst hw
        go_wp2_with fail
        refine (less_s p q _ hr1 _).mono ?_
        rintro e wb ⟨rfl, hw⟩; subst hw
        go_wp2_with fail
        refine (less_i p q _ hr1 _).mono ?_
        rintro e wd ⟨rfl, hw⟩; subst hw
        go_wp2_with fail
        refine (less_i q p _ hr2 _).mono ?_
        rintro e wc ⟨rfl, hw⟩; subst hw
        go_wp2
        go_ret
        exact ⟨rfl, F2.out.2.2.2.2.trans (B6.out.mono F2.out.2.2.2.2.size)⟩
  · go_enter Try.func3, Try.ntmps3
    go_wp2_with fail
    refine (big_yes a0 len0 cap0 (by omega) hlm w).mono ?_
    rintro e w' ⟨rfl, rfl⟩
    go_wp2
    go_ret
    exact ⟨rfl, Below.refl _ _⟩

set_option maxRecDepth 100000 in
theorem lifted (os : Os) (started : os.Started) (H : Type) (enc : TypeId × Value → H) :
    ReturnsInHanded {} Try.checked os 3 .any (Rows.fnSplitJoinSpec.pre6 enc Try.prog Try.f3 Rows.fnSplitJoinRow.domain false) (Rows.fnSplitJoinSpec.post enc Try.prog Try.f3 false true false false) := by
  refine returnsInHanded_of_change (C := Try.checked) own started (by kernel_rfl) Try.func3
    (ChangeSpec.witness6 (enc := enc) (C := Try.checked) false ⟨#[], #[.slice none 0 0], []⟩ 8 (by kernel_rfl) (by kernel_rfl) (by kernel_rfl) (by kernel_rfl)) ?_
  intro W base args ds gs before hval0 hW hcnd _
  have hval : ∀ (j : Nat) t v, Try.f3.params[j]? = some t → args[j]? = some v → Value.okWide Try.prog W .any base t v := hval0
  have hW' := hW
  obtain ⟨p, q, hA0, hV, rfl, hfz, hnd⟩ := hW
  have hA : DataW.TrodAll enc Try.prog W 0 (fun _ => true) true Try.f3.params.toList args.toList ds p := hA0
  rw [Try.params3] at hA hval
  obtain ⟨v0, vs0, d0, ds0, p0, q0, hargs, rfl, rfl, h0, r0⟩ := trodAll_cons hA
  obtain ⟨rfl, rfl, rfl⟩ := trodAll_nil r0
  obtain rfl : args = #[v0] := by cases args; simp_all
  obtain ⟨rfl, rfl⟩ := trodVars_none hV
  obtain ⟨a0, len0, cap0, rfl⟩ := okWide_slice Try.underlying22 (hval 0 22 v0 rfl rfl)
  have k0 := h0
  have lt0 : ∀ x ∈ p0, x.block < W.heap.size := by obtain ⟨m, hm⟩ := k0; exact DataW.trod_lt m _ _ _ hm
  obtain ⟨z0, w0⟩ : ∃ zs, IsRow .u8 W a0 len0 cap0 zs := by
    obtain ⟨fuel, hf⟩ := h0
    rcases open_ints Try.underlying22 Try.underlying5 (by kernel_rfl) hf with ⟨hcs, _⟩ | ⟨x, l, c, zs, hcs, _, hl, hm, hz, _, hcell, hwz⟩
    · simp [Value.cells] at hcs
      obtain ⟨rfl, rfl, rfl⟩ := hcs
      exact ⟨[], .inl ⟨rfl, rfl, rfl, rfl⟩⟩
    · simp [Value.cells] at hcs
      obtain ⟨rfl, rfl, rfl⟩ := hcs
      exact ⟨zs, .inr ⟨_, rfl, hl, hm, by simpa using hz, hcell, hwz⟩⟩
  clear hA0 hval0
  refine (walk a0 len0 cap0 z0 W w0).mono fun e W' ⟨he, bel⟩ => ?_
  subst he
  exact ⟨_, rfl, _, _, _, [], _, [], hW', trodAll_mk1 (shut_bool Try.underlying4 _), (trodAll_cons_mk (Below.trod laidOut (by kernel_rfl) (of_decide_eq_true (by kernel_rfl)) k0 bel lt0) trodAll_mk0), rfl, bel.frame _, fun h => by cases h⟩

theorem over : Rows.fnSplitJoinRow.holds Try.pinned (OpenSpec.ofChange Rows.fnSplitJoinSpec) :=
  OpenClaim.holds_of_wide 3 Try.f3 rfl rfl rfl rfl rfl rfl rfl ⟨rfl, rfl, rfl, rfl, rfl⟩ rfl rfl rfl rfl rfl (by kernel_rfl) Try.func3 (by kernel_rfl)
    (of_decide_eq_true (by kernel_rfl)) (by unfold Func.isWrapper; first | (rw [if_pos (by decide +kernel)]; kernel_rfl) | (rw [if_neg (by decide +kernel)]; exact ⟨rfl, rfl⟩))
    (fun os started H enc _ => lifted os started H enc)

/-- The statement. -/
theorem proved : Rows.FnSplitJoinSaid := over
end Go.Proofs.Ytppiocjmhlgjoaa.fnSplitJoin
