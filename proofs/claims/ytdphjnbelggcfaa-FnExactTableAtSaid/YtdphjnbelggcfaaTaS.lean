/-
  TableAt of the model: both answer alike. Used by the claims on chapter 9.
-/
import Derived.Test.YtdphjnbelggcfaaTaW
import Derived.Test.YtdphjnbelggcfaaUpS
import Derived.Test.YtdphjnbelggcfaaRkS
namespace Go.Proofs.Ytdphjnbelggcfaa
open Go.RowKit Go.Maps Go.WideMaps
set_option linter.unusedVariables false

theorem filt_mono (us : List Nat) {a b : Nat} (h : a ≤ b) : ((uptoN a).filter (freeB us)).length ≤ ((uptoN b).filter (freeB us)).length := by
  induction b with
  | zero => rw [show a = 0 by omega]; exact Nat.le_refl _
  | succ b ih =>
    by_cases e : a = b + 1
    · rw [e]; exact Nat.le_refl _
    · rw [plc_step]
      exact Nat.le_trans (ih (by omega)) (Nat.le_add_right _ _)
theorem own_cells {w : World} {base : Nat} {e : TypeId} {size : Nat} {v : Value} {n : Nat} {xs : List Value} (h : w.ownsRow base e size v n xs) {q : Nat} (hq : v.ownBlock = some q) : ∃ cs, w.heap[q]? = some (.cells cs e (0, 0)) := by
  rcases h.2 with ⟨rfl, _⟩ | ⟨g, cap, cur, rfl, _, hh, _⟩
  · cases hq
  · injection hq with hq; subst hq; exact ⟨cur, hh⟩
theorem rows_apart {w : World} {b1 b2 : Nat} {e1 e2 : TypeId} {s1 s2 : Nat} {v1 v2 : Value} {n1 n2 : Nat} {x1 x2 : List Value} (h1 : w.ownsRow b1 e1 s1 v1 n1 x1) (h2 : w.ownsRow b2 e2 s2 v2 n2 x2) (hne : e1 ≠ e2) : v1.ownBlock = none ∨ v1.ownBlock ≠ v2.ownBlock := by
  cases hq : v1.ownBlock with
  | none => exact .inl rfl
  | some q =>
    refine .inr fun e => ?_
    obtain ⟨c1, k1⟩ := own_cells h1 hq
    obtain ⟨c2, k2⟩ := own_cells h2 e.symm
    rw [k1] at k2
    injection k2 with k2
    injection k2 with _ k3 _
    exact hne k3
theorem box_row {w : World} {b T : Nat} {t e : TypeId} {s n : Nat} {v u : Value} {x : List Value} (h : w.ownsRow b e s v n x) (hx : Boxed w T t u) (hne : t ≠ e) : some T ≠ v.ownBlock := fun q => by
  obtain ⟨c1, k1⟩ := own_cells h q.symm
  rw [show w.heap[T]? = _ from hx] at k1
  injection k1 with k1
  injection k1 with _ k3 _
  exact hne k3
/-- What lies in memory while the model's letters come. -/
structure TaV (w W : World) (T base : Nat) (mv : Value) (l : List ByteArray) (uv : Value) (us : List Nat) : Prop where
  res : Boxed W w.heap.size 35 (.slice none 0 0)
  tab : Boxed W T 35 mv
  own : W.ownsRow base 9 1 mv l.length (l.map Value.string)
  use : W.ownsRow base 3 1 uv us.length (ints us)
  lt : w.heap.size < base
  hz : base ≤ W.heap.size
  ne : T ≠ w.heap.size
  low : w.heap.size ≤ T
  below : Below w.heap.size w W
theorem TaV.step {w W W' : World} {T base : Nat} {mv uv : Value} {l : List ByteArray} {us : List Nat} (h : TaV w W T base mv l uv us) (hb : Below W.heap.size W W') : TaV w W' T base mv l uv us :=
  ⟨boxed_below h.res hb h.res.lt, boxed_below h.tab hb h.tab.lt, row_below h.own hb, row_below h.use hb, h.lt, Nat.le_trans h.hz hb.size, h.ne, h.low, h.below.trans (hb.mono h.below.size)⟩
theorem TaV.used {w W W' : World} {T base : Nat} {mv uv uv' : Value} {l : List ByteArray} {us : List Nat} {v : Nat} (h : TaV w W T base mv l uv us)
    (hg : (W.alloc (.cells #[.int .i64 (v : Int)] 3)).grownBy W' uv.ownBlock) (hown : W'.ownsRow base 3 1 uv' (us.length + 1) (ints us ++ [.int .i64 (v : Int)])) : TaV w W' T base mv l uv' (us ++ [v]) :=
  ⟨(h.res.alloc _).kept hg (fun e => by have := (h.use.lt _ e.symm).1; have := h.lt; omega), (h.tab.alloc _).kept hg (box_row h.use h.tab (by decide)),
   (h.own.alloc _).kept hg (rows_apart h.own h.use (by decide)), by rw [List.length_append, ints_snoc]; exact hown, h.lt, Nat.le_trans h.hz (Nat.le_trans (below_alloc W _).size hg.size), h.ne, h.low,
   (h.below.alloc h.below.size _).grown hg (Nat.le_trans h.below.size (below_alloc W _).size) (fun j e => by have := (h.use.lt j e).1; have := h.lt; omega)⟩
theorem TaV.appended {w W W' : World} {T base gg cg : Nat} {mv uv : Value} {l : List ByteArray} {us : List Nat} {y : ByteArray} (h : TaV w W T base mv l uv us)
    (hg : (W.alloc (.cells #[.string y] 9)).grownBy W' mv.ownBlock) (hown : W'.ownsRow base 9 1 (.slice (some ⟨gg, 0, none⟩) (l.length + 1) cg) (l.length + 1) (l.map Value.string ++ [.string y])) :
    Boxed W' T 35 mv ∧ TaV w (W'.setCell ⟨T, 0, none⟩ (.slice (some ⟨gg, 0, none⟩) (l.length + 1) cg)) T base (.slice (some ⟨gg, 0, none⟩) (l.length + 1) cg) (l ++ [y]) uv us := by
  have hT := (h.tab.alloc (.cells #[.string y] 9)).kept hg (box_row h.own h.tab (by decide))
  have hR := (h.res.alloc (.cells #[.string y] 9)).kept hg (fun e => by have := (h.own.lt _ e.symm).1; have := h.lt; omega)
  have hU := (h.use.alloc (.cells #[.string y] 9)).kept hg (rows_apart h.use h.own (by decide))
  refine ⟨hT, boxed_set hR (Ne.symm h.ne), hT.set _, ?_, hU.kept (grownBy_setCell' W' _ _) (by
    cases hq : uv.ownBlock with
    | none => exact .inl rfl
    | some q => exact .inr (fun e => box_row hU hT (by decide) (by rw [hq]; injection e with e; (try simp only at e); rw [e]))), h.lt, ?_, h.ne, h.low, ?_⟩
  · rw [List.length_append, List.map_append]
    exact hown.kept (grownBy_setCell' W' _ _) (.inr (fun e => box_row hown hT (by decide) (by injection e with e; (try simp only at e); show some T = some gg; rw [e])))
  · have := Nat.le_trans h.hz (Nat.le_trans (below_alloc W (.cells #[.string y] 9)).size hg.size)
    simpa [World.setCell] using this
  · exact ((h.below.alloc h.below.size _).grown hg (Nat.le_trans h.below.size (below_alloc W _).size) (fun j e => by have := (h.own.lt j e).1; have := h.lt; omega)).setCell (p := ⟨T, 0, none⟩) h.low _

set_option maxHeartbeats 4000000 in
set_option maxRecDepth 8000 in
theorem sTableAt_any (l m r : Int) (w : World) :
    Calls Try.prog 52 #[.int .i64 l, .int .i64 m, .int .i64 r] w (TabOut (taR l m r) (taB l m r) w) := by
  have hR0 := Boxed.new w 35 (.slice none 0 0)
  have hB0 := below_alloc w (.cells #[.slice none 0 0] 35)
  have F := Lib.hid fun W => sSize_any l m W
  have H0 := Lib.hid (And.intro hR0 hB0)
  clear hR0 hB0
  by_cases hs : sizeB l m = true
  · rw [hs] at F
    obtain ⟨n, k0, L, rfl, n1, n2, rfl, hO⟩ := sizeB_at hs
    have hc : ctR n k0 = ((manyN n L : Nat) : Int) := by unfold ctR; rw [if_pos hs, leftN_of hO, Int.toNat_natCast]
    have HTB : Hid (taB n k0 r = (decide (0 ≤ r) && decide (r ≤ ((manyN n L : Nat) : Int) - 1))) := Lib.hid (by
      unfold taB; rw [hs, hc, Bool.true_and]; congr 1; exact decide_eq_decide.2 (by omega))
    have FLe := Lib.hid fun W => sLeft_any k0 L hO W
    have FMy := Lib.hid fun W => sMany_any n L n2 (by have := hO.le; omega) W
    have FIn : Hid (∀ W, Calls Try.prog 75 #[.int .i64 r, .int .i64 0, .int .i64 (((manyN n L : Nat) : Int) - 1)] W fun e w' => e = .returned (.bool (taB n k0 r)) ∧ w' = W) := Lib.hid fun W => by
      rw [HTB.out]; exact in_any r 0 _ W
    have hbig := manyN_62 n2 (l := L) (by have := hO.le; omega)
    cases hv : taB n k0 r with
    | false =>
      rw [hv] at FIn
      rw [ta_no hv]
      clear hs hc hO hv HTB
      generalize manyN n L = c0 at *
      have hR1 := H0.out.1
      have hrc := hR1.cell
      have hrf := hR1.frozen
      go_enter Try.func52, Try.ntmps52
      go_wp2_with fail
      refine (F.out _).mono ?_
      rintro e w1 ⟨rfl, hww⟩
      obtain rfl := hww.symm
      go_wp2_with fail
      refine (FLe.out _).mono ?_
      rintro e w1 ⟨rfl, hww⟩
      obtain rfl := hww.symm
      go_wp2_with fail
      refine (FMy.out _).mono ?_
      rintro e w1 ⟨rfl, hww⟩
      obtain rfl := hww.symm
      go_wp2_with fail
      refine (FIn.out _).mono ?_
      rintro e w1 ⟨rfl, hww⟩
      obtain rfl := hww.symm
      go_wp2
      refine bodyPost_ret (res_tab2 rfl _ rfl H0.out.1) rfl ?_
      exact tabOut_none H0.out.2
    | true =>
      rw [hv] at FIn
      obtain ⟨n', k', L', q, e1, _, _, e2, hO', rfl, hq, hRes⟩ := ta_yes hv
      have en : n' = n := by omega
      have ek : k' = k0 := by omega
      subst en ek
      have eL : L' = L := by have h1 := hO.le; have h2 := hO'.le; omega
      subst eL
      have HKeep := Lib.hid (tat_keep (n := n') (show L' ≤ 62 by have := hO.le; omega) hq)
      have HStep := Lib.hid fun k (hk : k < n') => tat_step hk (show L' ≤ 62 by have := hO.le; omega) (HKeep.out k (by omega))
      have HEach := Lib.hid fun k (hk : k < n') => tat_each (L := L') hk (Nat.lt_of_le_of_lt (Nat.zero_le _) (HKeep.out k (by omega)).lt)
      have FT := Lib.hid fun (v : Nat) (W : World) (hv : v ≤ 63) => sMarks_any v hv W
      have HOl := Lib.hid hO.le
      obtain ⟨i0, hi, hz0, hz1, hz2⟩ := info_parts infoStr
      obtain ⟨j0, hj, hy0, hy1, hy2⟩ := info_parts infoIntK
      have HRes : Hid (taR (n' : Int) (k' : Int) (q : Int) = txsN (tatN L' n' q n').2) := Lib.hid hRes
      have HM0 : Hid (TaV w ((((w.alloc (.cells #[.slice none 0 0] 35)).alloc (.cells #[] 9)).alloc (.cells #[] 3)).alloc (.cells #[.slice (some ⟨w.heap.size + 1, 0, none⟩) 0 0] 35)) (w.heap.size + 1 + 1 + 1) (w.heap.size + 1) (.slice (some ⟨w.heap.size + 1, 0, none⟩) 0 0) (txsN (tatN L' n' q 0).2) (.slice (some ⟨w.heap.size + 1 + 1, 0, none⟩) 0 0) (tatN L' n' q 0).2) := Lib.hid (by
        have s1 : (w.alloc (.cells #[.slice none 0 0] 35)).heap.size = w.heap.size + 1 := by simp
        have s2 : ((w.alloc (.cells #[.slice none 0 0] 35)).alloc (.cells #[] 9)).heap.size = w.heap.size + 1 + 1 := by simp
        have s3 : (((w.alloc (.cells #[.slice none 0 0] 35)).alloc (.cells #[] 9)).alloc (.cells #[] 3)).heap.size = w.heap.size + 1 + 1 + 1 := by simp
        have r1 := World.ownsRow_made (base := w.heap.size + 1) (e := 9) (size := 1) (w.alloc (.cells #[.slice none 0 0] 35)) #[] 0 (by rw [s1]; exact Nat.le_refl _) (by unfold maxLen; omega) rfl
        have r2 := World.ownsRow_made (base := w.heap.size + 1) (e := 3) (size := 1) ((w.alloc (.cells #[.slice none 0 0] 35)).alloc (.cells #[] 9)) #[] 0 (by rw [s2]; omega) (by unfold maxLen; omega) rfl
        have r3 := Boxed.new (((w.alloc (.cells #[.slice none 0 0] 35)).alloc (.cells #[] 9)).alloc (.cells #[] 3)) 35 (.slice (some ⟨w.heap.size + 1, 0, none⟩) 0 0)
        rw [s1] at r1
        rw [s2] at r2
        rw [s3] at r3
        exact ⟨((H0.out.1.alloc _).alloc _).alloc _, r3, (r1.alloc _).alloc _, r2.alloc _, by omega, by simp, by omega, by omega, (((H0.out.2.alloc (by simp) _).alloc (by simp; omega) _).alloc (by simp; omega) _)⟩)
      clear hs hc hO hv HTB hRes e1 e2 hO' hq
      go_enter Try.func52, Try.ntmps52
      go_wp2_with fail
      refine (F.out _).mono ?_
      rintro e w1 ⟨rfl, hww⟩
      obtain rfl := hww.symm
      go_wp2_with fail
      refine (FLe.out _).mono ?_
      rintro e w1 ⟨rfl, hww⟩
      obtain rfl := hww.symm
      go_wp2_with fail
      refine (FMy.out _).mono ?_
      rintro e w1 ⟨rfl, hww⟩
      obtain rfl := hww.symm
      go_wp2_with fail
      refine (FIn.out _).mono ?_
      rintro e w1 ⟨rfl, hww⟩
      obtain rfl := hww.symm
      go_wp2
      generalize ((((w.alloc (.cells #[.slice none 0 0] 35)).alloc (.cells #[] 9)).alloc (.cells #[] 3)).alloc (.cells #[.slice (some ⟨w.heap.size + 1, 0, none⟩) 0 0] 35)) = W0 at *
      go_loopw [2, 9, 10] (fun rv uv iv wr => ∃ (k : Nat) (mv : Value), iv = .int .i64 (k : Int) ∧ rv = .int .i64 (((tatN L' n' q k).1 : Nat) : Int) ∧ k ≤ n' ∧ Hid (TaV w wr (w.heap.size + 1 + 1 + 1) (w.heap.size + 1) mv (txsN (tatN L' n' q k).2) uv (tatN L' n' q k).2)) (fun _ _ iv _ => n' - (intOf iv).toNat)
      case atStart => exact ⟨0, _, rfl, rfl, Nat.zero_le _, HM0⟩
      case round =>
        clear HM0 H0
        obtain ⟨k, mv, rfl, rfl, hk, HM⟩ := hrel
        by_cases hlt : k < n'
        · obtain ⟨v, pv, p1, p2, p3, p4, p5, p6, p7, p8, p9⟩ := HStep.out k hlt
          clear pv
          obtain ⟨f1, f2, f3⟩ := HEach.out k hlt
          have hKk := HKeep.out k hk
          have hs1 : (tatN L' n' q (k + 1)) = tatS L' n' (tatN L' n' q k) := rfl
          rw [p8] at hs1
          have HS1 := Lib.hid hs1
          have hKl := hKk.len
          have hcb := manyN_62 (k := n' - k) (l := L' - k) (by omega) (by have := HOl.out; omega)
          have hEb := manyN_62 (k := n' - 1 - k) (l := L' - 1 - k) (by omega) (by have := HOl.out; omega)
          have hrl := hKk.lt
          generalize tatN L' n' q k = s at *
          obtain ⟨r1, us⟩ := s
          simp only at *
          obtain ⟨A, hA⟩ : ∃ A, n' - 1 - k = A := ⟨_, rfl⟩
          obtain ⟨D, hD⟩ : ∃ D, L' - 1 - k = D := ⟨_, rfl⟩
          rw [hA, hD] at f1 f2 p1 p5 p6 p7 hs1 HS1 hEb
          have hL62 : L' ≤ 62 := by have := HOl.out; omega
          have eA : (n' : Int) - 1 - (k : Int) = (A : Int) := by omega
          have eD : (L' : Int) - 1 - (k : Int) = (D : Int) := by omega
          have HMy := Lib.hid fun W => sMany_any A D (by omega) (by omega) W
          generalize manyN A D = E at *
          generalize manyN (n' - k) (L' - k) = c0 at *
          obtain ⟨P, hP⟩ : ∃ P, r1 / E = P := ⟨_, rfl⟩
          obtain ⟨R2, hR2⟩ : ∃ R2, r1 % E = R2 := ⟨_, rfl⟩
          rw [hP] at p5
          rw [hR2] at HS1
          have g2 : (r1 : Int).tdiv (E : Int) = (P : Int) := by rw [← Int.ofNat_tdiv, hP]
          have g3 : (r1 : Int).tmod (E : Int) = (R2 : Int) := by rw [← Int.ofNat_tmod, hR2]
          have hPr : P ≤ r1 := by rw [← hP]; exact Nat.div_le_self _ _
          have hRr : R2 ≤ r1 := by rw [← hR2]; exact Nat.mod_le _ _
          have z1 : ¬ (E : Int) = 0 := by omega
          have z3 : ((E : Int) == 0) = false := beq_false_of_ne z1
          have hr1b : r1 ≤ 839299365868340224 := by omega
          have hll : (txsN us).length = k := by unfold txsN; rw [List.length_map]; exact hKl
          have HTx : Hid (txsN (us ++ [v]) = txsN us ++ [ba (txN v)]) := Lib.hid (by unfold txsN; simp)
          generalize txsN us = l at *
          have HY := Lib.hid fun W => FT.out v W p3
          generalize ba (txN v) = y at *
          obtain ⟨av, capm, rfl⟩ := row_form HM.out.own
          obtain ⟨au, capu, rfl⟩ := row_form HM.out.use
          have HHas : Hid (∀ (W : World), W = wr → ∀ u : Nat, Calls Try.prog 103 #[.slice au us.length capu, .int .i64 (u : Int)] W fun e w' => e = .returned (.bool (us.contains u)) ∧ w' = W) := Lib.hid fun W hW u => by
            subst hW
            obtain ⟨a', g', c', he, hs, _, _⟩ := seq_of_row HM.out.use
            injection he with x1 x2 x3
            subst x1
            exact sHasN_any au g' capu us.length us u W hs rfl (by omega)
          have HPs := Lib.hid (plc_step us)
          have HMo := Lib.hid fun (a b : Nat) (h : a ≤ b) => filt_mono us h
          have HPl : Hid (((uptoN (v - 2)).filter (freeB us)).length = P) := Lib.hid p5
          have HNu : Hid (us.contains v = false) := Lib.hid (by simpa using p4)
          have a1 : l.length + 1 ≤ maxLen := by unfold maxLen; omega
          have a2 : (l.length + 1) * 16 ≤ 140737488355328 := by omega
          have a3 : us.length + 1 ≤ maxLen := by unfold maxLen; omega
          have a4 : (us.length + 1) * 8 ≤ 140737488355328 := by omega
          have hP62 : P ≤ 62 := by rw [hP] at p6; omega
          have HV2 : Hid (2 ≤ v ∧ v ≤ 63) := Lib.hid ⟨p2, p3⟩
          have hv63 := p3
          clear p1 p2 p4 p5 p6 p7 p8 p9 f1 f3 hKk hs1 hKl hrl hP hR2 hll hA hD hcb hEb
          go_wp2_with fail
          refine (FLe.out _).mono ?_
          rintro e w6 ⟨rfl, hww⟩
          obtain rfl := hww.symm
          go_wp2_with fail
          with_reducible refine (HMy.out _).mono ?_
          rintro e w7 ⟨rfl, hww⟩
          obtain rfl := hww.symm
          obtain ⟨W3, rfl⟩ : ∃ W3, W3 = wr := ⟨_, rfl⟩
          go_wp2
          go_loopw [12, 13] (fun tv kv w3 => ∃ j t d : Nat, tv = .int .i64 (t : Int) ∧ kv = .int .i64 (d : Int) ∧ Hid (t = j + 2) ∧ Hid (((uptoN j).filter (freeB us)).length + d = P) ∧ Hid (j ≤ v - 2) ∧ w3 = W3) (fun tv _ _ => 64 - (intOf tv).toNat)
          case atStart => exact ⟨0, 2, P, rfl, rfl, Lib.hid rfl, Lib.hid (by simp [uptoN]), Lib.hid (Nat.zero_le _), rfl⟩
          case round =>
            obtain ⟨j, t, d, rfl, rfl, HT, HD, HJ, hwr⟩ := hrel
            subst hwr
            have HH := Lib.hid (HHas.out _ rfl t)
            have HPj : Hid (((uptoN (j + 1)).filter (freeB us)).length = ((uptoN j).filter (freeB us)).length + if us.contains t then 0 else 1) := Lib.hid (by rw [HT.out]; exact HPs.out j)
            have ht63 : t ≤ 63 := by have := HT.out; have := HJ.out; have := HV2.out; omega
            have hd62 : d ≤ 62 := by have := HD.out; omega
            -- where the place is not reached, the node is not reached
            have HLtJ : Hid (0 < d ∨ us.contains t = true → j + 1 ≤ v - 2) := Lib.hid fun h => by
              rcases Nat.lt_or_ge j (v - 2) with h1 | h1
              · omega
              · exfalso
                have ej : j = v - 2 := by have := HJ.out; omega
                have e1 := HD.out
                rw [ej, HPl.out] at e1
                rcases h with h | h
                · omega
                · have et : t = v := by have := HT.out; have := HV2.out; omega
                  rw [et, HNu.out] at h; cases h
            have HT2 : Hid (t + 1 = j + 1 + 2) := Lib.hid (by have := HT.out; omega)
            by_cases hd0 : 0 < d
            · have HJ2 := Lib.hid (HLtJ.out (.inl hd0))
              cases hq : us.contains t with
              | true =>
                rw [hq] at HH HPj
                have HD2 : Hid (((uptoN (j + 1)).filter (freeB us)).length + d = P) := Lib.hid (by rw [HPj.out]; simpa using HD.out)
                clear hq HLtJ
                go_wp2_with fail
                refine HH.out.mono ?_
                rintro e w8 ⟨rfl, hww⟩
                obtain rfl := hww.symm
                go_wp2
                go_roundw
                case rel => exact ⟨j + 1, t + 1, d, by go_num, rfl, HT2, HD2, HJ2, by trivial⟩
                case measure => simp [intOf]; omega
              | false =>
                rw [hq] at HH HPj
                have HD2 : Hid (((uptoN (j + 1)).filter (freeB us)).length + (d - 1) = P) := Lib.hid (by have := HPj.out; have := HD.out; simp at *; omega)
                clear hq HLtJ
                go_wp2_with fail
                refine HH.out.mono ?_
                rintro e w8 ⟨rfl, hww⟩
                obtain rfl := hww.symm
                go_wp2
                go_roundw
                case rel => exact ⟨j + 1, t + 1, d - 1, by go_num, by go_num, HT2, HD2, HJ2, by trivial⟩
                case measure => simp [intOf]; omega
            · have hd00 : d = 0 := by omega
              subst hd00
              cases hq : us.contains t with
              | true =>
                have HJ2 := Lib.hid (HLtJ.out (.inr hq))
                rw [hq] at HH HPj
                have HD2 : Hid (((uptoN (j + 1)).filter (freeB us)).length + 0 = P) := Lib.hid (by rw [HPj.out]; simpa using HD.out)
                clear hq HLtJ hd0
                go_wp2_with fail
                refine HH.out.mono ?_
                rintro e w8 ⟨rfl, hww⟩
                obtain rfl := hww.symm
                go_wp2_with fail
                refine HH.out.mono ?_
                rintro e w8 ⟨rfl, hww⟩
                obtain rfl := hww.symm
                go_wp2
                go_roundw
                case rel => exact ⟨j + 1, t + 1, 0, by go_num, rfl, HT2, HD2, HJ2, by trivial⟩
                case measure => simp [intOf]; omega
              | false =>
                have HTv : Hid (t = v) := Lib.hid (by
                  have h1 := HJ.out
                  have h2 := HT.out
                  have h3 := HV2.out
                  rcases Nat.lt_or_ge j (v - 2) with h4 | h4
                  · exfalso
                    have h5 := HMo.out (j + 1) (v - 2) (by omega)
                    have h6 := HPj.out
                    have h7 := HD.out
                    rw [hq] at h6
                    rw [HPl.out, h6] at h5
                    simp at h5 h7; omega
                  · omega)
                rw [hq] at HH
                have htv : t = v := HTv.out
                subst htv
                clear hq HLtJ hd0 HPj HD HJ HT HPs HMo HPl HHas
                have HMd : Hid (TaV w wr (w.heap.size + 1 + 1 + 1) (w.heap.size + 1) (.slice av l.length capm) l (.slice au us.length capu) us) := HM
                go_wp2_with (first
                  | (go_at_call 103; refine HH.out.mono ?_; rintro e w8 ⟨rfl, hww⟩; obtain rfl := hww.symm)
                  | (at_builtin; refine wpList_append_lies _ rfl _ _ 32 rfl (w.heap.size + 1) 3 j0 (.int .i64 0) 1 8 Try.underlying32 hj hy0 hy1 hy2 rfl (by decide) (.slice au us.length capu) us.length (ints us) rfl (HMd.out.use.alloc _) ⟨wr.heap.size, 0, none⟩ 1 1 [.int .i64 (t : Int)] rfl rfl (cell_one_new _ _ _) (by simp [Value.oneCell']) (by decide) a3 a4 (Nat.le_trans HMd.out.hz (below_alloc wr _).size) (wr.heap.size + 1) (by simp) ?_; intro gu cu w8 hownU hgrowU hatU hglU
                     have HM8 := Lib.hid (HMd.out.used hgrowU hownU)
                     have t1 := HM8.out.tab.cell
                     have t2 := keep_cell w8 (Obj.cells #[.string y] 9) t1
                     have HM8d : Hid (TaV w w8.drew (w.heap.size + 1 + 1 + 1) (w.heap.size + 1) (.slice av l.length capm) l (.slice (some ⟨gu, 0, none⟩) (us.length + 1) cu) (us ++ [t])) := Lib.hid (HM8.out.step (Below.refl _ _).drew))
                  | go_in)
                clear hownU hgrowU hatU hglU g2 g3 eA eD
                go_region_law
                  ((first
                    | (refine step_append_lies _ (by rfl) _ _ _ (by rfl) (w.heap.size + 1) 9 i0 _ 1 16 Try.underlying28 hi hz0 hz1 hz2 rfl (by decide) (.slice av l.length capm) l.length (l.map Value.string) (by rfl) ((HM8.out.own.alloc _).drew)
                        ⟨w8.heap.size, 0, none⟩ 1 1 [.string y] (by rfl) (by rfl) (World.news_of_block (cs := #[.string y]) (t := 9) (fr := (0, 0)) (heap_alloc_new w8 _)) (by simp [Value.oneCell']) (by decide) a1 a2 (Nat.le_trans HM8.out.hz (below_alloc w8 _).size) (w8.heap.size + 1) (by simp) ?_; intro gg cg w9 hown9 hgrow hat hglt; obtain ⟨hT9, hM9⟩ := HM8d.out.appended hgrow hown9; have c9 := hT9.cell; have f9 := hT9.frozen)
                    | (go_simp; go_at_call 76; refine (HY.out _).mono ?_; rintro e' w' ⟨rfl, hww⟩; obtain rfl := hww.symm)))
                all_goals (
                  have HM9 : Hid (TaV w (w9.setCell ⟨w.heap.size + 1 + 1 + 1, 0, none⟩ (.slice (some ⟨gg, 0, none⟩) (l.length + 1) cg)) (w.heap.size + 1 + 1 + 1) (w.heap.size + 1) (.slice (some ⟨gg, 0, none⟩) (l.length + 1) cg) (txsN (tatN L' n' q (k + 1)).2) (.slice (some ⟨gu, 0, none⟩) (us.length + 1) cu) (tatN L' n' q (k + 1)).2) := Lib.hid (by
                    rw [HS1.out]
                    simp only
                    rw [HTx.out]
                    exact hM9)
                  have HR9 : Hid ((tatN L' n' q (k + 1)).1 = R2) := Lib.hid (by rw [HS1.out])
                  clear hT9 hM9 hown9 hgrow hat hglt c9 f9 t1 t2
                  go_wp2
                  go_roundw
                  case rel => exact ⟨k + 1, _, by go_num, by rw [HR9.out], by omega, HM9⟩
                  case measure => simp [intOf]; omega)
        · obtain rfl : k = n' := by omega
          have HLn := Lib.hid (HKeep.out k (Nat.le_refl _)).len
          have hln : (txsN (tatN L' k q k).2).length = k := by unfold txsN; rw [List.length_map, HLn.out]
          have HLn2 := Lib.hid hln
          obtain ⟨av, capm, rfl⟩ := row_form HM.out.own
          have c0' := load_tab HM.out.tab
          have c1 := HM.out.tab.cell
          have c2 := HM.out.res.cell
          have f2 := HM.out.res.frozen
          clear hln
          go_wp2
          refine bodyPost_ret (res_tab2 rfl _ rfl (HM.out.res.set _)) rfl ?_
          obtain ⟨g, cp, hv, hgb, hgl, hsrc, hopen⟩ := row_src HM.out.own (by rw [HLn2.out]; omega)
          injection hv with hv1 hv2 hv3
          subst hv1
          refine ⟨_, g, capm, by rw [HRes.out]; rfl, ⟨fun _ => rfl, fun j x hx => ?_⟩, fun _ => by have := HM.out.lt; omega, fun j hj => ?_, HM.out.below.setCell (p := ⟨w.heap.size, 0, none⟩) (Nat.le_refl _) _⟩
          · rw [World.cell?_setCell_other _ _ _ _ (by intro e; have e2 := congrArg Addr.block e; simp only at e2; have := HM.out.lt; omega)]
            exact hsrc.2 j x (by rw [← HRes.out]; exact hx)
          · rw [World.frozen?_setCell]
            exact hopen j (by rw [← HRes.out]; exact hj)
  · have hs' : sizeB l m = false := by simpa using hs
    have hv : taB l m r = false := by unfold taB; rw [hs', Bool.false_and]
    rw [hs'] at F
    rw [ta_no hv, hv]
    have hR1 := H0.out.1
    have hrc := hR1.cell
    have hrf := hR1.frozen
    clear hs hs' hv
    go_enter Try.func52, Try.ntmps52
    go_wp2_with fail
    refine (F.out _).mono ?_
    rintro e w1 ⟨rfl, hww⟩
    obtain rfl := hww.symm
    go_wp2
    refine bodyPost_ret (res_tab2 rfl _ rfl H0.out.1) rfl ?_
    exact tabOut_none H0.out.2
end Go.Proofs.Ytdphjnbelggcfaa
