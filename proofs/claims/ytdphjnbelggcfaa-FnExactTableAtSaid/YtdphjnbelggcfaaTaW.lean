/-
  TableAt of the program. Used by the claims on chapter 9.
-/
import Derived.Test.YtdphjnbelggcfaaTaL
import Derived.Test.YtdphjnbelggcfaaRowN
import Derived.Test.YtdphjnbelggcfaaCtB
import Derived.Test.YtdphjnbelggcfaaUpT
import Derived.Test.YtdphjnbelggcfaaMarkT
import Derived.Test.YtdphjnbelggcfaaAddB
import Derived.Deep.RegionWith
import Derived.Deep.RegionLaw
namespace Go.Proofs.Ytdphjnbelggcfaa
open Go.RowKit Go.Maps Go.WideMaps
set_option linter.unusedVariables false

def taB (l m r : Int) : Bool := sizeB l m && (decide (0 ≤ r) && decide (r < ctR l m))
def txsN (us : List Nat) : List ByteArray := us.map fun v => ba (txN v)
def taR (l m r : Int) : List ByteArray := if taB l m r = true then txsN (tatN (leftN m) l.toNat r.toNat l.toNat).2 else []
theorem ta_no {l m r : Int} (h : taB l m r = false) : taR l m r = [] := if_neg (by rw [h]; decide)
theorem ta_yes {l m r : Int} (h : taB l m r = true) : ∃ n k L q : Nat, l = (n : Int) ∧ 1 ≤ n ∧ n ≤ 10 ∧ m = (k : Int) ∧ OfM k L ∧ r = (q : Int) ∧ q < manyN n L ∧ taR l m r = txsN (tatN L n q n).2 := by
  have h0 := h
  unfold taB at h
  simp only [Bool.and_eq_true, decide_eq_true_eq] at h
  obtain ⟨h1, h2, h3⟩ := h
  obtain ⟨n, k, L, rfl, n1, n2, rfl, hO⟩ := sizeB_at h1
  obtain ⟨q, rfl⟩ : ∃ q : Nat, r = (q : Int) := ⟨r.toNat, by omega⟩
  have hc : ctR n k = ((manyN n L : Nat) : Int) := by unfold ctR; rw [if_pos h1, leftN_of hO, Int.toNat_natCast]
  rw [hc] at h3
  refine ⟨n, k, L, q, rfl, n1, n2, rfl, hO, rfl, by omega, ?_⟩
  unfold taR
  rw [if_pos h0, leftN_of hO, Int.toNat_natCast, Int.toNat_natCast]

/-- What lies in memory while the letters come. -/
structure TaM (w W : World) (T B : Nat) (left : List Nat) (mv : Value) (l : List ByteArray) : Prop where
  res : Boxed W w.heap.size 35 (.slice none 0 0)
  tab : Boxed W T 35 mv
  row : RowN W B left
  own : W.ownsRow (T + 1) 9 1 mv l.length (l.map Value.string)
  ne : ∀ q, mv.ownBlock = some q → q ≠ B
  lt1 : w.heap.size < T
  lt2 : T < B
  below : Below w.heap.size w W
theorem TaM.step {w W W' : World} {T B : Nat} {left : List Nat} {mv : Value} {l : List ByteArray} (h : TaM w W T B left mv l) (hb : Below W.heap.size W W') : TaM w W' T B left mv l :=
  ⟨boxed_below h.res hb h.res.lt, boxed_below h.tab hb h.tab.lt, h.row.below hb, row_below h.own hb, h.ne, h.lt1, h.lt2, h.below.trans (hb.mono h.below.size)⟩
theorem TaM.erased {w W W' : World} {T B : Nat} {left left' : List Nat} {mv : Value} {l : List ByteArray} (h : TaM w W T B left mv l) (hg : W.grownBy W' (some B)) (hr : RowN W' B left') : TaM w W' T B left' mv l :=
  ⟨h.res.kept hg (fun e => by injection e; have := h.lt1; have := h.lt2; omega), h.tab.kept hg (fun e => by injection e; have := h.lt2; omega), hr, h.own.kept hg (by
    cases hq : mv.ownBlock with
    | none => exact .inl rfl
    | some q => exact .inr (fun e => h.ne q hq (by injection e))), h.ne, h.lt1, h.lt2, h.below.grown hg h.below.size (fun j e => by injection e with e; have := h.lt1; have := h.lt2; omega)⟩
theorem TaM.apart {w W : World} {T B : Nat} {left : List Nat} {mv : Value} {l : List ByteArray} (h : TaM w W T B left mv l) {q : Nat} (hq : q ≤ T) : some q ≠ mv.ownBlock := fun e => by
  have := (h.own.lt q e.symm).1; omega
/-- One text more, and the box stored. -/
theorem TaM.appended {w W W' : World} {T B gg cg : Nat} {left : List Nat} {mv : Value} {l : List ByteArray} {y : ByteArray} (h : TaM w W T B left mv l)
    (hg : (W.alloc (.cells #[.string y] 9)).grownBy W' mv.ownBlock) (hown : W'.ownsRow (T + 1) 9 1 (.slice (some ⟨gg, 0, none⟩) (l.length + 1) cg) (l.length + 1) (l.map Value.string ++ [.string y])) (hat : mv.ownBlock = some gg ∨ gg = W.heap.size + 1) :
    Boxed W' T 35 mv ∧ TaM w (W'.setCell ⟨T, 0, none⟩ (.slice (some ⟨gg, 0, none⟩) (l.length + 1) cg)) T B left (.slice (some ⟨gg, 0, none⟩) (l.length + 1) cg) (l ++ [y]) := by
  have hT := (h.tab.alloc (.cells #[.string y] 9)).kept hg (h.apart (Nat.le_refl _))
  have hR := (h.res.alloc (.cells #[.string y] 9)).kept hg (h.apart (by have := h.lt1; omega))
  have hBW := h.row.lt
  have hBn : some B ≠ mv.ownBlock := fun e => h.ne B e.symm rfl
  have hblk : W'.heap[B]? = W.heap[B]? := (hg.block B (by simp; omega) (fun e => hBn e)).trans (Below.heap_alloc _ _ _ hBW)
  have hrow : RowN W' B left := ⟨fun j v hv => (World.cell?_of_block (w := W) (a := ⟨B, j, none⟩) hblk).trans (h.row.cell j v hv), fun j hj => by
    have := h.row.opn j hj
    unfold World.frozen? at this ⊢
    rw [hblk]; exact this, Nat.lt_of_lt_of_le hBW (Nat.le_trans (below_alloc W _).size hg.size)⟩
  have hbB : Below w.heap.size w W' := (h.below.alloc h.below.size _).grown hg (Nat.le_trans h.below.size (below_alloc W _).size) (fun j e => by have := (h.own.lt j e).1; have := h.lt1; omega)
  refine ⟨hT, boxed_set hR (by have := h.lt1; omega), hT.set _, ⟨fun j v hv => ?_, fun j hj => ?_, ?_⟩, ?_, fun q hq => ?_, h.lt1, h.lt2, hbB.setCell (p := ⟨T, 0, none⟩) (by have := h.lt1; show w.heap.size ≤ T; omega) _⟩
  · rw [World.cell?_of_block (w := W') (a := ⟨B, j, none⟩) (Below.heap_setCell _ _ _ _ (by have := h.lt2; show B ≠ T; omega))]
    exact hrow.cell j v hv
  · rw [World.frozen?_setCell]; exact hrow.opn j hj
  · have := hrow.lt; simp [World.setCell]; exact this
  · rw [List.length_append, List.map_append]
    exact hown.kept (grownBy_setCell' W' _ _) (.inr (by
      intro e
      have := (hown.lt gg rfl).1
      injection e with e
      simp only at e
      omega))
  · injection hq with hq
    subst hq
    rcases hat with e | e
    · exact h.ne _ e
    · intro e2
      have e3 : gg = B := e2
      omega

set_option maxHeartbeats 4000000 in
set_option maxRecDepth 8000 in
theorem tableAt_any (l m r : Int) (w : World) :
    Calls Try.prog 53 #[.int .i64 l, .int .i64 m, .int .i64 r] w (TabOut (taR l m r) (taB l m r) w) := by
  have hR0 := Boxed.new w 35 (.slice none 0 0)
  have hB0 := below_alloc w (.cells #[.slice none 0 0] 35)
  have F := Lib.hid fun W => countTables_any l m W
  have H0 := Lib.hid (And.intro hR0 hB0)
  clear hR0 hB0
  cases hv : taB l m r with
  | false =>
    rw [ta_no hv]
    by_cases hs : sizeB l m = true
    · have hr : r < 0 ∨ ctR l m ≤ r := by
        unfold taB at hv
        rw [hs] at hv
        simp only [Bool.true_and, Bool.and_eq_false_iff, decide_eq_false_iff_not] at hv
        omega
      rw [hs] at F
      have hc : ∃ c0 : Nat, ctR l m = (c0 : Int) ∧ c0 ≤ 839299365868340224 := by
        obtain ⟨n, k, L, rfl, n1, n2, rfl, hO⟩ := sizeB_at hs
        exact ⟨manyN n L, by unfold ctR; rw [if_pos hs, leftN_of hO, Int.toNat_natCast], manyN_62 n2 (by have := hO.le; omega)⟩
      obtain ⟨c0, hc0, hc1⟩ := hc
      rw [hc0] at F hr
      clear hv hs hc0
      by_cases h1 : r < 0
      · clear hr
        go_enter Try.func53, Try.ntmps53
        go_wp2_with fail
        refine (F.out _).mono ?_
        rintro e w1 ⟨rfl, hb⟩
        have hR1 := boxed_below H0.out.1 hb (by simp)
        have HB1 := Lib.hid (H0.out.2.trans (hb.mono (by simp)))
        have hrc := hR1.cell
        have hrf := hR1.frozen
        clear hb
        go_wp2
        refine bodyPost_ret (res_tab2 rfl _ rfl (hR1.set _)) rfl ?_
        exact tabOut_none (HB1.out.setCell (p := ⟨w.heap.size, 0, none⟩) (Nat.le_refl _) _)
      · have h2 : (c0 : Int) ≤ r := by omega
        clear hr
        go_enter Try.func53, Try.ntmps53
        go_wp2_with fail
        refine (F.out _).mono ?_
        rintro e w1 ⟨rfl, hb⟩
        have hR1 := boxed_below H0.out.1 hb (by simp)
        have HB1 := Lib.hid (H0.out.2.trans (hb.mono (by simp)))
        have hrc := hR1.cell
        have hrf := hR1.frozen
        clear hb
        go_wp2
        refine bodyPost_ret (res_tab2 rfl _ rfl (hR1.set _)) rfl ?_
        exact tabOut_none (HB1.out.setCell (p := ⟨w.heap.size, 0, none⟩) (Nat.le_refl _) _)
    · have hs' : sizeB l m = false := by simpa using hs
      rw [hs'] at F
      clear hv hs hs'
      go_enter Try.func53, Try.ntmps53
      go_wp2_with fail
      refine (F.out _).mono ?_
      rintro e w1 ⟨rfl, hb⟩
      have hR1 := boxed_below H0.out.1 hb (by simp)
      have HB1 := Lib.hid (H0.out.2.trans (hb.mono (by simp)))
      have hrc := hR1.cell
      have hrf := hR1.frozen
      clear hb
      go_wp2
      refine bodyPost_ret (res_tab2 rfl _ rfl (hR1.set _)) rfl ?_
      exact tabOut_none (HB1.out.setCell (p := ⟨w.heap.size, 0, none⟩) (Nat.le_refl _) _)
  | true =>
    obtain ⟨n, k0, L, q, rfl, n1, n2, rfl, hO, rfl, hq, hRes⟩ := ta_yes hv
    have hc : ctR n k0 = ((manyN n L : Nat) : Int) ∧ sizeB n k0 = true := by
      unfold taB at hv
      rw [Bool.and_eq_true] at hv
      exact ⟨by unfold ctR; rw [if_pos hv.1, leftN_of hO, Int.toNat_natCast], hv.1⟩
    rw [hc.1, hc.2] at F
    have hbig := manyN_62 n2 (l := L) (by have := hO.le; omega)
    have HKeep := Lib.hid (tat_keep (n := n) (show L ≤ 62 by have := hO.le; omega) hq)
    have HStep := Lib.hid fun k (hk : k < n) => tat_step hk (show L ≤ 62 by have := hO.le; omega) (HKeep.out k (by omega))
    have HEach := Lib.hid fun k (hk : k < n) => tat_each (L := L) hk (Nat.lt_of_le_of_lt (Nat.zero_le _) (HKeep.out k (by omega)).lt)
    have FN := Lib.hid fun W => nodesWithin_any k0 L hO W
    have FT := Lib.hid fun (v : Nat) (W : World) (hv : v ≤ 63) => textOf_any v hv W
    have HOl := Lib.hid hO.le
    have HQ := Lib.hid hq
    obtain ⟨i0, hi, hz0, hz1, hz2⟩ := info_parts infoStr
    have HRes : Hid (taR (n : Int) (k0 : Int) (q : Int) = txsN (tatN L n q n).2) := Lib.hid hRes
    have b1 : (q : Int) < ((manyN n L : Nat) : Int) := by omega
    have b2 : manyN n L ≤ 839299365868340224 := hbig
    clear hv hc hO hbig hRes hq
    go_enter Try.func53, Try.ntmps53
    go_wp2_with fail
    refine (F.out _).mono ?_
    rintro e w1 ⟨rfl, hb⟩
    have hR1 := boxed_below H0.out.1 hb (by simp)
    have HB1 := Lib.hid (H0.out.2.trans (hb.mono (by simp)))
    have HLt1 : Hid (w.heap.size < w1.heap.size) := Lib.hid hR1.lt
    have HR1 := Lib.hid hR1
    clear hb hR1
    go_wp2_with fail
    refine (FN.out _).mono ?_
    rintro e w2 ⟨B, cap, rfl, hown, hb⟩
    have HRow := Lib.hid (rowN_of hown (by have := HOl.out; omega) (upto_len L).symm)
    have HT2 := Lib.hid (boxed_below (Boxed.new w1 35 (.slice none 0 0)) hb (by simp))
    have HBB : Hid (w1.heap.size < B) := Lib.hid (by have := HRow.out.2.1; simp at this; omega)
    have HM2 : Hid (TaM w w2 w1.heap.size B (leftL L (tatN L n q 0).2) (.slice none 0 0) (txsN (tatN L n q 0).2)) := Lib.hid
      ⟨boxed_below (HR1.out.alloc _) hb (by simp; have := HLt1.out; omega), HT2.out, (by show RowN w2 B (leftL L []); rw [left_nil]; exact HRow.out.1), World.ownsRow_nil _ _ _ _, (fun q e => by cases e), HLt1.out, HBB.out, (HB1.out.alloc HB1.out.size _).trans (hb.mono (by simp; have := HB1.out.size; omega))⟩
    have HCap := Lib.hid HRow.out.2.2
    clear hown hb HRow HT2 HBB
    generalize w1.heap.size = T at *
    go_wp2
    go_loopw [2, 8, 11, 35] (fun rv cv lv iv wr => ∃ (k n0 : Nat) (mv : Value), iv = .int .i64 (k : Int) ∧ rv = .int .i64 (((tatN L n q k).1 : Nat) : Int) ∧ cv = .int .i64 ((manyN (n - k) (L - k) : Nat) : Int) ∧ lv = .slice (some ⟨B, 0, none⟩) n0 cap ∧ k ≤ n ∧ Hid (n0 = L - k) ∧ Hid (TaM w wr T B (leftL L (tatN L n q k).2) mv (txsN (tatN L n q k).2))) (fun _ _ _ iv _ => n - (intOf iv).toNat)
    case atStart => exact ⟨0, L, _, rfl, rfl, rfl, rfl, Nat.zero_le _, Lib.hid rfl, HM2⟩
    case round =>
      clear HM2 b1
      obtain ⟨k, n0, mv, rfl, rfl, rfl, rfl, hk, HN0, HM⟩ := hrel
      by_cases hlt : k < n
      · obtain ⟨v, pv, p1, p2, p3, p4, p5, p6, p7, p8, p9⟩ := HStep.out k hlt
        clear pv
        obtain ⟨f1, f2, f3⟩ := HEach.out k hlt
        have hKk := HKeep.out k hk
        have hs1 : (tatN L n q (k + 1)) = tatS L n (tatN L n q k) := rfl
        rw [p8] at hs1
        have HS1 := Lib.hid hs1
        have hKl := hKk.len
        have hcb := manyN_62 (k := n - k) (l := L - k) (by omega) (by have := HOl.out; omega)
        have hEb := manyN_62 (k := n - 1 - k) (l := L - 1 - k) (by omega) (by have := HOl.out; omega)
        have hE2 : manyN (n - (k + 1)) (L - (k + 1)) = manyN (n - 1 - k) (L - 1 - k) := by rw [show n - (k + 1) = n - 1 - k by omega, show L - (k + 1) = L - 1 - k by omega]
        have HE2 := Lib.hid hE2
        have hrl := hKk.lt
        generalize tatN L n q k = s at *
        obtain ⟨r1, us⟩ := s
        simp only at *
        generalize manyN (n - 1 - k) (L - 1 - k) = E at *
        generalize manyN (n - k) (L - k) = c0 at *
        obtain ⟨P, hP⟩ : ∃ P, r1 / E = P := ⟨_, rfl⟩
        obtain ⟨R2, hR2⟩ : ∃ R2, r1 % E = R2 := ⟨_, rfl⟩
        rw [hP] at p1 p5 p6 p7
        rw [hR2] at HS1
        have hn0 := HN0.out
        have g1 : (c0 : Int).tdiv (n0 : Int) = (E : Int) := by rw [← Int.ofNat_tdiv, f1, hn0, Nat.mul_div_cancel_left _ (by omega)]
        have g2 : (r1 : Int).tdiv (E : Int) = (P : Int) := by rw [← Int.ofNat_tdiv, hP]
        have g3 : (r1 : Int).tmod (E : Int) = (R2 : Int) := by rw [← Int.ofNat_tmod, hR2]
        have hPr : P ≤ r1 := by rw [← hP]; exact Nat.div_le_self _ _
        have hRr : R2 ≤ r1 := by rw [← hR2]; exact Nat.mod_le _ _
        have z0 : ¬ (n0 : Int) = 0 := by omega
        have z1 : ¬ (E : Int) = 0 := by omega
        have z2 : ((n0 : Int) == 0) = false := beq_false_of_ne z0
        have z3 : ((E : Int) == 0) = false := beq_false_of_ne z1
        have hr1b : r1 ≤ 839299365868340224 := by omega
        have hn62 : n0 ≤ 62 := by have := HOl.out; omega
        have hPn : P < n0 := by omega
        have i1 : (0 : Int) ≤ (P : Int) := by omega
        have i2 : (P : Int) < (n0 : Int) := by omega
        have HP1 := Lib.hid p1
        have HP7 := Lib.hid p7
        have HLl : Hid ((leftL L us).length = n0) := Lib.hid (by rw [hn0]; exact hKk.left)
        have hll : (txsN us).length = k := by unfold txsN; rw [List.length_map]; exact hKl
        have HLk := Lib.hid hll
        have HTx : Hid (txsN (us ++ [v]) = txsN us ++ [ba (txN v)]) := Lib.hid (by unfold txsN; simp)
        generalize txsN us = l at *
        have HY := Lib.hid fun W => FT.out v W p3
        generalize ba (txN v) = y at *
        obtain ⟨av, capm, rfl⟩ := row_form HM.out.own
        have HMd : Hid (TaM w wr.drew T B (leftL L us) (.slice av l.length capm) l) := Lib.hid (HM.out.step (Below.refl _ _).drew)
        have a1 : l.length + 1 ≤ maxLen := by unfold maxLen; omega
        have a2 : (l.length + 1) * 16 ≤ 140737488355328 := by omega
        have t1 := HM.out.tab.cell
        have t2 := HM.out.row.cell P v p1
        have t3 := HMd.out.tab.cell
        have t4 := HMd.out.row.cell P v p1
        clear p1 p2 p3 p4 p5 p6 p7 p8 p9 f1 f3 hKk hs1 hKl hE2 hrl hP hR2 hn0 hll
        go_wp2
        go_region_law
          ((first
            | (refine step_append_lies _ (by rfl) _ _ _ (by rfl) (T + 1) 9 i0 _ 1 16 Try.underlying28 hi hz0 hz1 hz2 rfl (by decide) (.slice av l.length capm) l.length (l.map Value.string) (by rfl) (HM5.out.own.alloc _)
                ⟨w5.heap.size, 0, none⟩ 1 1 [.string y] (by rfl) (by rfl) (World.news_of_block (cs := #[.string y]) (t := 9) (fr := (0, 0)) (heap_alloc_new w5 _)) (by simp [Value.oneCell']) (by decide) a1 a2 (by have := HM5.out.tab.lt; simp; omega) (w5.heap.size + 1) (by simp) ?_; intro gg cg w7 hown7 hgrow hat hglt; obtain ⟨hT7, hM7⟩ := HM5.out.appended hgrow hown7 hat; have c7 := hT7.cell; have f7 := hT7.frozen)
            | (go_simp; go_at_call 77; refine (HY.out _).mono ?_; rintro e' w5 ⟨rfl, hb5⟩; have HM5 := Lib.hid (HMd.out.step hb5); have t5 := HM5.out.tab.cell; have t6 := HM5.out.row.cell P v HP1.out; have t7 := keep_cell w5 (Obj.cells #[.string y] 9) t5)))
        all_goals (
          have HM7 := Lib.hid hM7
          clear hT7 hM7 hown7 hgrow hat hglt c7 f7 t1 t2 t3 t4 t5 t6 t7 hb5
          have HDl := Lib.hid (deleteN_any B n0 cap P (leftL L us) _ HM7.out.row HLl.out.symm hPn (by have := HCap.out.1; have := HN0.out; omega) HCap.out.2)
          go_wp2_with fail
          refine HDl.out.mono ?_
          rintro e' w8 ⟨rfl, hgr, hrw⟩
          have HM8 : Hid (TaM w w8 T B (leftL L (tatN L n q (k + 1)).2) (.slice (some ⟨gg, 0, none⟩) (l.length + 1) cg) (txsN (tatN L n q (k + 1)).2)) := Lib.hid (by
            have h := HM7.out.erased hgr hrw
            rw [HS1.out]
            simp only
            rw [HTx.out, ← HP7.out]
            exact h)
          have HN8 : Hid (n0 - 1 = L - (k + 1)) := Lib.hid (by have := HN0.out; omega)
          have HR8 : Hid ((tatN L n q (k + 1)).1 = R2) := Lib.hid (by rw [HS1.out])
          clear hgr hrw g1 g2 g3
          go_wp2
          go_roundw
          case rel => exact ⟨k + 1, n0 - 1, _, by go_num, by rw [HR8.out], by rw [HE2.out], rfl, by omega, HN8, HM8⟩
          case measure => simp [intOf]; omega)
      · obtain rfl : k = n := by omega
        have HLn := Lib.hid (HKeep.out k (Nat.le_refl _)).len
        have hln : (txsN (tatN L k q k).2).length = k := by unfold txsN; rw [List.length_map, HLn.out]
        have HLn2 := Lib.hid hln
        obtain ⟨av, capm, rfl⟩ := row_form HM.out.own
        have c0' := load_tab HM.out.tab
        have c1 := HM.out.tab.cell
        have c2 := HM.out.res.cell
        have f2 := HM.out.res.frozen
        clear hln
        go_wp2
        refine bodyPost_ret (res_tab2 rfl _ rfl (HM.out.res.set _)) rfl ?_
        obtain ⟨g, cp, hv, hgb, hgl, hsrc, hopen⟩ := row_src HM.out.own (by rw [HLn2.out]; omega)
        injection hv with hv1 hv2 hv3
        subst hv1
        refine ⟨_, g, capm, by rw [HRes.out]; rfl, ⟨fun _ => rfl, fun j x hx => ?_⟩, fun _ => by have := HM.out.lt1; omega, fun j hj => ?_, HM.out.below.setCell (p := ⟨w.heap.size, 0, none⟩) (Nat.le_refl _) _⟩
        · rw [World.cell?_setCell_other _ _ _ _ (by intro e; have e2 := congrArg Addr.block e; simp only at e2; have := HM.out.lt1; omega)]
          exact hsrc.2 j x (by rw [← HRes.out]; exact hx)
        · rw [World.frozen?_setCell]
          exact hopen j (by rw [← HRes.out]; exact hj)
end Go.Proofs.Ytdphjnbelggcfaa
