/-
  bestFrom: what its loops keep; slices.IndexFunc; its closure. Used by the claims on chapter 8.
-/
import Derived.Test.YtdphjnbelggcfaaSrsW
import Derived.Test.YtdphjnbelggcfaaSlcS
import Derived.Test.YtdphjnbelggcfaaFstS
namespace Go.Proofs.Ytdphjnbelggcfaa
open Go.RowKit
set_option linter.unusedVariables false



/-! ### Plain -/
theorem lbw_onto (us : List Nat) (n : Nat) (j : Nat) (hj : j < n + 1) : ∃ k, k < n + 1 ∧ ((lbw us n)[k]!).val = j := by
  have h := Go.Sort.insertionSort_holds (lt := aht us) (aht_swo us n) (idR n) 0 (n + 1) (by omega) (by rw [idR_size]; exact Nat.le_refl _)
  rw [← lbw_eq] at h
  have hsz := lbw_size us n
  have h3 := h.1.2.2
  have e0 : ∀ {α : Type} (a : Array α) (m : Nat), a.size = m → a.extract 0 m = a := fun a m e => by subst e; exact Array.extract_size
  rw [e0 _ _ hsz, e0 _ _ (idR_size n)] at h3
  have hm : (⟨j, hj⟩ : Fin (n + 1)) ∈ (lbw us n).toList := h3.mem_iff.2 (by unfold idR; simp)
  obtain ⟨k, hk, e⟩ := List.getElem_of_mem hm
  rw [Array.length_toList, hsz] at hk
  refine ⟨k, hk, ?_⟩
  rw [getElem!_pos _ k (by omega)]
  rw [Array.getElem_toList] at e
  rw [e]
theorem srtB_times {ys : List ByteArray} (h : SrtB ys) : (tL ys).Pairwise (· ≤ ·) := by
  unfold tL
  rw [List.pairwise_map]
  exact List.Pairwise.imp (fun hb => bef_le hb) h
/-- The second loop: the texts that are left, the marks that are laid. -/
structure BfI (ys : List ByteArray) (us : List Nat) (i : Nat) (L r : List ByteArray) : Prop where
  fst : fstL ys us = r ++ fstL L (us.drop i)
  ts : (bts (tL ys) us).drop i = bts (tL L) (us.drop i)
  srt : (tL L).Pairwise (· ≤ ·)
  len : L.length + i = ys.length
  rl : r.length = i
theorem BfI.start {ys : List ByteArray} {us : List Nat} (h : (tL ys).Pairwise (· ≤ ·)) : BfI ys us 0 ys [] := ⟨rfl, rfl, h, rfl, rfl⟩
theorem BfI.step {ys : List ByteArray} {us : List Nat} {i : Nat} {L r : List ByteArray} (h : BfI ys us i L r) (hi : i < us.length) (hl : us.length ≤ ys.length) :
    fP L ((bts (tL ys) us).getD i 0) < L.length ∧ tAt L (fP L ((bts (tL ys) us).getD i 0)) = (bts (tL ys) us).getD i 0 ∧ (∀ k, k < fP L ((bts (tL ys) us).getD i 0) → tAt L k ≠ (bts (tL ys) us).getD i 0) ∧
    BfI ys us (i + 1) (L.eraseIdx (fP L ((bts (tL ys) us).getD i 0))) (r ++ [L.getD (fP L ((bts (tL ys) us).getD i 0)) ⟨#[]⟩]) := by
  have hd : us.drop i = us[i] :: us.drop (i + 1) := List.drop_eq_getElem_cons hi
  have hlL := h.len
  have hc : cAb us[i] (us.drop (i + 1)) < L.length := by
    have := cAb_le us[i] (us.drop (i + 1)); rw [List.length_drop] at this; omega
  have ht : (bts (tL ys) us).getD i 0 = tAt L (cAb us[i] (us.drop (i + 1))) := by
    have h2 := h.ts
    rw [hd, bts, tL_getD _ _ hc] at h2
    have e : ((bts (tL ys) us).drop i)[0]? = some (tAt L (cAb us[i] (us.drop (i + 1)))) := by rw [h2]; rfl
    rw [List.getElem?_drop, Nat.add_zero] at e
    rw [List.getD_eq_getElem?_getD, e]; rfl
  rw [ht]
  obtain ⟨h1, h2, h3⟩ := fP_at (L := L) hc rfl
  refine ⟨by omega, h2, h3, ⟨?_, ?_, ?_, ?_, ?_⟩⟩
  · rw [h.fst, hd, fstL, List.append_assoc]; rfl
  · have e := h.ts
    rw [hd, bts, ← tL_first h.srt hc] at e
    have e2 : (bts (tL ys) us).drop (i + 1) = ((bts (tL ys) us).drop i).drop 1 := by rw [List.drop_drop]
    rw [e2, e]; rfl
  · rw [tL_erase]; exact sorted_erase h.srt _
  · rw [erase_len _ _ (by omega)]; omega
  · rw [List.length_append, h.rl]; rfl
theorem BfI.done {ys : List ByteArray} {us : List Nat} {L r : List ByteArray} (h : BfI ys us us.length L r) : r = fstL ys us := by
  rw [h.fst, List.drop_length, fstL, List.append_nil]
def idxB (p : ByteArray → Bool) (l : List ByteArray) : Int := match l.findIdx? p with | some k => (k : Int) | none => -1
theorem idxB_hit {p : ByteArray → Bool} {l : List ByteArray} {k : Nat} (hk : k < l.length) (hp : p l[k] = true) (hlow : ∀ j (h : j < k), p (l[j]'(by omega)) = false) : idxB p l = (k : Int) := by
  unfold idxB
  have : l.findIdx? p = some k := List.findIdx?_eq_some_iff_getElem.2 ⟨hk, hp, fun j hj => by rw [hlow j hj]; simp⟩
  rw [this]
theorem idxB_miss {p : ByteArray → Bool} {l : List ByteArray} (h : ∀ j (hj : j < l.length), p l[j] = false) : idxB p l = -1 := by
  unfold idxB
  have : l.findIdx? p = none := List.findIdx?_eq_none_iff.2 fun x hx => by
    obtain ⟨j, hj, rfl⟩ := List.getElem_of_mem hx
    exact h j hj
  rw [this]
theorem idxB_fP {L : List ByteArray} {t : Nat} (h : fP L t < L.length) (h1 : tAt L (fP L t) = t) (h2 : ∀ k, k < fP L t → tAt L k ≠ t) : idxB (fun x => decide (tml (bl x) = t)) L = ((fP L t : Nat) : Int) :=
  idxB_hit h (by rw [decide_eq_true_eq, ← tAt_eq h]; exact h1) (fun j hj => by rw [decide_eq_false_iff_not, ← tAt_eq (show j < L.length by omega)]; exact h2 j hj)

/-! ### The search -/
theorem enter_fn {f : FuncId} {fn : Func} {c : Code} (hf : Try.prog.funcs[f]? = some fn) (hname : (fn.name == "runtime.NumGoroutine") = false) (hb : fn.body = some c) (A : Array Value) (W : World) :
    Sem.run Try.prog (callFunc f A) W = .ok (.enter f A) W := by
  have h1 : fn.name ≠ "runtime.NumGoroutine" := by simpa using hname
  simp [callFunc, hf, h1, hb]
set_option maxHeartbeats 2000000 in
theorem indexFuncB_any (F : Nat) (lb : Array Value) (p : ByteArray → Bool) (l : List ByteArray) (a : Option Addr) (g o c : Nat) (w : World) (hs : ListIn w a g o l) (hl : l.length ≤ 1000)
    (hp : ∀ W x, x ∈ l → Below w.heap.size w W → Calls Try.prog F (#[.string x] ++ lb) W fun e w' => e = .returned (.bool (p x)) ∧ Below W.heap.size W w') (hE : ∀ A W, Sem.run Try.prog (callFunc F A) W = .ok (.enter F A) W) :
    Calls Try.prog 139 #[.slice a l.length c, .func (.func F) #[] lb] w fun e w' => e = .returned (.int .i64 (idxB p l)) ∧ Below w.heap.size w w' := by
  have HS := Lib.hid hs
  have HP := Lib.hid hp
  clear hs hp
  go_enter Try.func139, Try.ntmps139
  go_wp2
  go_loopw [8] (fun v wr => ∃ k : Nat, v = .int .i64 k ∧ k ≤ l.length ∧ Hid (Below w.heap.size w wr) ∧ Hid (∀ j (h : j < k) (hj : j < l.length), p l[j] = false)) (fun v _ => l.length - (intOf v).toNat)
  case atStart => exact ⟨0, rfl, Nat.zero_le _, Lib.hid (Below.refl _ _), Lib.hid fun j h => absurd h (Nat.not_lt_zero _)⟩
  case round =>
    obtain ⟨k, rfl, hk, HB, HLo⟩ := hrel
    by_cases hlt : k < l.length
    · obtain rfl := HS.out.src.1 (by omega)
      have d1 := (HS.out.below HB.out).src.2 k _ (List.getElem?_eq_getElem hlt)
      have HC := Lib.hid (HP.out wr l[k] (List.getElem_mem hlt) HB.out)
      generalize hy : l[k] = y at d1 HC
      have HY := Lib.hid hy
      clear hy
      have j0 : (0 : Int) ≤ (k : Int) := by omega
      have hltz : (k : Int) < (l.length : Int) := by omega
      cases hq : p y with
      | true =>
        rw [hq] at HC
        have HI : Hid (idxB p l = (k : Int)) := Lib.hid (idxB_hit hlt (by rw [HY.out, hq]) (fun j h => HLo.out j h _))
        clear hq
        go_wp2_with fail
        refine HC.out.mono ?_
        rintro e w' ⟨rfl, hb'⟩
        have HB2 := Lib.hid (HB.out.trans (hb'.mono HB.out.size))
        clear hb'
        go_wp2
        go_ret
        exact ⟨by rw [HI.out]; rfl, HB2.out⟩
      | false =>
        rw [hq] at HC
        have HL2 : Hid (∀ j (h : j < k + 1) (hj : j < l.length), p l[j] = false) := Lib.hid fun j h hj => by
          by_cases e : j = k
          · subst e; rw [HY.out]; exact hq
          · exact HLo.out j (by omega) hj
        clear hq
        go_wp2_with fail
        refine HC.out.mono ?_
        rintro e w' ⟨rfl, hb'⟩
        have HB2 := Lib.hid (HB.out.trans (hb'.mono HB.out.size))
        clear hb'
        go_wp2
        go_roundw
        case rel => exact ⟨k + 1, by go_num, by omega, HB2, HL2⟩
        case measure => simp [intOf]; omega
    · obtain rfl : k = l.length := by omega
      have HI : Hid (idxB p l = -1) := Lib.hid (idxB_miss fun j hj => HLo.out j hj hj)
      go_wp2
      go_ret
      exact ⟨by rw [HI.out]; rfl, HB.out⟩

set_option maxHeartbeats 1000000 in
theorem ofTime_any (x : ByteArray) (X t : Nat) (W : World) (hx : marksL (bl x) = true) (hc : W.cell? ⟨X, 0, none⟩ = some (.int .i64 (t : Int))) :
    Calls Try.prog 140 #[.string x, .pointer (some ⟨X, 0, none⟩)] W fun e w' => e = .returned (.bool (decide (tml (bl x) = t))) ∧ Below W.heap.size W w' := by
  have HT := Lib.hid fun w => timeOf_any x w hx
  have HF := Lib.hid fun wr (hb : Below W.heap.size W wr) => (hb.cell (p := ⟨X, 0, none⟩) (World.block_lt_of_cell? _ _ hc)).trans hc
  have HBd : Hid (Below W.heap.size W W.drew) := Lib.hid (Below.refl W.heap.size W).drew
  have e1 : decide ((tml (bl x) : Int) = (t : Int)) = decide (tml (bl x) = t) := by rw [Bool.eq_iff_iff]; simp only [decide_eq_true_eq]; omega
  rw [← e1]
  clear hx e1
  generalize tml (bl x) = u at HT ⊢
  go_enter Try.func140, Try.ntmps140
  go_wp2
  go_region_held3 (fun w' => w'.cell? ⟨X, 0, none⟩ = some (.int .i64 (t : Int)))
    (first
      | with_reducible exact HF.out _ HB4.out
      | with_reducible exact HF.out _ HBd.out)
    ((first
      | (go_at_call 138; refine (HT.out _).mono ?_; rintro e w4 ⟨rfl, hb4⟩; have HB4 : Hid (Below W.heap.size W w4) := Lib.hid (HBd.out.trans (hb4.mono HBd.out.size)); clear hb4)
      | fail))
  all_goals (
    go_wp2
    go_ret
    exact ⟨by first | rfl | simp, HB4.out⟩)
theorem enter_ofTime (A : Array Value) (W : World) : Sem.run Try.prog (callFunc 140 A) W = .ok (.enter 140 A) W :=
  enter_fn (f := 140) Try.func140 (by rfl) (by rfl) A W



theorem RowO.grown {w w' : World} {B g : Nat} {ys : List ByteArray} (h : RowO w B ys) (hg : w.grownBy w' (some g)) (hne : B ≠ g) : RowO w' B ys := by
  have e := hg.block B h.lt (fun e => hne (by injection e))
  exact ⟨fun k hk => (World.cell?_of_block (w := w) (a := ⟨B, k, none⟩) e).trans (h.cell k hk), fun k hk => (World.frozen?_of_block (w := w) (a := ⟨B, k, none⟩) e).trans (h.opn k hk), Nat.lt_of_lt_of_le h.lt hg.size⟩
theorem boxed_lt {w : World} {g : Nat} {t : TypeId} {v : Value} (h : Boxed w g t v) : g < w.heap.size := (Array.getElem?_eq_some_iff.1 h).1
theorem boxed_grown {w w' : World} {X g : Nat} {t : TypeId} {v : Value} (h : Boxed w X t v) (hg : w.grownBy w' (some g)) (hne : X ≠ g) : Boxed w' X t v := (hg.block X (boxed_lt h) (fun e => hne (by injection e))).trans h
theorem Below.grown' {b : Nat} {w w1 w2 : World} {g : Nat} (h : Below b w w1) (hs : b ≤ w1.heap.size) (hg : w1.grownBy w2 (some g)) (hb : b ≤ g) : Below b w w2 := h.grown hg hs (fun q e => by injection e with e; omega)

/-- While the times are laid. -/
structure P1 (w W : World) (X B T PB n : Nat) (ys : List ByteArray) (P ts : Nat → Nat) : Prop where
  box : Boxed W X 35 (.slice none 0 0)
  row : RowO W B ys
  tc : ∀ k, k < n + 1 → W.cell? ⟨T, k, none⟩ = some (.int .i64 ((ts k : Nat) : Int)) ∧ W.frozen? ⟨T, k, none⟩ = false
  pc : ∀ k, k < n + 1 → W.cell? ⟨PB, k, none⟩ = some (.int .i64 ((P k : Nat) : Int))
  bel : Below w.heap.size w W
  tlt : T < W.heap.size
  bx : w.heap.size ≤ X
  xb : X < B
  bt : B < T
  tp : T < PB
theorem P1.below {w W W' : World} {X B T PB n : Nat} {ys : List ByteArray} {P ts : Nat → Nat} (h : P1 w W X B T PB n ys P ts) (hb : Below W.heap.size W W') : P1 w W' X B T PB n ys P ts :=
  ⟨boxed_below h.box hb (boxed_lt h.box), h.row.below hb, fun k hk => ⟨(hb.cell (p := ⟨T, k, none⟩) h.tlt).trans (h.tc k hk).1, (hb.frozen (p := ⟨T, k, none⟩) h.tlt).trans (h.tc k hk).2⟩,
    fun k hk => (hb.cell (World.block_lt_of_cell? _ _ (h.pc k hk))).trans (h.pc k hk), h.bel.trans (hb.mono h.bel.size), Nat.lt_of_lt_of_le h.tlt hb.size, h.bx, h.xb, h.bt, h.tp⟩
theorem P1.set {w W : World} {X B T PB n : Nat} {ys : List ByteArray} {P ts : Nat → Nat} (h : P1 w W X B T PB n ys P ts) {j v : Nat} (hj : j < n + 1) :
    P1 w (W.setCell ⟨T, j, none⟩ (.int .i64 (v : Int))) X B T PB n ys P (fun k => if k = j then v else ts k) := by
  have hxb := h.xb; have hbt := h.bt; have htp := h.tp; have hbx := h.bx
  have hg : W.grownBy (W.setCell ⟨T, j, none⟩ (.int .i64 (v : Int))) (some T) := grown_set j _
  refine ⟨boxed_grown h.box hg (by omega), h.row.grown hg (by omega), fun k hk => ⟨?_, ?_⟩, fun k hk => ?_, Below.grown' h.bel h.bel.size hg (by omega), Nat.lt_of_lt_of_le h.tlt hg.size, h.bx, h.xb, h.bt, h.tp⟩
  · by_cases e : k = j
    · subst e
      rw [World.cell?_setCell_same' _ _ _ (by rw [(h.tc k hk).1]; rfl), if_pos rfl]
    · rw [World.cell?_setCell_other _ _ _ _ (by intro e2; cases e2; exact e rfl), if_neg e]; exact (h.tc k hk).1
  · rw [World.frozen?_setCell]; exact (h.tc k hk).2
  · rw [World.cell?_setCell_other _ _ _ _ (by intro e2; have := congrArg Addr.block e2; simp only at this; omega)]; exact h.pc k hk
/-- While the marks are laid. -/
structure P2 (w W : World) (X B T H z n i : Nat) (ts : Nat → Nat) (L r : List ByteArray) (rv : Value) : Prop where
  box : Boxed W X 35 (.slice none 0 0)
  row : RowO W B L
  tc : ∀ k, k < n + 1 → W.cell? ⟨T, k, none⟩ = some (.int .i64 ((ts k : Nat) : Int))
  bel : Below w.heap.size w W
  bst : Boxed W H 35 rv
  own : W.ownsRow z 9 1 rv i (r.map Value.string)
  hz : z ≤ W.heap.size
  bx : w.heap.size ≤ X
  xb : X < B
  bt : B < T
  th : T < H
  hlt : H < z
theorem P2.below {w W W' : World} {X B T H z n i : Nat} {ts : Nat → Nat} {L r : List ByteArray} {rv : Value} (h : P2 w W X B T H z n i ts L r rv) (hb : Below W.heap.size W W') : P2 w W' X B T H z n i ts L r rv :=
  ⟨boxed_below h.box hb (boxed_lt h.box), h.row.below hb, fun k hk => (hb.cell (World.block_lt_of_cell? _ _ (h.tc k hk))).trans (h.tc k hk), h.bel.trans (hb.mono h.bel.size), boxed_below h.bst hb (boxed_lt h.bst), row_below h.own hb, Nat.le_trans h.hz hb.size, h.bx, h.xb, h.bt, h.th, h.hlt⟩
theorem P2.grown {w W W' : World} {X B T H z n i m : Nat} {ts : Nat → Nat} {L r r' : List ByteArray} {rv rv' : Value} (h : P2 w W X B T H z n i ts L r rv) (hg : W.grownBy W' rv.ownBlock) (hown : W'.ownsRow z 9 1 rv' m (r'.map Value.string)) :
    P2 w (W'.setCell ⟨H, 0, none⟩ rv') X B T H z n m ts L r' rv' := by
  have hxb := h.xb; have hbt := h.bt; have hth := h.th; have hhz := h.hlt; have hbx := h.bx; have hz := h.hz
  have hlo : ∀ k, k < z → some k ≠ rv.ownBlock := fun k hk e => by have := (h.own.lt k e.symm).1; omega
  have hbl : ∀ k, k < z → W'.heap[k]? = W.heap[k]? := fun k hk => hg.block k (by omega) (hlo k hk)
  have gs : W'.grownBy (W'.setCell ⟨H, 0, none⟩ rv') (some H) := grown_set 0 _
  have b1 : Boxed W' H 35 rv := (hbl H hhz).trans h.bst
  have r1 : RowO W' B L := ⟨fun k hk => (World.cell?_of_block (w := W) (a := ⟨B, k, none⟩) (hbl B (by omega))).trans (h.row.cell k hk), fun k hk => (World.frozen?_of_block (w := W) (a := ⟨B, k, none⟩) (hbl B (by omega))).trans (h.row.opn k hk), Nat.lt_of_lt_of_le h.row.lt hg.size⟩
  refine ⟨boxed_grown ((hbl X (by omega)).trans h.box) gs (by omega), r1.grown gs (by omega), fun k hk => ?_, Below.grown' (h.bel.grown hg h.bel.size (fun q e => by have := (h.own.lt q e).1; omega)) (Nat.le_trans h.bel.size hg.size) gs (by omega), b1.set _, ?_, Nat.le_trans hz (Nat.le_trans hg.size gs.size), hbx, hxb, hbt, hth, hhz⟩
  · rw [World.cell?_setCell_other _ _ _ _ (by intro e2; have := congrArg Addr.block e2; simp only at this; omega)]
    exact (World.cell?_of_block (w := W) (a := ⟨T, k, none⟩) (hbl T (by omega))).trans (h.tc k hk)
  · refine hown.kept gs (.inr fun e => ?_)
    have := (hown.lt H e).1; omega
theorem P2.boxH {w W W' : World} {X B T H z n i : Nat} {ts : Nat → Nat} {L r : List ByteArray} {rv : Value} (h : P2 w W X B T H z n i ts L r rv) (hg : W.grownBy W' rv.ownBlock) : Boxed W' H 35 rv := by
  have hz := h.hz; have hhz := h.hlt
  exact (hg.block H (by omega) (fun e => by have := (h.own.lt H e.symm).1; omega)).trans h.bst
theorem P2.left {w W W' : World} {X B T H z n i : Nat} {ts : Nat → Nat} {L L' r : List ByteArray} {rv : Value} (h : P2 w W X B T H z n i ts L r rv) (hg : W.grownBy W' (some B)) (hr : RowO W' B L') :
    P2 w W' X B T H z n i ts L' r rv := by
  have hxb := h.xb; have hbt := h.bt; have hth := h.th; have hhz := h.hlt; have hbx := h.bx
  refine ⟨boxed_grown h.box hg (by omega), hr, fun k hk => ?_, Below.grown' h.bel h.bel.size hg (by omega), boxed_grown h.bst hg (by omega), ?_, Nat.le_trans h.hz hg.size, hbx, hxb, hbt, hth, hhz⟩
  · exact (World.cell?_of_block (w := W) (a := ⟨T, k, none⟩) (hg.block T (World.block_lt_of_cell? _ _ (h.tc k hk)) (fun e => by injection e with e; omega))).trans (h.tc k hk)
  · refine h.own.kept hg (.inr fun e => ?_)
    have := (h.own.lt B e).1; omega
/-- A row of texts as slices.Delete asks for it. -/
theorem holds_rowO {W : World} {B : Nat} {L : List ByteArray} (h : RowO W B L) : Go.Sort.Holds encStr W B 0 (L.map bl).toArray := fun j hj => by
  have hj' : j < L.length := by simpa using hj
  rw [Nat.zero_add]
  refine ⟨?_, h.opn j hj'⟩
  rw [h.cell j hj', getElem!_pos _ j hj]
  simp [encStr, bl, List.getD_eq_getElem?_getD, List.getElem?_eq_getElem hj']
theorem rowO_erased {W : World} {B q k : Nat} {L : List ByteArray} (h : RowO W B L) (hk : k < L.length) :
    W.grownBy (Go.Sort.putRow encStr (Go.Sort.ahead W q) B 0 ((L.map bl).take k ++ (L.map bl).drop (k + 1) ++ List.replicate (k + 1 - k) []).toArray) (some B) ∧
    RowO (Go.Sort.putRow encStr (Go.Sort.ahead W q) B 0 ((L.map bl).take k ++ (L.map bl).drop (k + 1) ++ List.replicate (k + 1 - k) []).toArray) B (L.eraseIdx k) := by
  have hd : ((L.map bl).take k ++ (L.map bl).drop (k + 1) ++ List.replicate (k + 1 - k) []) = (L.eraseIdx k).map bl ++ [[]] := by
    rw [show k + 1 - k = 1 by omega, List.eraseIdx_eq_take_drop_succ]; simp
  rw [hd]
  have hlen : ((L.eraseIdx k).map bl ++ [[]]).length = L.length := by
    rw [List.length_append, List.length_map, erase_len _ _ hk]; simp; omega
  have hH : Go.Sort.Holds encStr (Go.Sort.ahead W q) B 0 (L.map bl).toArray := fun j hj => holds_rowO h j hj
  refine ⟨⟨rfl, rfl, rfl, by simp [Go.Sort.ahead], fun i hi hne => ?_⟩, fun i hi => ?_, fun i hi => ?_, by simp [Go.Sort.ahead]; exact h.lt⟩
  · have : B ≠ i := fun e => hne (by rw [e])
    simp [Go.Sort.putRow, Go.Sort.mapBlock, Go.Sort.ahead, Array.getElem?_modify, this]
  · have hi' : i < L.length := by rw [erase_len _ _ hk] at hi; omega
    have hc := Go.Sort.cell?_putRow encStr (Go.Sort.ahead W q) B 0 (L.map bl).toArray ((L.eraseIdx k).map bl ++ [[]]).toArray hH (by simpa using hlen) i (by simp at hlen ⊢; omega)
    rw [Nat.zero_add] at hc
    rw [hc, getElem!_pos _ i (by simp at hlen ⊢; omega)]
    simp only [List.getElem_toArray]
    rw [List.getElem_append_left (by simpa using hi)]
    simp [encStr, bl, List.getD_eq_getElem?_getD, List.getElem?_eq_getElem hi]
  · rw [Go.Sort.frozen?_putRow]
    exact h.opn i (by rw [erase_len _ _ hk] at hi; omega)
end Go.Proofs.Ytdphjnbelggcfaa
