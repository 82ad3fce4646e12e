/-
  The test that ReadingAt of the program hands to readBy; readBy with it; ReadingAt. Used by the claims on chapter 3.
-/
import Derived.Test.YtekgmdigchobbaaReadS
import Derived.Deep.LoopGhost
import Derived.WalkMore
import Derived.Test.YtekgmdigchobbaaPlaceL
namespace Go.Proofs.Ytekgmdigchobbaa
open Go.RowKit
set_option linter.unusedVariables false

/-- What the test looks at: the number of readings that are left, and the numbers for each place. -/
structure Left (xs : List ByteArray) (s : ByteArray) (K C g k : Nat) (w : World) : Prop where
  k : w.cell? ⟨K, 0, none⟩ = some (.int .i64 (k : Int))
  kf : w.frozen? ⟨K, 0, none⟩ = false
  c : w.cell? ⟨C, 0, none⟩ = some (.slice (some ⟨g, 0, none⟩) (s.size + 1) (s.size + 1))
  row : w.rowIs g 3 (s.size + 1) (fun j => .int .i64 (wayAt xs s j))

set_option maxHeartbeats 4000000 in
theorem test_yes (xs : List ByteArray) (s : ByteArray) (K C g k p t : Nat) (w : World) (h : Left xs s K C g k w) (ht : t ≤ s.size) (h40 : s.size ≤ 40) (hk : k < wayAt xs s t) (hw : wayAt xs s t ≤ 1099511627776) :
    Calls Try.prog 108 #[.int .i64 p, .int .i64 t, .pointer (some ⟨K, 0, none⟩), .pointer (some ⟨C, 0, none⟩)] w fun e w' => e = .returned (.bool true) ∧ ∃ q, w' = w.drewN q := by
  have d1 := h.k
  have d2 := h.c
  have d3 := h.row.cell (i := t) (by omega)
  have i0 : (0 : Int) ≤ (t : Int) := by omega
  have i1 : (t : Int) < (s.size : Int) + 1 := by omega
  have e1 : (k : Int) < (wayAt xs s t : Int) := by omega
  generalize wayAt xs s t = y at d3 e1 hk hw
  clear h hk
  go_enter Try.func108, Try.ntmps108
  go_wp2
  go_quiet (fail)
  go_wp2
  go_ret
  exact ⟨rfl, _, rfl⟩
set_option maxHeartbeats 4000000 in
theorem test_no (xs : List ByteArray) (s : ByteArray) (K C g k p t : Nat) (w : World) (h : Left xs s K C g k w) (ht : t ≤ s.size) (h40 : s.size ≤ 40) (hk : wayAt xs s t ≤ k) (hw : k ≤ 1099511627776) :
    Calls Try.prog 108 #[.int .i64 p, .int .i64 t, .pointer (some ⟨K, 0, none⟩), .pointer (some ⟨C, 0, none⟩)] w fun e w' => e = .returned (.bool false) ∧ ∃ q, w' = (w.setCell ⟨K, 0, none⟩ (.int .i64 ((k - wayAt xs s t : Nat) : Int))).drewN q := by
  have d1 := h.k
  have d2 := h.c
  have d3 := h.row.cell (i := t) (by omega)
  have d4 := h.kf
  have i0 : (0 : Int) ≤ (t : Int) := by omega
  have i1 : (t : Int) < (s.size : Int) + 1 := by omega
  have e1 : ¬ (k : Int) < (wayAt xs s t : Int) := by omega
  have e2 : ((k - wayAt xs s t : Nat) : Int) = (k : Int) - (wayAt xs s t : Int) := by omega
  rw [e2]
  generalize wayAt xs s t = y at d3 e1 hk ⊢
  clear h e2
  go_enter Try.func108, Try.ntmps108
  go_wp2
  go_quiet (fail)
  go_wp2
  go_region
  go_wp2
  go_ret
  exact ⟨rfl, nq + 1, rfl⟩

theorem Left.drewN {xs : List ByteArray} {s : ByteArray} {K C g k : Nat} {w : World} (h : Left xs s K C g k w) (q : Nat) : Left xs s K C g k (w.drewN q) := ⟨h.k, h.kf, h.c, h.row⟩
theorem Left.below {xs : List ByteArray} {s : ByteArray} {K C g k : Nat} {w w' : World} (h : Left xs s K C g k w) (hb : Below w.heap.size w w') : Left xs s K C g k w' :=
  ⟨(hb.cell (World.block_lt_of_cell? _ _ h.k)).trans h.k, (hb.frozen (World.block_lt_of_cell? _ _ h.k)).trans h.kf, (hb.cell (World.block_lt_of_cell? _ _ h.c)).trans h.c, rowIs_below h.row hb⟩
theorem Left.set {xs : List ByteArray} {s : ByteArray} {K C g k : Nat} {w : World} (h : Left xs s K C g k w) (hC : C ≠ K) (hg : g ≠ K) (k' : Nat) : Left xs s K C g k' (w.setCell ⟨K, 0, none⟩ (.int .i64 (k' : Int))) :=
  ⟨World.cell?_setCell_same' _ _ _ (by rw [h.k]; rfl), by rw [World.frozen?_setCell]; exact h.kf, by rw [World.cell?_setCell_other _ _ _ _ (by intro e; exact hC (by injection e with e1; exact e1.symm))]; exact h.c, h.row.setOther (a := ⟨K, 0, none⟩) hg _⟩
theorem Left.grown {xs : List ByteArray} {s : ByteArray} {K C g k : Nat} {w w' : World} {o : Obj} {base : Nat} {e : TypeId} {size : Nat} {v : Value} {n : Nat} {vs : List Value} (h : Left xs s K C g k w) (hown : w.ownsRow base e size v n vs) (hg : (w.alloc o).grownBy w' v.ownBlock) (hK : K < base) (hC : C < base) (hgb : g < base) : Left xs s K C g k w' := by
  have h1 : ∀ b, b < base → v.ownBlock ≠ some b := fun b hb e => by have := (hown.lt _ e).1; omega
  refine ⟨cell_grown hown h.k hg (h1 K hK), ?_, cell_grown hown h.c hg (h1 C hC), rowIs_grown h.row hg (h1 g hgb)⟩
  have hlt := World.block_lt_of_cell? _ _ h.k
  have h2 := h.kf
  unfold World.frozen? at h2 ⊢
  rw [hg.block K (by simp; exact Nat.lt_succ_of_lt hlt) (fun e => h1 K hK e.symm), Below.heap_alloc _ _ _ hlt]
  exact h2


set_option maxHeartbeats 8000000 in
set_option maxRecDepth 8000 in
theorem readBy_gen {σ : Type} (T : Tk σ) (I : σ → World → Prop) (F B K : Nat) (caps : Array Value) (st0 : σ) (a : Option Addr) (b o c : Nat) (xs : List ByteArray) (s : ByteArray) (w : World) (hLi : ∀ W, Below B w W → ListIn W a b o xs) (ht : tableB xs = true) (h40 : s.size ≤ 40) (hI : I st0 w) (hH : Holds0 w.heap.size I) (hB : B ≤ w.heap.size) (hBK : B ≤ K) (hK : K < w.heap.size) (hE : ∀ A W, Sem.run Try.prog (callFunc F A) W = .ok (.enter F A) W)
    (hT : ∀ st p t W, I st W → p ≤ t → t ≤ s.size → Calls Try.prog F (#[.int .i64 (p : Int), .int .i64 (t : Int)] ++ caps) W fun e w' => e = .returned (.bool (T.yes st p t)) ∧ I (T.nxt st p t) w' ∧ W.grownBy w' (some K)) :
    Calls Try.prog 107 #[.agg #[.slice a xs.length c], .string s, .func (.func F) #[] caps] w fun e w' => e = .returned (.tuple #[.string (outG (rdG T xs s s.size st0 0)).1, .bool (outG (rdG T xs s s.size st0 0)).2]) ∧ Below B w w' := by
  have hn : xs.length ≤ 10 := ((tableB_iff xs).1 ht).1.2
  have HLi := Lib.hid hLi
  have HT := Lib.hid ht
  have HF := Lib.hid hT
  have HH := Lib.hid hH
  obtain ⟨i0, hi', hz0, hz1, hz2⟩ := info_parts infoByte
  have e0 : (w.alloc (.cells #[.slice a xs.length c] 26)).heap.size = w.heap.size + 1 := by simp
  have M0 : Hid (((w.alloc (.cells #[.slice a xs.length c] 26)).alloc (Obj.cells #[] 5)).ownsRow (w.heap.size + 1) 5 1 (.slice (some ⟨w.heap.size + 1, 0, none⟩) 0 0) 0 (bys [])) := Lib.hid (by
    have := World.ownsRow_made (base := w.heap.size + 1) (e := 5) (size := 1) (w.alloc (.cells #[.slice a xs.length c] 26)) #[] 0 (by simp) (by unfold maxLen; omega) rfl
    rw [e0] at this
    exact this)
  have hc0 := keep_cell (w.alloc (.cells #[.slice a xs.length c] 26)) (Obj.cells #[] 5) (cell_new w (.slice a xs.length c) 26)
  have HB1 := Lib.hid ((Below.refl B w).alloc hB (.cells #[.slice a xs.length c] 26) |>.alloc (by simp; omega) (Obj.cells #[] 5))
  have HI1 := Lib.hid (hH st0 w ((w.alloc (.cells #[.slice a xs.length c] 26)).alloc (Obj.cells #[] 5)) hI (fun b hb => by rw [Below.heap_alloc _ _ _ (by simp; omega), Below.heap_alloc _ _ _ hb]))
  have hsz1 : Hid (w.heap.size + 1 ≤ ((w.alloc (.cells #[.slice a xs.length c] 26)).alloc (Obj.cells #[] 5)).heap.size) := Lib.hid (by simp)
  have HR : ∃ R, outG (rdG T xs s s.size st0 0) = R := ⟨_, rfl⟩
  obtain ⟨R, HR⟩ := HR
  have HR := Lib.hid HR
  rw [HR.out]
  clear hLi ht hI e0 hT hH
  go_enter Try.func107, Try.ntmps107
  go_wp2
  go_step3
  go_wp2
  go_step3
  go_wp2
  go_loopg [8, 9] s.size (fun g mv pv wr => ∃ (st : σ) (p n gm capm : Nat) (l : Bs), p + g = s.size ∧ mv = .slice (some ⟨gm, 0, none⟩) l.length capm ∧ wr.ownsRow (w.heap.size + 1) 5 1 (.slice (some ⟨gm, 0, none⟩) l.length capm) l.length (bys l) ∧ pv = .int .i64 p ∧ l.length ≤ p ∧ Hid (s.size ≤ n + p) ∧ Hid (outG ((rdG T xs s n st p).map (l ++ ·)) = R) ∧ wr.cell? ⟨w.heap.size, 0, none⟩ = some (.slice a xs.length c) ∧ Hid (I st wr) ∧ Hid (Below B w wr) ∧ Hid (w.heap.size + 1 ≤ wr.heap.size))
  case atStart => exact ⟨st0, 0, s.size, w.heap.size + 1, 0, [], by omega, rfl, M0.out, rfl, by simp, Lib.hid (by omega), Lib.hid (by rw [← HR.out]; cases rdG T xs s s.size st0 0 <;> rfl), hc0, HI1, HB1, hsz1⟩
  case round =>
    obtain ⟨st, p, n, gm, capm, l, hpg, rfl, hown, rfl, hlp, HN, HE, hc3, HI3, HB3, HSz⟩ := hrel
    cases gk with
    | zero =>
      obtain rfl : p = s.size := by omega
      have HE2 : Hid (R = (ba l, true)) := Lib.hid (by rw [← HE.out, rdG_end]; simp [outG])
      have hcv := conv_bytes wr gm capm l hown
      go_wp2
      rw [Exit.noGoto_ret]
      go_ret2
      exact ⟨by rw [HE2.out]; rfl, HB3.out⟩
    | succ g =>
      obtain ⟨n', rfl⟩ : ∃ n', n = n' + 1 := ⟨n - 1, by have := HN.out; omega⟩
      have i1 : (0 : Int) ≤ (p : Int) := by omega
      have i2 : (p : Int) < (s.size : Int) := by omega
      have i3 : (p : Int) ≤ (s.size : Int) := by omega
      go_wp2
      go_loopg [8, 9, 21] xs.length (fun g2 mv2 pv2 jv wr2 => ∃ (j : Nat) (st2 : σ), j + g2 = xs.length ∧ mv2 = .slice (some ⟨gm, 0, none⟩) l.length capm ∧ pv2 = .int .i64 p ∧ jv = .int .i64 j ∧ wr2.ownsRow (w.heap.size + 1) 5 1 (.slice (some ⟨gm, 0, none⟩) l.length capm) l.length (bys l) ∧ Hid (scanG T s p (xs.drop j) j st2 = scanG T s p xs 0 st) ∧ wr2.cell? ⟨w.heap.size, 0, none⟩ = some (.slice a xs.length c) ∧ Hid (I st2 wr2) ∧ Hid (Below B w wr2) ∧ Hid (w.heap.size + 1 ≤ wr2.heap.size))
      case atStart => exact ⟨0, st, by omega, rfl, rfl, rfl, hown, Lib.hid rfl, hc3, HI3, HB3, HSz⟩
      case round =>
        obtain ⟨j, st2, hjg, rfl, rfl, rfl, hown2, HSc, hc4, HI4, HB4, HSz4⟩ := hrel
        cases gk with
        | zero =>
          obtain rfl : j = xs.length := by omega
          have HE2 : Hid (R = (⟨#[]⟩, false)) := Lib.hid (by
            rw [← HE.out, rdG_none T xs s n' st (by omega) (by rw [← HSc.out, scanG_nil])]; rfl)
          go_wp2
          rw [Exit.noGoto_ret]
          go_ret2
          exact ⟨by rw [HE2.out]; rfl, HB4.out⟩
        | succ g2 =>
          have hj : j < xs.length := by omega
          obtain rfl := (HLi.out _ HB4.out).src.1 (by omega)
          have hcell := (HLi.out _ HB4.out).src.2 j _ (List.getElem?_eq_getElem hj)
          have HX := Lib.hid (List.getElem?_eq_getElem hj)
          have hx1 : 1 ≤ xs[j].size ∧ xs[j].size ≤ 5 := by
            have h1 := ((tableB_iff xs).1 HT.out).2.1 _ (List.getElem_mem hj)
            simp only [marksL, Bool.and_eq_true, decide_eq_true_eq, bl_len] at h1
            exact h1.1
          generalize xs[j] = x at hcell HX hx1
          have HSt := Lib.hid fun w => Try.strings_HasPrefix (s.extract p s.size) x w
          have HEx : Hid (Lib.hasPrefix (s.extract p s.size).data.toList x.data.toList = stands s x p) := Lib.hid (by
            show (bl x).isPrefixOf (bl (s.extract p s.size)) = _
            rw [bl_behind]; rfl)
          have j0 : (0 : Int) ≤ (j : Int) := by omega
          have j1 : (j : Int) < (xs.length : Int) := by omega
          clear hown hc3
          by_cases hst : stands s x p = true
          · have HSt2 := Lib.hid fun w => val_eqS (v' := .bool true) (HSt.out w) (by rw [HEx.out, hst])
            have hsz := stands_le (s := s) (m := x) (j := p) (by omega) hst
            have HC := Lib.hid (HF.out st2 p (p + x.size) wr HI4.out (by omega) hsz)
            rw [Int.natCast_add] at HC
            cases hy : T.yes st2 p (p + x.size) with
            | true =>
              have HS2 := Lib.hid (HSc.out.symm.trans (scanG_yes T s p j st2 HX.out hst hy))
              rw [hy] at HC
              clear hst hy
              go_wp2_with fail
              refine (HSt2.out _).mono ?_
              rintro e w5 ⟨rfl, hww⟩
              obtain rfl := hww.symm
              go_wp2_with fail
              refine HC.out.mono ?_
              rintro e w6 ⟨rfl, HI6, hg6⟩
              have hown6 := hown2.kept hg6 (.inr (by intro e; have := (hown2.lt K e).1; omega))
              have hc6 := hg6.cell hc4 (by intro e; have e2 := Option.some.inj e; simp only at e2; omega)
              have HB6 := Lib.hid (below_of_grown hg6 HB4.out hB hBK)
              have HSz6 := Lib.hid (Nat.le_trans HSz4.out hg6.size)
              have HI6 := Lib.hid HI6
              have HC97 : Hid (((UInt8.ofNat (97 + j)).toNat : Int) = 97 + (j : Int)) := Lib.hid (by rw [toNat_97 (by omega)]; omega)
              have u1 : IntKind.u8.wrap (j : Int) = (j : Int) := by rw [IntKind.wrap_u8]; omega
              have u2 : IntKind.u8.wrap (97 + (j : Int)) = 97 + (j : Int) := by rw [IntKind.wrap_u8]; omega
              clear hg6 hown2 hc4 hcell
              go_wp2_with (at_builtin; refine wpList_append_own _ rfl _ _ 22 rfl (w.heap.size + 1) 5 i0 (.int .u8 0) 1 1 Try.underlying22 hi' hz0 hz1 hz2 rfl (by decide) _ _ _ rfl (hown6.alloc _) ⟨w6.heap.size, 0, none⟩ 1 1 [.int .u8 (97 + (j : Int))] rfl rfl (cell_one_new _ _ _) (by simp [Value.oneCell']) (by unfold maxLen; omega) (by omega) (by have := HSz6.out; simp; omega) ?_; intro v' w7 hown' hgrow _)
              have hown7 : w7.ownsRow (w.heap.size + 1) 5 1 v' (l ++ [UInt8.ofNat (97 + j)]).length (bys (l ++ [UInt8.ofNat (97 + j)])) := by rw [bys_snoc, HC97.out]; simpa using hown'
              obtain ⟨g7, cap7, rfl⟩ : ∃ g cap, v' = .slice (some ⟨g, 0, none⟩) (l ++ [UInt8.ofNat (97 + j)]).length cap := by
                rcases hown7.2 with ⟨_, h1⟩ | ⟨g, cap, _, rfl, _⟩
                · simp at h1
                · exact ⟨g, cap, rfl⟩
              have hk7 : ∀ k, k < w.heap.size + 1 → w7.heap[k]? = w6.heap[k]? := fun k hk => by
                have h6 := HSz6.out
                rw [hgrow.block k (by simp; omega) (fun e => by have := (hown6.lt k e.symm).1; omega), Below.heap_alloc _ _ _ (by omega)]
              have H7 := Lib.hid hown7
              have HI7 := Lib.hid (HH.out _ _ _ HI6.out (fun k hk => hk7 k (by omega)))
              have HC7 := Lib.hid (Lib.hid ((World.cell?_of_block (a := ⟨w.heap.size, 0, none⟩) (hk7 w.heap.size (by omega))).trans hc6)).out
              have HB7 := Lib.hid ((HB6.out.alloc (Nat.le_trans hB HB6.out.size) _).grown hgrow (by have := HB6.out.size; simp; omega) (fun k e => by have := (hown6.lt k e).1; omega))
              have HSz7 := Lib.hid (Nat.le_trans HSz6.out (Nat.le_trans (by simp) hgrow.size))
              have HE7 : Hid (outG ((rdG T xs s n' (T.nxt st2 p (p + x.size)) (p + x.size)).map ((l ++ [UInt8.ofNat (97 + j)]) ++ ·)) = R) := Lib.hid (by
                rw [← HE.out, rdG_some T xs s n' st (by omega) HS2.out, Option.map_map]
                congr 2
                funext r
                simp)
              have HN7 := HN.out
              clear hown' hgrow hown7 hown6 hc6 hk7
              go_roundg (s.size - (p + x.size))
              case measure => omega
              case rel => exact ⟨T.nxt st2 p (p + x.size), p + x.size, n', g7, cap7, l ++ [UInt8.ofNat (97 + j)], by omega, rfl, H7.out, by go_num, by simp; omega, Lib.hid (by omega), HE7, HC7.out, HI7, HB7, HSz7⟩
            | false =>
              have HS2 := Lib.hid ((scanG_no T s p j st2 HX.out hst hy).symm.trans HSc.out)
              rw [hy] at HC
              clear hst hy
              go_wp2_with fail
              refine (HSt2.out _).mono ?_
              rintro e w5 ⟨rfl, hww⟩
              obtain rfl := hww.symm
              go_wp2_with fail
              refine HC.out.mono ?_
              rintro e w6 ⟨rfl, HI6, hg6⟩
              have hown6 := hown2.kept hg6 (.inr (by intro e; have := (hown2.lt K e).1; omega))
              have hc6 := hg6.cell hc4 (by intro e; have e2 := Option.some.inj e; simp only at e2; omega)
              have HB6 := Lib.hid (below_of_grown hg6 HB4.out hB hBK)
              have HSz6 := Lib.hid (Nat.le_trans HSz4.out hg6.size)
              have HI6 := Lib.hid HI6
              clear hg6 hown2 hc4 hcell
              go_wp2
              go_roundg g2
              case measure => omega
              case rel => exact ⟨j + 1, _, by omega, rfl, rfl, by go_num, hown6, HS2, hc6, HI6, HB6, HSz6⟩
          · have HSt2 := Lib.hid fun w => val_eqS (v' := .bool false) (HSt.out w) (by rw [HEx.out]; simp [hst])
            have HS2 := Lib.hid ((scanG_off T s p j st2 HX.out (by simpa using hst)).symm.trans HSc.out)
            clear hst
            go_wp2_with fail
            refine (HSt2.out _).mono ?_
            rintro e w5 ⟨rfl, hww⟩
            obtain rfl := hww.symm
            go_wp2
            go_roundg g2
            case measure => omega
            case rel => exact ⟨j + 1, st2, by omega, rfl, rfl, by go_num, hown2, HS2, hc4, HI4, HB4, HSz4⟩
theorem enter_any {f : FuncId} {fn : Func} {c : Code} (hf : Try.prog.funcs[f]? = some fn) (hname : (fn.name == "runtime.NumGoroutine") = false) (hb : fn.body = some c) (A : Array Value) (W : World) :
    Sem.run Try.prog (callFunc f A) W = .ok (.enter f A) W := by
  have h1 : fn.name ≠ "runtime.NumGoroutine" := by simpa using hname
  simp [callFunc, hf, h1, hb]
end Go.Proofs.Ytekgmdigchobbaa
