/-
  Contracts of the program's piecesOf and IsSignal: the pieces of a signal. Used by the claims on chapter 2.
-/
import Derived.Test.YtdphjnbelggcfaaSignW
import Derived.Test.YtdphjnbelggcfaaSplitW
import Derived.Test.YtdphjnbelggcfaaListW
namespace Go.Proofs.Ytdphjnbelggcfaa
open Go.RowKit
set_option linter.unusedVariables false

/-- A contract's value, said otherwise. -/
theorem val_eqS {P : Program} {f : FuncId} {args : Array Value} {w : World} {v v' : Value} {R : World → Prop} (h : Calls P f args w fun e w' => e = .returned v ∧ R w') (e : v = v') : Calls P f args w fun e w' => e = .returned v' ∧ R w' := e ▸ h

theorem row_iter {w : World} {base : Nat} {e : TypeId} {size : Nat} {v : Value} {n : Nat} {xs : List Value} (h : w.ownsRow base e size v n xs) {k : Nat} {s : ByteArray} {p : Nat} (hk : w.heap[k]? = some (.stringIter s p)) (p' : Nat) : (w.iterAt k s p').ownsRow base e size v n xs := by
  obtain ⟨h1, h2⟩ := h
  rcases h2 with h2 | ⟨g, cap, cur, a, b, c, d⟩
  · exact ⟨h1, .inl h2⟩
  · refine ⟨h1, .inr ⟨g, cap, cur, a, b, ?_, d⟩⟩
    rw [Lib.iterAt_other _ _ _ _ _ (by rintro rfl; rw [hk] at c; cases c)]
    exact c
theorem row_ne {w : World} {base : Nat} {e : TypeId} {size : Nat} {v : Value} {n : Nat} {xs : List Value} (h : w.ownsRow base e size v n xs) {k : Nat} {s : ByteArray} {p : Nat} (hk : w.heap[k]? = some (.stringIter s p)) : v.ownBlock ≠ some k := by
  obtain ⟨h1, h2⟩ := h
  rcases h2 with ⟨rfl, _⟩ | ⟨g, cap, cur, rfl, b, c, d⟩
  · simp [Value.ownBlock]
  · intro e
    simp [Value.ownBlock] at e
    subst e
    rw [hk] at c
    cases c
theorem iter_below {w w' : World} {k : Nat} {s : ByteArray} {p : Nat} (h : w.heap[k]? = some (.stringIter s p)) (hb : Below w.heap.size w w') : w'.heap[k]? = some (.stringIter s p) :=
  (hb.block k (Array.getElem?_eq_some_iff.1 h).1).trans h
/-- An iterator beside a row that an append has grown. -/
theorem iter_grown {w w1 : World} {o : Obj} {base : Nat} {e : TypeId} {size : Nat} {v : Value} {n : Nat} {xs : List Value} (h : w.ownsRow base e size v n xs) {k : Nat} {s : ByteArray} {p : Nat} (hk : w.heap[k]? = some (.stringIter s p)) (hg : (w.alloc o).grownBy w1 v.ownBlock) : w1.heap[k]? = some (.stringIter s p) := by
  have hlt : k < w.heap.size := (Array.getElem?_eq_some_iff.1 hk).1
  rw [hg.block k (by simp; omega) (fun e => row_ne h hk e.symm), Below.heap_alloc _ _ _ hlt]
  exact hk

def tx (ps : List Bs) : List Value := ps.map fun x => Value.string (ba x)
theorem tx_len (ps : List Bs) : (tx ps).length = ps.length := by simp [tx]
theorem tx_snoc (ps : List Bs) (x : Bs) : tx (ps ++ [x]) = tx ps ++ [.string (ba x)] := by simp [tx]
theorem ext_ba (s : ByteArray) (q p : Nat) : s.extract q p = ba (((bl s).take p).drop q) := by
  apply bl_inj
  rw [bl_ba]
  exact ext_list s q p
theorem bl_ext (s : ByteArray) (q p : Nat) : bl (s.extract q p) = ((bl s).take p).drop q := ext_list s q p

def PiecePost (s : ByteArray) (w : World) (e : Ending) (w' : World) : Prop :=
  ∃ v, e = .returned (.tuple #[v, .bool (pieces (bl s)).isSome]) ∧ (∀ ps, pieces (bl s) = some ps → w'.ownsRow w.heap.size 9 1 v ps.length (tx ps)) ∧ Below w.heap.size w w'
theorem piece_none {s : ByteArray} {w w' : World} (h : pieces (bl s) = none) (hb : Below w.heap.size w w') : PiecePost s w (.returned (.tuple #[.slice none 0 0, .bool false])) w' := ⟨_, by rw [h]; rfl, fun ps hp => by (rw [h] at hp; cases hp), hb⟩
theorem fin_gap {ps : List Bs} {cur r : Bs} {c : UInt8} (hg : c = 32 ∨ c = 47) : fin ps cur (c :: r) = if marksL cur = true ∧ ps.length < 12 then fin (ps ++ [cur] ++ (if c = 47 then [[47]] else [])) [] r else none := by
  rw [fin]
  have h1 : isMk c = false := by rcases hg with rfl | rfl <;> decide
  have h2 : (c == 32 || c == 47) = true := by rcases hg with rfl | rfl <;> decide
  rw [h1, h2]
  by_cases h : marksL cur = true ∧ ps.length < 12
  · rw [if_neg (by simp), if_pos (by simp [h.1, h.2]), if_pos h]
    by_cases h3 : c = 47 <;> simp [h3]
  · rw [if_neg (by simp), if_neg (by simpa using h), if_neg h]
theorem fin_end {ps : List Bs} {cur : Bs} : fin ps cur [] = if marksL cur = true ∧ ps.length < 12 then some (ps ++ [cur]) else none := by
  rw [fin]
  by_cases h : marksL cur = true ∧ ps.length < 12
  · rw [if_pos (by simp [h.1, h.2]), if_pos h]
  · rw [if_neg (by simpa using h), if_neg h]

set_option maxHeartbeats 4000000 in
set_option maxRecDepth 8000 in
theorem pieces_any (s : ByteArray) (w : World) (hs : s.size ≤ 1048576) :
    Calls Try.prog 227 #[.string s] w (PiecePost s w) := by
  obtain ⟨i0, hi, hz0, hz1, hz2⟩ := info_parts infoStr
  have hm0 : (w.alloc (Obj.cells #[] 9)).ownsRow w.heap.size 9 1 (.slice (some ⟨w.heap.size, 0, none⟩) 0 0) 0 (tx []) := World.ownsRow_made w #[] 0 (Nat.le_refl _) (by unfold maxLen; omega) rfl
  have M0 := Lib.hid hm0
  clear hm0
  by_cases hnil : s.size = 0
  · have hE : bl s = [] := List.length_eq_zero_iff.1 (by rw [bl_len]; exact hnil)
    have heq : s.toList.isEmpty = true := by
      rw [ByteArray.toList_eq]
      show (bl s).isEmpty = true
      rw [hE]; rfl
    have HP : Hid (pieces (bl s) = some []) := Lib.hid (by rw [hE]; rfl)
    clear hE
    go_enter Try.func227, Try.ntmps227
    go_wp2
    go_ret2
    exact ⟨_, by rw [HP.out]; rfl, fun ps hp => by (rw [HP.out] at hp; cases hp; exact M0.out), below_alloc _ _⟩
  · have hne : bl s ≠ [] := fun e => hnil (by rw [← bl_len, e]; rfl)
    have heq : s.toList.isEmpty = false := by
      rw [ByteArray.toList_eq]
      show (bl s).isEmpty = false
      cases h : bl s with
      | nil => exact absurd h hne
      | cons _ _ => rfl
    have HP : Hid (pieces (bl s) = fin [] [] (bl s)) := Lib.hid (if_neg hne)
    clear hne
    go_enter Try.func227, Try.ntmps227
    go_wp2
    go_loopw [4, 5] (fun v f wr => ∃ (pos q : Nat) (ps : List Bs), f = .int .i64 q ∧ q ≤ pos ∧ pos ≤ s.size ∧ wr.heap[w.heap.size + 1]? = some (.stringIter s pos) ∧ wr.ownsRow w.heap.size 9 1 v ps.length (tx ps) ∧ Hid (Below w.heap.size w wr) ∧ Hid (fin ps (((bl s).take pos).drop q) ((bl s).drop pos) = pieces (bl s)) ∧ ps.length ≤ 13) (fun _ _ wr => s.size - wr.iterPos (w.heap.size + 1))
    case atStart =>
      have hit := World.iter_heap (w.alloc (.cells #[] 9)) s 0
      exact ⟨0, 0, [], rfl, Nat.le_refl _, Nat.zero_le _, by simpa using hit, M0.out.alloc _, Lib.hid ((below_alloc _ _).alloc (by simp) _), Lib.hid (by rw [HP.out]; simp), by simp⟩
    case round =>
      obtain ⟨pos, q, ps, rfl, hq, hp, hit, hown, HB, HF, hps⟩ := hrel
      obtain ⟨av, capv, rfl⟩ := row_form hown
      have HPo := Lib.hid (iterPos_of hit)
      by_cases hlt : pos < s.size
      · obtain ⟨r, wd, hde, hr, hwd, hcase⟩ := sign_at s pos hlt
        have hnx : ∀ ty, (Instr.next (.pointer (some ⟨w.heap.size + 1, 0, none⟩)) true ty).run Try.prog wr = _ := fun ty => Lib.run_next_any_at wr (w.heap.size + 1) s pos ty hit hlt
        have hit2 := Lib.iterAt_heap wr (w.heap.size + 1) s pos (pos + wd) hit
        have hown2 := row_iter hown hit (pos + wd)
        have HB2 : Hid (Below w.heap.size w (wr.iterAt (w.heap.size + 1) s (pos + wd))) := Lib.hid (Lib.below_iterAt HB.out (k := w.heap.size + 1) (by omega) s (pos + wd))
        rw [hde] at hnx
        simp only at hnx
        have HI := Lib.hid fun w => isMark_at r hr w
        have HDr : Hid ((bl s).drop pos = s[pos] :: (bl s).drop (pos + 1)) := Lib.hid (by
          have h2 : pos < (bl s).length := by rw [bl_len]; exact hlt
          rw [List.drop_eq_getElem_cons h2]
          have := bl_at s pos hlt
          rw [List.getElem?_eq_getElem h2] at this
          rw [Option.some.inj this])
        have HTk : Hid (((bl s).take (pos + 1)).drop q = ((bl s).take pos).drop q ++ [s[pos]]) := Lib.hid (by
          rw [List.take_add_one, bl_at s pos hlt, List.drop_append]
          have : ((bl s).take pos).length = pos := by rw [List.length_take, bl_len]; omega
          rw [this, show q - pos = 0 by omega]; rfl)
        have HC := Lib.hid hcase
        have HWd := Lib.hid hwd
        obtain ⟨W1, hW1⟩ : ∃ W1, W1 = wr.iterAt (w.heap.size + 1) s (pos + wd) := ⟨_, rfl⟩
        rw [← hW1] at hnx hit2 HB2 hown2
        clear hW1 hit hde hcase hwd hown
        by_cases hmk : r = 46 ∨ r = 45
        · have HI2 := Lib.hid fun w => val_eqS (v' := .bool true) (HI.out w) (by simp [hmk])
          have HN : Hid (wd = 1 ∧ fin ps (((bl s).take (pos + wd)).drop q) ((bl s).drop (pos + wd)) = pieces (bl s)) := Lib.hid (by
            have h2 := HF.out
            rcases HC.out with ⟨_, h3, h4⟩ | ⟨h3, _⟩
            · refine ⟨h4, ?_⟩
              rw [h4, HTk.out]
              rw [HDr.out, fin, if_pos (by rw [mk_iff, ← h3]; simpa using hmk)] at h2
              exact h2
            · omega)
          clear hmk
          go_wp2_with fail
          refine (HI2.out _).mono ?_
          rintro e w' ⟨rfl, hww⟩
          obtain rfl := hww.symm
          go_wp2
          go_roundw
          case rel => exact ⟨pos + wd, q, ps, rfl, by omega, by have := HN.out.1; omega, hit2, hown2, HB2, Lib.hid HN.out.2, hps⟩
          case measure => rw [iterPos_of hit2, HPo.out]; have := HWd.out; omega
        · have HI2 := Lib.hid fun w => val_eqS (v' := .bool false) (HI.out w) (by simp [hmk])
          by_cases hgap : r = 32 ∨ r = 47
          · have HCc : Hid (wd = 1 ∧ s[pos].toNat = r ∧ fin ps (((bl s).take pos).drop q) (s[pos] :: (bl s).drop (pos + 1)) = pieces (bl s)) := Lib.hid (by
              rcases HC.out with ⟨_, h3, h4⟩ | ⟨h3, _⟩
              · exact ⟨h4, h3.symm, by rw [← HDr.out]; exact HF.out⟩
              · omega)
            have HA := Lib.hid fun w => areMarks_any (s.extract q pos) w (by rw [← bl_len, bl_ext]; simp [bl_len]; unfold maxLen; omega)
            have j0 : (0 : Int) ≤ (q : Int) := by omega
            have j1 : (q : Int) ≤ (pos : Int) := by omega
            have j2 : (pos : Int) ≤ (s.size : Int) := by omega
            by_cases hma : marksL (((bl s).take pos).drop q) = true
            · have HA2 := Lib.hid fun w => val_eqS (v' := .bool true) (HA.out w) (by rw [bl_ext, hma])
              by_cases h12 : ps.length < 12
              · -- an append, or two
                have hcap : ¬ (12 : Int) ≤ (ps.length : Int) := by omega
                rcases hgap with h32 | h47
                · subst h32
                  have HN : Hid (fin (ps ++ [((bl s).take pos).drop q]) (((bl s).take (pos + wd)).drop (pos + 1)) ((bl s).drop (pos + wd)) = pieces (bl s)) := Lib.hid (by
                    obtain ⟨g1, g2, g3⟩ := HCc.out
                    have hc : s[pos] = 32 := by apply UInt8.toNat_inj.1; rw [g2]; rfl
                    rw [hc, fin_gap (.inl rfl), if_pos ⟨hma, h12⟩] at g3
                    have hE : ((bl s).take (pos + wd)).drop (pos + 1) = [] := List.drop_of_length_le (by rw [List.length_take, g1]; omega)
                    rw [hE, g1]
                    simpa using g3)
                  clear hma hmk
                  go_wp2_with fail
                  refine (HI2.out _).mono ?_
                  rintro e w' ⟨rfl, hww⟩
                  obtain rfl := hww.symm
                  go_wp2_with fail
                  refine (HA2.out _).mono ?_
                  rintro e W2 ⟨rfl, hb⟩
                  have hit3 := iter_below hit2 hb
                  have hown3 := row_below hown2 hb
                  have hB3 : Below w.heap.size w W2 := HB2.out.trans (hb.mono HB2.out.size)
                  clear hb
                  go_wp2_with (at_builtin; refine wpList_append_own _ rfl _ _ 28 rfl w.heap.size 9 i0 (.string ByteArray.empty) 1 16 Try.underlying28 hi hz0 hz1 hz2 rfl (by decide) _ _ _ rfl (hown3.alloc _) ⟨W2.heap.size, 0, none⟩ 1 1 [.string (s.extract q pos)] rfl rfl (cell_one_new _ _ _) (by simp [Value.oneCell']) (by unfold maxLen; omega) (by omega) (by have := hB3.size; simp; omega) ?_; intro v' w1 hown' hgrow _)
                  have HW : Hid (w1.ownsRow w.heap.size 9 1 v' (ps ++ [((bl s).take pos).drop q]).length (tx (ps ++ [((bl s).take pos).drop q]))) := Lib.hid (by rw [tx_snoc, ← ext_ba]; simpa using hown')
                  have hit4 := Lib.hid (iter_grown hown3 hit3 hgrow)
                  have HB4 := Lib.hid ((hB3.alloc hB3.size _).grown hgrow (by have := hB3.size; simp; omega) (fun j e => (hown3.lt j e).1))
                  clear hown' hgrow
                  all_goals (
                    go_roundw
                    case rel => exact ⟨pos + wd, pos + 1, ps ++ [((bl s).take pos).drop q], by go_num, by have := HCc.out.1; omega, by have := HCc.out.1; omega, hit4.out, HW.out, HB4, HN, by simp; omega⟩
                    case measure => rw [iterPos_of hit4.out, HPo.out]; have := HWd.out; omega)
                · subst h47
                  have HN : Hid (fin (ps ++ [((bl s).take pos).drop q] ++ [[47]]) (((bl s).take (pos + wd)).drop (pos + 1)) ((bl s).drop (pos + wd)) = pieces (bl s)) := Lib.hid (by
                    obtain ⟨g1, g2, g3⟩ := HCc.out
                    have hc : s[pos] = 47 := by apply UInt8.toNat_inj.1; rw [g2]; rfl
                    rw [hc, fin_gap (.inr rfl), if_pos ⟨hma, h12⟩] at g3
                    have hE : ((bl s).take (pos + wd)).drop (pos + 1) = [] := List.drop_of_length_le (by rw [List.length_take, g1]; omega)
                    rw [hE, g1]
                    simpa using g3)
                  clear hma hmk
                  go_wp2_with fail
                  refine (HI2.out _).mono ?_
                  rintro e w' ⟨rfl, hww⟩
                  obtain rfl := hww.symm
                  go_wp2_with fail
                  refine (HA2.out _).mono ?_
                  rintro e W2 ⟨rfl, hb⟩
                  have hit3 := iter_below hit2 hb
                  have hown3 := row_below hown2 hb
                  have hB3 : Below w.heap.size w W2 := HB2.out.trans (hb.mono HB2.out.size)
                  clear hb
                  go_wp2_with (first
                    | (at_builtin; refine wpList_append_own _ rfl _ _ 28 rfl w.heap.size 9 i0 (.string ByteArray.empty) 1 16 Try.underlying28 hi hz0 hz1 hz2 rfl (by decide) _ _ _ rfl (hown3.alloc _) ⟨W2.heap.size, 0, none⟩ 1 1 [.string (s.extract q pos)] rfl rfl (cell_one_new _ _ _) (by simp [Value.oneCell']) (by unfold maxLen; omega) (by omega) (by have := hB3.size; simp; omega) ?_; intro v' w1 hown' hgrow _; have hown4 : w1.ownsRow w.heap.size 9 1 v' (ps ++ [((bl s).take pos).drop q]).length (tx (ps ++ [((bl s).take pos).drop q])) := (by rw [tx_snoc, ← ext_ba]; simpa using hown'); have hit4 := iter_grown hown3 hit3 hgrow; have hB4 := (hB3.alloc hB3.size _).grown hgrow (by have := hB3.size; simp; omega) (fun j e => (hown3.lt j e).1); clear hown' hgrow)
                    | (at_builtin; refine wpList_append_own _ rfl _ _ 28 rfl w.heap.size 9 i0 (.string ByteArray.empty) 1 16 Try.underlying28 hi hz0 hz1 hz2 rfl (by decide) _ _ _ rfl (hown4.alloc _) ⟨w1.heap.size, 0, none⟩ 1 1 [.string ⟨#[47]⟩] rfl rfl (cell_one_new _ _ _) (by simp [Value.oneCell']) (by unfold maxLen; simp; omega) (by simp; omega) (by have := hB4.size; simp; omega) ?_; intro v5 w5 hown5 hgrow5 _))
                  have HW : Hid (w5.ownsRow w.heap.size 9 1 v5 (ps ++ [((bl s).take pos).drop q] ++ [[47]]).length (tx (ps ++ [((bl s).take pos).drop q] ++ [[47]]))) := Lib.hid (by rw [tx_snoc, List.length_append]; exact hown5)
                  have hit5 := Lib.hid (iter_grown hown4 hit4 hgrow5)
                  have HB5 := Lib.hid ((hB4.alloc hB4.size _).grown hgrow5 (by have := hB4.size; simp; omega) (fun j e => (hown4.lt j e).1))
                  clear hown5 hgrow5
                  all_goals (
                    go_roundw
                    case rel => exact ⟨pos + wd, pos + 1, ps ++ [((bl s).take pos).drop q] ++ [[47]], by go_num, by have := HCc.out.1; omega, by have := HCc.out.1; omega, hit5.out, HW.out, HB5, HN, by simp; omega⟩
                    case measure => rw [iterPos_of hit5.out, HPo.out]; have := HWd.out; omega)
              · have hcap : (12 : Int) ≤ (ps.length : Int) := by omega
                have HX : Hid (pieces (bl s) = none) := Lib.hid (by
                  obtain ⟨g1, g2, g3⟩ := HCc.out
                  have hc : s[pos] = 32 ∨ s[pos] = 47 := by
                    rcases hgap with h | h
                    · left; apply UInt8.toNat_inj.1; rw [g2, h]; rfl
                    · right; apply UInt8.toNat_inj.1; rw [g2, h]; rfl
                  rw [fin_gap hc, if_neg (fun h => h12 h.2)] at g3
                  exact g3.symm)
                clear hma hmk h12
                rcases hgap with h32 | h47
                all_goals
                  subst r
                  go_wp2_with fail
                  refine (HI2.out _).mono ?_
                  rintro e w' ⟨rfl, hww⟩
                  obtain rfl := hww.symm
                  go_wp2_with fail
                  refine (HA2.out _).mono ?_
                  rintro e W2 ⟨rfl, hb⟩
                  have HB3 := Lib.hid (HB2.out.trans (hb.mono HB2.out.size))
                  clear hb
                  go_wp2
                  go_ret2
                  exact piece_none HX.out HB3.out
            · have HA2 := Lib.hid fun w => val_eqS (v' := .bool false) (HA.out w) (by rw [bl_ext]; simp [hma])
              have HX : Hid (pieces (bl s) = none) := Lib.hid (by
                obtain ⟨g1, g2, g3⟩ := HCc.out
                have hc : s[pos] = 32 ∨ s[pos] = 47 := by
                  rcases hgap with h | h
                  · left; apply UInt8.toNat_inj.1; rw [g2, h]; rfl
                  · right; apply UInt8.toNat_inj.1; rw [g2, h]; rfl
                rw [fin_gap hc, if_neg (fun h => hma h.1)] at g3
                exact g3.symm)
              clear hma hmk
              rcases hgap with h32 | h47
              all_goals
                subst r
                go_wp2_with fail
                refine (HI2.out _).mono ?_
                rintro e w' ⟨rfl, hww⟩
                obtain rfl := hww.symm
                go_wp2_with fail
                refine (HA2.out _).mono ?_
                rintro e W2 ⟨rfl, hb⟩
                have HB3 := Lib.hid (HB2.out.trans (hb.mono HB2.out.size))
                clear hb
                go_wp2
                go_ret2
                exact piece_none HX.out HB3.out
          · have e1 : ((r : Int) == 32) = false := beq_false_of_ne (by omega)
            have e2 : ((r : Int) != 32) = true := by rw [bne, e1]; rfl
            have e3 : ((r : Int) == 47) = false := beq_false_of_ne (by omega)
            have e4 : ((r : Int) != 47) = true := by rw [bne, e3]; rfl
            have HX : Hid (pieces (bl s) = none) := Lib.hid (by
              rw [← HF.out, HDr.out, fin]
              have h1 : isMk s[pos] = false := by
                rw [mk_iff]
                rcases HC.out with ⟨_, h3, _⟩ | ⟨_, h3⟩
                · rw [← h3]; simpa using hmk
                · simp; omega
              have h2 : (s[pos] == 32 || s[pos] == 47) = false := by
                have k32 : s[pos] ≠ 32 := fun e => by
                  have h5 : s[pos].toNat = 32 := by rw [e]; rfl
                  rcases HC.out with ⟨_, h3, _⟩ | ⟨_, h3⟩ <;> omega
                have k47 : s[pos] ≠ 47 := fun e => by
                  have h5 : s[pos].toNat = 47 := by rw [e]; rfl
                  rcases HC.out with ⟨_, h3, _⟩ | ⟨_, h3⟩ <;> omega
                simp [k32, k47]
              rw [h1, h2]; simp)
            clear hgap hmk
            go_wp2_with fail
            refine (HI2.out _).mono ?_
            rintro e w' ⟨rfl, hww⟩
            obtain rfl := hww.symm
            go_wp2
            go_ret2
            exact piece_none HX.out HB2.out
      · have hnx : ∀ ty, (Instr.next (.pointer (some ⟨w.heap.size + 1, 0, none⟩)) true ty).run Try.prog wr = _ := fun ty => Lib.run_next_end_at wr (w.heap.size + 1) s pos ty hit hlt
        have hpe : pos = s.size := by omega
        subst hpe
        have HFe : Hid (fin ps (((bl s).take s.size).drop q) [] = pieces (bl s)) := Lib.hid (by
          have := HF.out
          have h0 : (bl s).drop s.size = [] := List.drop_of_length_le (by rw [bl_len]; exact Nat.le_refl _)
          rw [h0] at this
          exact this)
        have HA := Lib.hid fun w => areMarks_any (s.extract q s.size) w (by rw [← bl_len, bl_ext]; simp [bl_len]; unfold maxLen; omega)
        have j0 : (0 : Int) ≤ (q : Int) := by omega
        have j1 : (q : Int) ≤ (s.size : Int) := by omega
        by_cases hma : marksL (((bl s).take s.size).drop q) = true
        · have HA2 := Lib.hid fun w => val_eqS (v' := .bool true) (HA.out w) (by rw [bl_ext, hma])
          by_cases h12 : ps.length < 12
          · have hcap : ¬ (12 : Int) ≤ (ps.length : Int) := by omega
            have HX : Hid (pieces (bl s) = some (ps ++ [((bl s).take s.size).drop q])) := Lib.hid (by rw [← HFe.out, fin_end, if_pos ⟨hma, h12⟩])
            clear hma
            go_wp2_with fail
            refine (HA2.out _).mono ?_
            rintro e W2 ⟨rfl, hb⟩
            have hown3 := row_below hown hb
            have hB3 : Below w.heap.size w W2 := HB.out.trans (hb.mono HB.out.size)
            clear hb
            go_wp2_with (at_builtin; refine wpList_append_own _ rfl _ _ 28 rfl w.heap.size 9 i0 (.string ByteArray.empty) 1 16 Try.underlying28 hi hz0 hz1 hz2 rfl (by decide) _ _ _ rfl (hown3.alloc _) ⟨W2.heap.size, 0, none⟩ 1 1 [.string (s.extract q s.size)] rfl rfl (cell_one_new _ _ _) (by simp [Value.oneCell']) (by unfold maxLen; omega) (by omega) (by have := hB3.size; simp; omega) ?_; intro v' w1 hown' hgrow _)
            have HW : Hid (w1.ownsRow w.heap.size 9 1 v' (ps ++ [((bl s).take s.size).drop q]).length (tx (ps ++ [((bl s).take s.size).drop q]))) := Lib.hid (by rw [tx_snoc, ← ext_ba]; simpa using hown')
            have HB4 := Lib.hid ((hB3.alloc hB3.size _).grown hgrow (by have := hB3.size; simp; omega) (fun j e => (hown3.lt j e).1))
            clear hown' hgrow
            all_goals (
              go_ret2
              exact ⟨v', by rw [HX.out]; rfl, fun qs hqs => by (rw [HX.out] at hqs; cases hqs; exact HW.out), HB4.out⟩)
          · have hcap : (12 : Int) ≤ (ps.length : Int) := by omega
            have HX : Hid (pieces (bl s) = none) := Lib.hid (by rw [← HFe.out, fin_end, if_neg (fun h => h12 h.2)])
            clear hma h12
            go_wp2_with fail
            refine (HA2.out _).mono ?_
            rintro e W2 ⟨rfl, hb⟩
            have HB3 := Lib.hid (HB.out.trans (hb.mono HB.out.size))
            clear hb
            go_wp2
            go_ret2
            exact piece_none HX.out HB3.out
        · have HA2 := Lib.hid fun w => val_eqS (v' := .bool false) (HA.out w) (by rw [bl_ext]; simp [hma])
          have HX : Hid (pieces (bl s) = none) := Lib.hid (by rw [← HFe.out, fin_end, if_neg (fun h => hma h.1)])
          clear hma
          go_wp2_with fail
          refine (HA2.out _).mono ?_
          rintro e W2 ⟨rfl, hb⟩
          have HB3 := Lib.hid (HB.out.trans (hb.mono HB.out.size))
          clear hb
          go_wp2
          go_ret2
          exact piece_none HX.out HB3.out
end Go.Proofs.Ytdphjnbelggcfaa
