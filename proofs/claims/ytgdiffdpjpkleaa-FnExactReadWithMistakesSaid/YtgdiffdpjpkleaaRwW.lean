/-
  ReadWithMistakes of the program: the nearest letter for each piece of a signal. Used by the claims on chapter 6.
-/
import Derived.Test.YtgdiffdpjpkleaaCpS
import Derived.Test.YtgdiffdpjpkleaaDecW
namespace Go.Proofs.Ytgdiffdpjpkleaa
open Go.RowKit Go.Maps Go.WideMaps
set_option linter.unusedVariables false

/-! ### Plain -/
def nearAll (xs : List ByteArray) (p : Bs) : List Nat := nearOn (farB xs (ba p)) (List.range xs.length)
def nearMin (xs : List ByteArray) (p : Bs) : Nat := minOn (farB xs (ba p)) (List.range xs.length)
def headN (l : List Nat) : Nat := l.headD 0
def chQ (xs : List ByteArray) (p : Bs) : UInt8 := if p = [47] then 32 else UInt8.ofNat (97 + headN (nearAll xs p))
def suQ (xs : List ByteArray) (p : Bs) : Nat := if p = [47] then 0 else nearMin xs p
def rwM (xs : List ByteArray) (ps : List Bs) : Bs := ps.map (chQ xs)
def rwS (xs : List ByteArray) (ps : List Bs) : Nat := (ps.map (suQ xs)).sum
theorem rwM_snoc (xs : List ByteArray) (ps : List Bs) (p : Bs) : rwM xs (ps ++ [p]) = rwM xs ps ++ [chQ xs p] := by simp [rwM]
theorem rwS_snoc (xs : List ByteArray) (ps : List Bs) (p : Bs) : rwS xs (ps ++ [p]) = rwS xs ps + suQ xs p := by simp [rwS]
def rwOk (xs : List ByteArray) (s : ByteArray) : Bool := tableB xs && (pieces (bl s)).isSome
def rwB (xs : List ByteArray) (s : ByteArray) : ByteArray := if tableB xs = true then (match pieces (bl s) with | some ps => ba (rwM xs ps) | none => ⟨#[]⟩) else ⟨#[]⟩
def rwZ (xs : List ByteArray) (s : ByteArray) : Int := if tableB xs = true then (match pieces (bl s) with | some ps => (rwS xs ps : Int) | none => 0) else 0
def pieceOk (x : Bs) : Prop := x = [47] ∨ marksL x = true
theorem fin_ok (r : Bs) : ∀ (ps : List Bs) (cur : Bs) (qs : List Bs), (∀ x ∈ ps, pieceOk x) → fin ps cur r = some qs → ∀ x ∈ qs, pieceOk x := by
  induction r with
  | nil =>
    intro ps cur qs hp h x hx
    rw [fin_end] at h
    split at h
    · next hc =>
      cases h
      rcases List.mem_append.1 hx with h | h
      · exact hp x h
      · simp at h; subst h
        exact .inr hc.1
    · cases h
  | cons c r ih =>
    intro ps cur qs hp h
    rw [fin] at h
    split at h
    · exact ih _ _ _ hp h
    · split at h
      · next hc =>
        refine ih _ _ _ (fun x hx => ?_) h
        simp only [Bool.and_eq_true] at hc
        rcases List.mem_append.1 hx with hx | hx
        · rcases List.mem_append.1 hx with hx | hx
          · exact hp x hx
          · simp at hx; subst hx
            exact .inr hc.1.2
        · split at hx
          · simp at hx; subst hx; exact .inl rfl
          · cases hx
      · cases h
theorem pieces_ok {s : Bs} {ps : List Bs} (h : pieces s = some ps) : ∀ x ∈ ps, pieceOk x := by
  unfold pieces at h
  split at h
  · cases h; intro x hx; cases hx
  · exact fin_ok s [] [] ps (fun x hx => by cases hx) h
theorem pieces_len {s : Bs} {ps : List Bs} (h : pieces s = some ps) : ps.length ≤ 12 := by
  unfold pieces at h
  split at h
  · cases h; simp
  · exact (fin_len _ _ _ _ h).2
/-- What is known of the nearest letters of a piece of marks. -/
theorem near_facts {xs : List ByteArray} (ht : tableB xs = true) {x : Bs} (hx : marksL x = true) : nearOk xs (ba x) = true ∧ nearLs xs (ba x) = nearAll xs x ∧ nearZ xs (ba x) = (nearMin xs x : Int) ∧ nearMin xs x ≤ 5 ∧ 0 < (nearAll xs x).length ∧ headN (nearAll xs x) < 10 ∧ (nearAll xs x)[0]? = some (headN (nearAll xs x)) := by
  have hm : marksL (bl (ba x)) = true := by rw [bl_ba]; exact hx
  have hn := noneT_marks hm
  have h1 : nearOk xs (ba x) = true := by unfold nearOk; rw [ht, hn]; rfl
  have h0 := range_ne (table_le ht).1
  have h5 : ∀ p ∈ List.range xs.length, farB xs (ba x) p ≤ 5 := fun p hp => farB_le (marks5 ht) (noneT_size hn) (List.mem_range.1 hp)
  have hne : nearAll xs x ≠ [] := byOn_min h0 h5
  refine ⟨h1, by unfold nearLs; rw [if_pos h1]; rfl, by unfold nearZ; rw [if_pos h1]; rfl, minOn_le5 h0 h5, List.length_pos_iff.2 hne, ?_, ?_⟩
  · obtain ⟨y, r, e⟩ := List.exists_cons_of_ne_nil hne
    have hy : y ∈ nearAll xs x := by rw [e]; simp
    have := List.mem_range.1 (mem_byOn.1 hy).1
    have := (table_le ht).2
    rw [e]; show y < 10; omega
  · obtain ⟨y, r, e⟩ := List.exists_cons_of_ne_nil hne
    rw [e]; rfl
theorem rw_not {xs : List ByteArray} {s : ByteArray} (h : tableB xs = false) : rwB xs s = ⟨#[]⟩ ∧ rwZ xs s = 0 ∧ rwOk xs s = false := by
  unfold rwB rwZ rwOk
  rw [h]
  exact ⟨rfl, rfl, rfl⟩
theorem rw_none {xs : List ByteArray} {s : ByteArray} (h : pieces (bl s) = none) : rwB xs s = ⟨#[]⟩ ∧ rwZ xs s = 0 ∧ rwOk xs s = false := by
  unfold rwB rwZ rwOk
  rw [h]
  cases tableB xs <;> exact ⟨rfl, rfl, rfl⟩
theorem rw_some {xs : List ByteArray} {s : ByteArray} {ps : List Bs} (ht : tableB xs = true) (h : pieces (bl s) = some ps) : rwB xs s = ba (rwM xs ps) ∧ rwZ xs s = (rwS xs ps : Int) ∧ rwOk xs s = true := by
  unfold rwB rwZ rwOk
  rw [h, ht]
  exact ⟨rfl, rfl, rfl⟩

set_option maxHeartbeats 8000000 in
set_option maxRecDepth 20000 in
theorem readWith_any (a : Option Addr) (b o c : Nat) (xs : List ByteArray) (s : ByteArray) (w : World) (h : ListIn w a b o xs) (hs : s.size ≤ 1048576) :
    Calls Try.prog 43 #[.agg #[.slice a xs.length c], .string s] w fun e w' => e = .returned (.tuple #[.string (rwB xs s), .int .i64 (rwZ xs s), .bool (rwOk xs s)]) ∧ Below w.heap.size w w' := by
  obtain ⟨i0, hi, hz0, hz1, hz2⟩ := info_parts infoByte
  have hl := h.len
  have HS := Lib.hid h
  have hb0 := below_alloc w (.cells #[.slice a xs.length c] 32)
  have hc0 := cell_new w (.slice a xs.length c) 32
  have e0 : (w.alloc (.cells #[.slice a xs.length c] 32)).heap.size = w.heap.size + 1 := by simp
  have K := Lib.hid (And.intro hb0 (And.intro hc0 e0))
  have P := Lib.hid fun w => pieces_any s w hs
  clear h hb0 hc0 e0
  cases hps : pieces (bl s) with
  | none =>
    have HR := Lib.hid (rw_none (xs := xs) (s := s) hps)
    have HP := Lib.hid hps
    clear hps
    rw [HR.out.1, HR.out.2.1, HR.out.2.2]
    go_enter Try.func43, Try.ntmps43
    go_wp2_with fail
    refine (P.out _).mono ?_
    rintro e w1 ⟨v, rfl, _, hb⟩
    rw [HP.out]
    have HB1 := Lib.hid (K.out.1.trans (hb.mono (by rw [K.out.2.2]; omega)))
    clear hb
    simp only [Option.isSome_none]
    go_wp2
    go_ret3
    exact ⟨rfl, HB1.out⟩
  | some ps =>
    have HP := Lib.hid hps
    clear hps
    have FT := Lib.hid fun w1 hb => isTable_any a b o c xs w1 (HS.out.below hb)
    by_cases ht : tableB xs = true
    · have FT2 := Lib.hid fun w1 hb => val_eq (v' := .bool true) (FT.out w1 hb) (by rw [ht])
      have HT := Lib.hid ht
      have hpl : ps.length ≤ 12 := pieces_len HP.out
      have HPk := Lib.hid (pieces_ok HP.out)
      have HR := Lib.hid (rw_some ht HP.out)
      rw [HR.out.1, HR.out.2.1, HR.out.2.2]
      clear ht FT
      go_enter Try.func43, Try.ntmps43
      go_wp2_with fail
      refine (P.out _).mono ?_
      rintro e w1 ⟨v, rfl, hrow, hb⟩
      have hown1 := hrow ps HP.out
      have hc1 : w1.cell? ⟨w.heap.size, 0, none⟩ = some (.slice a xs.length c) := (hb.cell (p := ⟨w.heap.size, 0, none⟩) (by rw [K.out.2.2]; show w.heap.size < _; omega)).trans K.out.2.1
      have HB1 := Lib.hid (K.out.1.trans (hb.mono (by rw [K.out.2.2]; omega)))
      obtain ⟨av, capv, rfl⟩ := row_form hown1
      have HO1 := Lib.hid hown1
      have hsome : (pieces (bl s)).isSome = true := by rw [HP.out]; rfl
      rw [hsome]
      clear hb hrow hown1 hsome
      go_wp2_with fail
      refine (FT2.out w1 HB1.out).mono ?_
      rintro e w3 ⟨rfl, hb⟩
      have hc3 : w3.cell? ⟨w.heap.size, 0, none⟩ = some (.slice a xs.length c) := (hb.cell (p := ⟨w.heap.size, 0, none⟩) (World.block_lt_of_cell? _ _ hc1)).trans hc1
      have HB3 := Lib.hid (HB1.out.trans (hb.mono HB1.out.size))
      have HO3 := Lib.hid (row_below HO1.out hb)
      have hsz3 : w.heap.size < w3.heap.size := World.block_lt_of_cell? _ _ hc3
      have HZ3 := Lib.hid hsz3
      clear hb hc1
      have hm0 : (w3.alloc (Obj.cells #[] 5)).ownsRow (w.heap.size + 1) 5 1 (.slice (some ⟨w3.heap.size, 0, none⟩) 0 0) 0 (bys []) := World.ownsRow_made w3 #[] 0 hsz3 (by unfold maxLen; omega) rfl
      have M0 := Lib.hid hm0
      have hc4 := keep_cell w3 (Obj.cells #[] 5) hc3
      have HZ4 : Hid (w.heap.size < (w3.alloc (Obj.cells #[] 5)).heap.size) := Lib.hid (by simp; omega)
      have HB4 := Lib.hid (HB3.out.alloc HB3.out.size (Obj.cells #[] 5))
      have HO4 := Lib.hid (HO3.out.alloc (Obj.cells #[] 5))
      clear hm0 hc3
      go_wp2
      go_loopw [9, 10, 31] (fun vm vs v wr => ∃ (k gm capm sm : Nat) (m : Bs), v = .int .i64 k ∧ k ≤ ps.length ∧ vm = .slice (some ⟨gm, 0, none⟩) m.length capm ∧ m.length ≤ k ∧ vs = .int .i64 (sm : Int) ∧ sm ≤ 5 * k ∧ wr.ownsRow (w.heap.size + 1) 5 1 (.slice (some ⟨gm, 0, none⟩) m.length capm) m.length (bys m) ∧ wr.cell? ⟨w.heap.size, 0, none⟩ = some (.slice a xs.length c) ∧ Hid (wr.ownsRow (w.alloc (.cells #[.slice a xs.length c] 32)).heap.size 9 1 (.slice av ps.length capv) ps.length (tx ps)) ∧ Hid (Below w.heap.size w wr) ∧ Hid (m = rwM xs (ps.take k) ∧ sm = rwS xs (ps.take k)) ∧ Hid (w.heap.size < wr.heap.size)) (fun _ _ v _ => ps.length - (intOf v).toNat)
      case atStart => exact ⟨0, w3.heap.size, 0, 0, [], rfl, Nat.zero_le _, rfl, Nat.le_refl _, rfl, Nat.le_refl _, M0.out, hc4, HO4, HB4, Lib.hid ⟨rfl, rfl⟩, HZ4⟩
      case round =>
        clear hc4
        obtain ⟨k, gm, capm, sm, m, rfl, hk, rfl, hmk, rfl, hsk, hown, hc4, HO, HB, HD, HZ⟩ := hrel
        have hszr := HZ.out
        by_cases hlt : k < ps.length
        · have hO := HO.out
          have hcell : ∃ gp, av = some ⟨gp, 0, none⟩ ∧ wr.cell? ⟨gp, k, none⟩ = some (.string (ba ps[k])) := by
            rcases hO.2 with ⟨_, h1⟩ | ⟨gp, cap, cur, hv, _⟩
            · omega
            · injection hv with hv1 _ _
              refine ⟨gp, hv1, ?_⟩
              have := hO.cells (g := gp) (by rw [hv1]; rfl) k (.string (ba ps[k])) (by simp [tx, hlt])
              rw [Addr.add_lit, Nat.zero_add] at this
              exact this
          obtain ⟨gp, rfl, hcell⟩ := hcell
          have hxk := HPk.out _ (List.getElem_mem hlt)
          have HDr : Hid (ps.take (k + 1) = ps.take k ++ [ps[k]]) := Lib.hid (by rw [List.take_add_one, List.getElem?_eq_getElem hlt]; rfl)
          generalize ps[k] = x at hcell hxk HDr
          have HN : Hid (rwM xs (ps.take (k + 1)) = m ++ [chQ xs x] ∧ rwS xs (ps.take (k + 1)) = sm + suQ xs x) := Lib.hid (by
            rw [HDr.out, rwM_snoc, rwS_snoc, ← HD.out.1, ← HD.out.2]; exact ⟨rfl, rfl⟩)
          obtain ⟨X, hXe⟩ : ∃ X, X = ba x := ⟨_, rfl⟩
          have HXe : Hid (X = ba x ∧ bl X = x) := Lib.hid ⟨hXe, by rw [hXe, bl_ba]⟩
          rw [← hXe] at hcell
          have j0 : (0 : Int) ≤ (k : Int) := by omega
          have j1 : (k : Int) < (ps.length : Int) := by omega
          have HLtM : Hid (∀ q, (Value.slice (some ⟨gm, 0, none⟩) m.length capm).ownBlock = some q → w.heap.size + 1 ≤ q) := Lib.hid fun q e => (ownBlock_ge hown e).1
          clear hO hXe
          by_cases hsl : x = [47]
          · have hq1 : (X.toList == (⟨#[47]⟩ : ByteArray).toList) = true := by
              rw [ByteArray.toList_eq, ByteArray.toList_eq]
              show (bl X == bl ⟨#[47]⟩) = true
              rw [HXe.out.2, hsl]; rfl
            have hq2 : (X.toList == [47]) = true := by
              rw [ByteArray.toList_eq]
              show (bl X == [47]) = true
              rw [HXe.out.2, hsl]; rfl
            have HM2 : Hid (rwM xs (ps.take (k + 1)) = m ++ [32] ∧ rwS xs (ps.take (k + 1)) = sm) := Lib.hid (by
              have h1 := HN.out
              unfold chQ suQ at h1
              rw [if_pos hsl, if_pos hsl] at h1
              exact h1)
            clear hsl HN hxk
            go_wp2_with (at_builtin; refine wpList_append_own _ rfl _ _ 63 rfl (w.heap.size + 1) 5 i0 (.int .u8 0) 1 1 Try.underlying63 hi hz0 hz1 hz2 rfl (by decide) _ _ _ rfl (hown.alloc _) ⟨wr.heap.size, 0, none⟩ 1 1 [.int .u8 32] rfl rfl (cell_one_new _ _ _) (by simp [Value.oneCell']) (by unfold maxLen; omega) (by omega) (by simp; omega) ?_; intro v' w4 hown' hgrow _)
            have hown4 : w4.ownsRow (w.heap.size + 1) 5 1 v' (m ++ [32]).length (bys (m ++ [32])) := by rw [bys_snoc]; simpa using hown'
            obtain ⟨g4, cap4, rfl⟩ : ∃ g cap, v' = .slice (some ⟨g, 0, none⟩) (m ++ [32]).length cap := by
              rcases hown4.2 with ⟨_, h1⟩ | ⟨g, cap, _, rfl, _⟩
              · simp at h1
              · exact ⟨g, cap, rfl⟩
            have H4 := Lib.hid hown4
            have hc5 : w4.cell? ⟨w.heap.size, 0, none⟩ = some (.slice a xs.length c) := (World.cell?_of_block (a := ⟨w.heap.size, 0, none⟩) (hgrow.block w.heap.size (by simp; omega) (fun e => by have := HLtM.out _ e.symm; omega))).trans (keep_cell _ _ hc4)
            have HO5 := Lib.hid ((HO.out.alloc _).kept hgrow (row_apart5 HO.out hown (by decide)))
            have HB5 : Hid (Below w.heap.size w w4) := Lib.hid ((HB.out.alloc HB.out.size _).grown hgrow (by have := HB.out.size; simp; omega) (fun q e => by have := HLtM.out q e; omega))
            have HZ5 : Hid (w.heap.size < w4.heap.size) := Lib.hid (World.block_lt_of_cell? _ _ hc5)
            have HD5 : Hid (m ++ [32] = rwM xs (ps.take (k + 1)) ∧ sm = rwS xs (ps.take (k + 1))) := Lib.hid ⟨HM2.out.1.symm, HM2.out.2.symm⟩
            clear hown' hgrow hown4 hown hc4
            all_goals (
              go_wp2
              go_roundw
              case rel => exact ⟨k + 1, g4, cap4, sm, m ++ [32], by go_num, by omega, by simp, by simp; omega, rfl, by omega, H4.out, hc5, HO5, HB5, HD5, HZ5⟩
              case measure => simp [intOf]; omega)
          · have hq1 : (X.toList == (⟨#[47]⟩ : ByteArray).toList) = false := beq_false_of_ne (fun e => hsl (by
              rw [ByteArray.toList_eq, ByteArray.toList_eq] at e
              have e2 : bl X = [47] := e
              rw [← HXe.out.2, e2]))
            have hq2 : (X.toList == [47]) = false := beq_false_of_ne (fun e => hsl (by
              rw [ByteArray.toList_eq] at e
              have e2 : bl X = [47] := e
              rw [← HXe.out.2, e2]))
            have hxm : marksL x = true := hxk.resolve_left hsl
            obtain ⟨n1, n2, n3, n4, n5, n6, n7⟩ := near_facts HT.out hxm
            have HNr : Hid (∀ W, Below w.heap.size w W → Calls Try.prog 23 #[.agg #[.slice a xs.length c], .string X] W (SeqOut3 (ints (nearAll xs x)) (nearAll xs x).length (nearMin xs x : Int) true W)) := Lib.hid fun W hb => by
              have hX : X.size ≤ 1048576 := by
                have := marksL_size (x := X) (by rw [HXe.out.2]; exact hxm)
                omega
              have := nearest_any a b o c xs X W (HS.out.below hb) hX
              rw [HXe.out.1, n1, n2, n3] at this
              rw [HXe.out.1]
              exact this
            have HM2 : Hid (rwM xs (ps.take (k + 1)) = m ++ [UInt8.ofNat (97 + headN (nearAll xs x))] ∧ rwS xs (ps.take (k + 1)) = sm + nearMin xs x) := Lib.hid (by
              have h1 := HN.out
              unfold chQ suQ at h1
              rw [if_neg hsl, if_neg hsl] at h1
              exact h1)
            have N7 := Lib.hid n7
            have N5 := Lib.hid n5
            generalize nearAll xs x = ys at HNr HM2 N7 N5 n6
            generalize nearMin xs x = d at HNr HM2 n4
            generalize headN ys = jj at HM2 N7 n6
            have HC97 : Hid (((UInt8.ofNat (97 + jj)).toNat : Int) = 97 + (jj : Int)) := Lib.hid (by rw [toNat_97 n6]; omega)
            have HHd : Hid ((ints ys)[0]? = some (.int .i64 (jj : Int))) := Lib.hid (by unfold ints; rw [List.getElem?_map, N7.out]; rfl)
            have u1 : IntKind.u8.wrap (jj : Int) = (jj : Int) := by rw [IntKind.wrap_u8]; omega
            have u2 : IntKind.u8.wrap (97 + (jj : Int)) = 97 + (jj : Int) := by rw [IntKind.wrap_u8]; omega
            have hyl0 : (0 : Int) < (ys.length : Int) := by have := N5.out; omega
            have HOw := Lib.hid hown
            clear hsl HN hxk hxm n1 n2 n3 n5 n7 hown
            go_wp2_with fail
            refine (HNr.out _ HB.out).mono ?_
            rintro e w5 ⟨a1, g1, c1, rfl, hs1, _, _, hb⟩
            obtain rfl := hs1.1 (by rw [ints_len]; exact N5.out)
            have d1 := hs1.2 0 _ HHd.out
            have hc5 := cell_below hb hc4
            have HO5 := Lib.hid (row_below HO.out hb)
            have HOw5 := Lib.hid (row_below HOw.out hb)
            have HB5 := Lib.hid (HB.out.trans (hb.mono HB.out.size))
            have hsz5 : w.heap.size < w5.heap.size := Nat.lt_of_lt_of_le hszr hb.size
            clear hb hs1 hc4
            go_wp2_with (first
              | (at_builtin; refine wpList_append_own _ rfl _ _ 63 rfl (w.heap.size + 1) 5 i0 (.int .u8 0) 1 1 Try.underlying63 hi hz0 hz1 hz2 rfl (by decide) _ _ _ rfl (HOw5.out.alloc _) ⟨w5.heap.size, 0, none⟩ 1 1 [.int .u8 (97 + (jj : Int))] rfl rfl (cell_one_new _ _ _) (by simp [Value.oneCell']) (by unfold maxLen; omega) (by omega) (by simp; omega) ?_; intro v' w4 hown' hgrow _
                 have hown4 : w4.ownsRow (w.heap.size + 1) 5 1 v' (m ++ [UInt8.ofNat (97 + jj)]).length (bys (m ++ [UInt8.ofNat (97 + jj)])) := by rw [bys_snoc, HC97.out]; simpa using hown'
                 obtain ⟨g4, cap4, rfl⟩ : ∃ g cap, v' = .slice (some ⟨g, 0, none⟩) (m ++ [UInt8.ofNat (97 + jj)]).length cap := by
                   rcases hown4.2 with ⟨_, h1⟩ | ⟨g, cap, _, rfl, _⟩
                   · simp at h1
                   · exact ⟨g, cap, rfl⟩
                 have H4 := Lib.hid hown4
                 clear hown4)
              | go_in)
            have hc6 : w4.cell? ⟨w.heap.size, 0, none⟩ = some (.slice a xs.length c) := (World.cell?_of_block (a := ⟨w.heap.size, 0, none⟩) (hgrow.block w.heap.size (by simp; omega) (fun e => by have := HLtM.out _ e.symm; omega))).trans (keep_cell _ _ hc5)
            have HO6 := Lib.hid ((HO5.out.alloc _).kept hgrow (row_apart5 HO5.out HOw5.out (by decide)))
            have HB6 : Hid (Below w.heap.size w w4) := Lib.hid ((HB5.out.alloc HB5.out.size _).grown hgrow (by have := HB5.out.size; simp; omega) (fun q e => by have := HLtM.out q e; omega))
            have HZ6 : Hid (w.heap.size < w4.heap.size) := Lib.hid (World.block_lt_of_cell? _ _ hc6)
            have HD6 : Hid (m ++ [UInt8.ofNat (97 + jj)] = rwM xs (ps.take (k + 1)) ∧ sm + d = rwS xs (ps.take (k + 1))) := Lib.hid ⟨HM2.out.1.symm, HM2.out.2.symm⟩
            clear hown' hgrow hc5 u1 u2
            all_goals (
              go_wp2
              go_roundw
              case rel => exact ⟨k + 1, g4, cap4, sm + d, m ++ [UInt8.ofNat (97 + jj)], by go_num, by omega, by simp, by simp; omega, by simp, by omega, H4.out, hc6, HO6, HB6, HD6, HZ6⟩
              case measure => simp [intOf]; omega)
        · obtain rfl : k = ps.length := by omega
          have hcv := conv_bytes wr gm capm m hown
          have hD := HD.out
          rw [List.take_length] at hD
          have HE := Lib.hid hD
          clear hD
          go_wp2
          go_ret3
          exact ⟨by rw [← HE.out.1, ← HE.out.2]; rfl, HB.out⟩
    · have FT2 := Lib.hid fun w1 hb => val_eq (v' := .bool false) (FT.out w1 hb) (by simp [ht])
      have HR := Lib.hid (rw_not (s := s) (show tableB xs = false by simpa using ht))
      rw [HR.out.1, HR.out.2.1, HR.out.2.2]
      clear ht FT
      go_enter Try.func43, Try.ntmps43
      go_wp2_with fail
      refine (P.out _).mono ?_
      rintro e w1 ⟨v, rfl, _, hb⟩
      have hc1 : w1.cell? ⟨w.heap.size, 0, none⟩ = some (.slice a xs.length c) := (hb.cell (p := ⟨w.heap.size, 0, none⟩) (by rw [K.out.2.2]; show w.heap.size < _; omega)).trans K.out.2.1
      have HB1 := Lib.hid (K.out.1.trans (hb.mono (by rw [K.out.2.2]; omega)))
      have hsome : (pieces (bl s)).isSome = true := by rw [HP.out]; rfl
      rw [hsome]
      clear hb hsome
      go_wp2_with fail
      refine (FT2.out w1 HB1.out).mono ?_
      rintro e w2 ⟨rfl, hb⟩
      have HB2 := Lib.hid (HB1.out.trans (hb.mono HB1.out.size))
      clear hb
      go_wp2
      go_ret3
      exact ⟨rfl, HB2.out⟩
end Go.Proofs.Ytgdiffdpjpkleaa
