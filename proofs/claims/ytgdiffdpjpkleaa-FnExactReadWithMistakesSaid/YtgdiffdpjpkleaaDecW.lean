/-
  DecodeSignal of the program: how it ends. Used by the claims on chapter 2.
-/
import Derived.Test.YtgdiffdpjpkleaaIsTableB
import Derived.Test.YtgdiffdpjpkleaaPieceW
import Derived.Test.YtgdiffdpjpkleaaLetterB
namespace Go.Proofs.Ytgdiffdpjpkleaa
open Go.RowKit Go.Maps Go.WideMaps
set_option linter.unusedVariables false

theorem infoByte : (Try.prog.info? 5).map (fun i => (i.zero, i.size, i.bytes)) = some (some (.int .u8 0), 1, 1) := by kernel_rfl
theorem fin_short (r : Bs) : ∀ (ps : List Bs) (cur : Bs) (qs : List Bs), (∀ x ∈ ps, x.length ≤ 5) → fin ps cur r = some qs → ∀ x ∈ qs, x.length ≤ 5 := by
  induction r with
  | nil =>
    intro ps cur qs hp h x hx
    rw [fin_end] at h
    split at h
    · next hc =>
      cases h
      rcases List.mem_append.1 hx with h | h
      · exact hp x h
      · simp at h; subst h
        have := hc.1
        simp only [marksL, Bool.and_eq_true, decide_eq_true_eq] at this
        exact this.1.2
    · cases h
  | cons c r ih =>
    intro ps cur qs hp h
    rw [fin] at h
    split at h
    · exact ih _ _ _ hp h
    · split at h
      · next hc =>
        refine ih _ _ _ (fun x hx => ?_) h
        simp only [Bool.and_eq_true] at hc
        rcases List.mem_append.1 hx with hx | hx
        · rcases List.mem_append.1 hx with hx | hx
          · exact hp x hx
          · simp at hx; subst hx
            have := hc.1.2
            simp only [marksL, Bool.and_eq_true, decide_eq_true_eq] at this
            exact this.1.2
        · split at hx
          · simp at hx; subst hx; simp
          · cases hx
      · cases h
theorem pieces_short {s : Bs} {ps : List Bs} (h : pieces s = some ps) : ∀ x ∈ ps, x.length ≤ 5 := by
  unfold pieces at h
  split at h
  · cases h; intro x hx; cases hx
  · exact fin_short s [] [] ps (fun x hx => by cases hx) h
def bys (m : Bs) : List Value := m.map fun c => Value.int .u8 (c.toNat : Int)
theorem bys_snoc (m : Bs) (c : UInt8) : bys (m ++ [c]) = bys m ++ [.int .u8 (c.toNat : Int)] := by simp [bys]
theorem bys_len (m : Bs) : (bys m).length = m.length := by simp [bys]

def decR (xs : List ByteArray) (s : ByteArray) : ByteArray × Bool := match tableB xs, decL (xs.map bl) (bl s) with
  | true, some m => (ba m, true)
  | _, _ => (⟨#[]⟩, false)
theorem decR_not {xs : List ByteArray} {s : ByteArray} (h : tableB xs = false) : decR xs s = (⟨#[]⟩, false) := by unfold decR; rw [h]
theorem decR_none {xs : List ByteArray} {s : ByteArray} (h : decL (xs.map bl) (bl s) = none) : decR xs s = (⟨#[]⟩, false) := by unfold decR; rw [h]; cases tableB xs <;> rfl
theorem decR_some {xs : List ByteArray} {s : ByteArray} {m : Bs} (h : tableB xs = true) (hd : decL (xs.map bl) (bl s) = some m) : decR xs s = (ba m, true) := by unfold decR; rw [h, hd]
theorem decP_slash (T : List Bs) (r : List Bs) (m : Bs) : (decP T ([47] :: r)).map (m ++ ·) = (decP T r).map ((m ++ [32]) ++ ·) := by
  simp only [decP, if_pos]
  cases decP T r <;> simp
theorem decP_none {T : List Bs} {x : Bs} (hx : x ≠ [47]) (hp : place T x = none) (r : List Bs) : decP T (x :: r) = none := by simp only [decP, if_neg hx, hp]
theorem decP_some {T : List Bs} {x : Bs} {i : Nat} (hx : x ≠ [47]) (hp : place T x = some i) (r : List Bs) (m : Bs) : (decP T (x :: r)).map (m ++ ·) = (decP T r).map ((m ++ [UInt8.ofNat (97 + i)]) ++ ·) := by
  simp only [decP, if_neg hx, hp]
  cases decP T r <;> simp

theorem map_below {w w' : World} {B n : Nat} {D : DataW Unit} (h : w.ownsMap Try.prog 9 (plainElem Try.prog 3) B n D) (hb : Below w.heap.size w w') : w'.ownsMap Try.prog 9 (plainElem Try.prog 3) B n D :=
  h.kept (row := none) ⟨hb.os, hb.tape, hb.output, hb.size, fun i hi _ => hb.block i hi⟩ (by simp)
/-- A map and a row lie in different blocks. -/
theorem map_apart {w : World} {B n : Nat} {D : DataW Unit} {base : Nat} {e : TypeId} {size : Nat} {v : Value} {k : Nat} {xs : List Value} (h : w.ownsMap Try.prog 9 (plainElem Try.prog 3) B n D) (hr : w.ownsRow base e size v k xs) : some B ≠ v.ownBlock := by
  obtain ⟨es, clock, hh, _⟩ := h
  rcases hr.2 with ⟨rfl, _⟩ | ⟨g, cap, cur, rfl, hg, hc, _⟩
  · simp [Value.ownBlock]
  · intro e
    simp [Value.ownBlock] at e
    subst e
    rw [hh] at hc
    cases hc
theorem row_apart5 {w : World} {b1 b2 : Nat} {e1 e2 : TypeId} {s1 s2 : Nat} {v1 v2 : Value} {n1 n2 : Nat} {x1 x2 : List Value} (h1 : w.ownsRow b1 e1 s1 v1 n1 x1) (h2 : w.ownsRow b2 e2 s2 v2 n2 x2) (hne : e1 ≠ e2) : v1.ownBlock = none ∨ v1.ownBlock ≠ v2.ownBlock := by
  rcases h1.2 with ⟨rfl, _⟩ | ⟨g, cap, cur, rfl, hg, hh, _⟩
  · left; simp [Value.ownBlock]
  · rcases h2.2 with ⟨rfl, _⟩ | ⟨g2, cap2, cur2, rfl, hg2, hh2, _⟩
    · right; simp [Value.ownBlock]
    · right
      intro e
      simp [Value.ownBlock] at e
      subst e
      rw [hh] at hh2
      have := Option.some.inj hh2
      injection this with _ h3 _
      exact hne h3
theorem conv_bytes (W : World) (g cap : Nat) (m : Bs) {base : Nat} (h : W.ownsRow base 5 1 (.slice (some ⟨g, 0, none⟩) m.length cap) m.length (bys m)) :
    (convert 63 9 (.slice (some ⟨g, 0, none⟩) m.length cap)).run Try.prog W = .ok (.string (ba m)) W := by
  refine run_convert_bytes_back (P := Try.prog) W 63 9 5 ⟨g, 0, none⟩ cap m Try.underlying63 Try.underlying5 Try.underlying9 (fun j hj => ?_)
  exact h.cells (g := g) rfl j _ (by simp [bys, hj])

set_option maxHeartbeats 8000000 in
set_option maxRecDepth 20000 in
theorem decode_any (a : Option Addr) (b o c : Nat) (xs : List ByteArray) (s : ByteArray) (w : World) (h : ListIn w a b o xs) (hs : s.size ≤ 1048576) :
    Calls Try.prog 65 #[.agg #[.slice a xs.length c], .string s] w fun e w' => e = .returned (.tuple #[.string (decR xs s).1, .bool (decR xs s).2]) ∧ Below w.heap.size w w' := by
  obtain ⟨i0, hi, hz0, hz1, hz2⟩ := info_parts infoByte
  have hl := h.len
  have HS := Lib.hid h
  have hb0 := below_alloc w (.cells #[.slice a xs.length c] 32)
  have hc0 := cell_new w (.slice a xs.length c) 32
  have e0 : (w.alloc (.cells #[.slice a xs.length c] 32)).heap.size = w.heap.size + 1 := by simp
  have K := Lib.hid (And.intro hb0 (And.intro hc0 e0))
  have P := Lib.hid fun w => pieces_any s w hs
  clear h hb0 hc0 e0
  cases hps : pieces (bl s) with
  | none =>
    have HR := Lib.hid (decR_none (xs := xs) (s := s) (by unfold decL; rw [hps]))
    have HP := Lib.hid hps
    clear hps
    go_enter Try.func65, Try.ntmps65
    go_wp2_with fail
    refine (P.out _).mono ?_
    rintro e w1 ⟨v, rfl, _, hb⟩
    rw [HP.out]
    have HB1 := Lib.hid (K.out.1.trans (hb.mono (by rw [K.out.2.2]; omega)))
    clear hb
    simp only [Option.isSome_none]
    go_wp2
    go_ret2
    exact ⟨by rw [HR.out]; rfl, HB1.out⟩
  | some ps =>
    have HP := Lib.hid hps
    clear hps
    have FT := Lib.hid fun w1 hb => isTable_any a b o c xs w1 (HS.out.below hb)
    by_cases ht : tableB xs = true
    · have FT2 := Lib.hid fun w1 hb => val_eq (v' := .bool true) (FT.out w1 hb) (by rw [ht])
      have FL := Lib.hid fun w1 hb => letters_any a b o c xs w1 (HS.out.below hb)
      have HT := Lib.hid ht
      have hpl : ps.length ≤ 12 := by
        have h1 := HP.out
        unfold pieces at h1
        split at h1
        · cases h1; simp
        · exact (fin_len _ _ _ _ h1).2
      have hDl : decL (xs.map bl) (bl s) = decP (xs.map bl) ps := by unfold decL; rw [HP.out]
      have HDl := Lib.hid hDl
      have hpsz : ∀ x ∈ ps, x.length ≤ 5 := pieces_short HP.out
      have HPz := Lib.hid hpsz
      clear ht FT hDl hpsz
      go_enter Try.func65, Try.ntmps65
      go_wp2_with fail
      refine (P.out _).mono ?_
      rintro e w1 ⟨v, rfl, hrow, hb⟩
      have hown1 := hrow ps HP.out
      have hc1 : w1.cell? ⟨w.heap.size, 0, none⟩ = some (.slice a xs.length c) := (hb.cell (p := ⟨w.heap.size, 0, none⟩) (by rw [K.out.2.2]; show w.heap.size < _; omega)).trans K.out.2.1
      have HB1 := Lib.hid (K.out.1.trans (hb.mono (by rw [K.out.2.2]; omega)))
      obtain ⟨av, capv, rfl⟩ := row_form hown1
      have HO1 := Lib.hid hown1
      have hsome : (pieces (bl s)).isSome = true := by rw [HP.out]; rfl
      rw [hsome]
      clear hb hrow hown1 hsome
      go_wp2_with fail
      refine (FT2.out w1 HB1.out).mono ?_
      rintro e w2 ⟨rfl, hb⟩
      have hc2 : w2.cell? ⟨w.heap.size, 0, none⟩ = some (.slice a xs.length c) := (hb.cell (p := ⟨w.heap.size, 0, none⟩) (World.block_lt_of_cell? _ _ hc1)).trans hc1
      have HB2 := Lib.hid (HB1.out.trans (hb.mono HB1.out.size))
      have HO2 := Lib.hid (row_below HO1.out hb)
      clear hb hc1
      go_wp2_with fail
      refine (FL.out w2 HB2.out).mono ?_
      rintro e w3 ⟨B, rfl, hBg, hmap, hb⟩
      have HB3 := Lib.hid (HB2.out.trans (hb.mono HB2.out.size))
      have HO3 := Lib.hid (row_below HO2.out hb)
      have HM3 := Lib.hid hmap
      clear hb hc2 hmap
      have hm0 : (w3.alloc (Obj.cells #[] 5)).ownsRow w.heap.size 5 1 (.slice (some ⟨w3.heap.size, 0, none⟩) 0 0) 0 (bys []) := World.ownsRow_made w3 #[] 0 HB3.out.size (by unfold maxLen; omega) rfl
      have M0 := Lib.hid hm0
      clear hm0
      go_wp2
      go_loopw [9, 31] (fun vm v wr => ∃ (k gm capm : Nat) (m : Bs), v = .int .i64 k ∧ k ≤ ps.length ∧ vm = .slice (some ⟨gm, 0, none⟩) m.length capm ∧ m.length ≤ k ∧ wr.ownsRow w.heap.size 5 1 (.slice (some ⟨gm, 0, none⟩) m.length capm) m.length (bys m) ∧ wr.ownsMap Try.prog 9 (plainElem Try.prog 3) B xs.length (letD xs xs.length) ∧ Hid (wr.ownsRow (w.alloc (.cells #[.slice a xs.length c] 32)).heap.size 9 1 (.slice av ps.length capv) ps.length (tx ps)) ∧ Below w.heap.size w wr ∧ Hid ((decP (xs.map bl) (ps.drop k)).map (m ++ ·) = decP (xs.map bl) ps)) (fun _ v _ => ps.length - (intOf v).toNat)
      case atStart => exact ⟨0, w3.heap.size, 0, [], rfl, Nat.zero_le _, rfl, Nat.le_refl _, M0.out, HM3.out.alloc _, Lib.hid (HO3.out.alloc _), HB3.out.alloc HB3.out.size _, Lib.hid (by simp)⟩
      case round =>
        obtain ⟨k, gm, capm, m, rfl, hk, rfl, hmk, hown, hmap, HO, hB, HD⟩ := hrel
        by_cases hlt : k < ps.length
        · have hO := HO.out
          have hcell : ∃ gp, av = some ⟨gp, 0, none⟩ ∧ wr.cell? ⟨gp, k, none⟩ = some (.string (ba ps[k])) := by
            rcases hO.2 with ⟨_, h1⟩ | ⟨gp, cap, cur, hv, _⟩
            · omega
            · injection hv with hv1 _ _
              refine ⟨gp, hv1, ?_⟩
              have := hO.cells (g := gp) (by rw [hv1]; rfl) k (.string (ba ps[k])) (by simp [tx, hlt])
              rw [Addr.add_lit, Nat.zero_add] at this
              exact this
          obtain ⟨gp, rfl, hcell⟩ := hcell
          have HX := Lib.hid (List.getElem?_eq_getElem hlt)
          have hxs := HPz.out _ (List.getElem_mem hlt)
          have HDr : Hid (ps.drop k = ps[k] :: ps.drop (k + 1)) := Lib.hid (List.drop_eq_getElem_cons hlt)
          generalize ps[k] = x at hcell HX hxs HDr
          obtain ⟨X, hXe⟩ : ∃ X, X = ba x := ⟨_, rfl⟩
          have HXe : Hid (X = ba x ∧ bl X = x) := Lib.hid ⟨hXe, by rw [hXe, bl_ba]⟩
          have hXs : X.size ≤ 5 := by rw [hXe, ba_size]; exact hxs
          rw [← hXe] at hcell
          have j0 : (0 : Int) ≤ (k : Int) := by omega
          have j1 : (k : Int) < (ps.length : Int) := by omega
          clear hO hXe hxs
          by_cases hsl : x = [47]
          · have hq1 : (X.toList == (⟨#[47]⟩ : ByteArray).toList) = true := by
              rw [ByteArray.toList_eq, ByteArray.toList_eq]
              show (bl X == bl ⟨#[47]⟩) = true
              rw [HXe.out.2, hsl]; rfl
            have hq2 : (X.toList == [47]) = true := by
              rw [ByteArray.toList_eq]
              show (bl X == [47]) = true
              rw [HXe.out.2, hsl]; rfl
            have HN : Hid ((decP (xs.map bl) (ps.drop (k + 1))).map ((m ++ [32]) ++ ·) = decP (xs.map bl) ps) := Lib.hid (by rw [← decP_slash, ← hsl, ← HDr.out]; exact HD.out)
            clear hsl
            go_wp2_with (at_builtin; refine wpList_append_own _ rfl _ _ 63 rfl w.heap.size 5 i0 (.int .u8 0) 1 1 Try.underlying63 hi hz0 hz1 hz2 rfl (by decide) _ _ _ rfl (hown.alloc _) ⟨wr.heap.size, 0, none⟩ 1 1 [.int .u8 32] rfl rfl (cell_one_new _ _ _) (by simp [Value.oneCell']) (by unfold maxLen; omega) (by omega) (by have := hB.size; simp; omega) ?_; intro v' w4 hown' hgrow _)
            have hown4 : w4.ownsRow w.heap.size 5 1 v' (m ++ [32]).length (bys (m ++ [32])) := by rw [bys_snoc]; simpa using hown'
            obtain ⟨g4, cap4, rfl⟩ : ∃ g cap, v' = .slice (some ⟨g, 0, none⟩) (m ++ [32]).length cap := by
              rcases hown4.2 with ⟨_, h1⟩ | ⟨g, cap, _, rfl, _⟩
              · simp at h1
              · exact ⟨g, cap, rfl⟩
            have H4 := Lib.hid hown4
            have HM4 := Lib.hid ((hmap.alloc _).kept hgrow (map_apart hmap hown))
            have HO4 := Lib.hid ((HO.out.alloc _).kept hgrow (row_apart5 HO.out hown (by decide)))
            have HB4 := Lib.hid ((hB.alloc hB.size _).grown hgrow (by have := hB.size; simp; omega) (fun j e => (hown.lt j e).1))
            clear hown' hgrow hown4 hown hmap
            all_goals (
              go_wp2
              go_roundw
              case rel => exact ⟨k + 1, g4, cap4, m ++ [32], by go_num, by omega, by simp, by simp; omega, H4.out, HM4.out, HO4, HB4.out, HN⟩
              case measure => simp [intOf]; omega)
          · have hq1 : (X.toList == (⟨#[47]⟩ : ByteArray).toList) = false := beq_false_of_ne (fun e => hsl (by
              rw [ByteArray.toList_eq, ByteArray.toList_eq] at e
              have e2 : bl X = [47] := e
              rw [← HXe.out.2, e2]))
            have hq2 : (X.toList == [47]) = false := beq_false_of_ne (fun e => hsl (by
              rw [ByteArray.toList_eq] at e
              have e2 : bl X = [47] := e
              rw [← HXe.out.2, e2]))
            have hkey : keyOf Try.prog 9 (.string X) = some (keyB X) := keyOf_string_mk Try.underlying9 (by unfold maxLen; omega)
            have hh := letD_has xs X xs.length
            rw [List.take_length] at hh
            cases hpl2 : placeB xs X with
            | none =>
              have HH : Hid (Maps.has (letD xs xs.length) (keyB X) = false) := Lib.hid (by
                rw [Bool.eq_false_iff]; exact fun e => placeB_none.1 hpl2 (hh.1 e))
              have HR := Lib.hid (decR_none (xs := xs) (s := s) (by
                have hp3 : place (xs.map bl) x = none := by rw [← HXe.out.2]; exact hpl2
                rw [HDl.out, ← HD.out, HDr.out, decP_none hsl hp3]; rfl))
              clear hsl hpl2 hh
              go_wp2_with (at_lookup; refine wpList_lookup_own_ok_int _ rfl _ _ 105 rfl 9 3 .i64 law9 Try.underlying105 Try.underlying3 (zeroI _) B xs.length _ rfl hmap _ _ rfl hkey ?_; intro q hat hwq; rw [HH.out]; clear hat hwq)
              all_goals (
                go_wp2
                go_ret2
                exact ⟨by rw [HR.out]; rfl, hB⟩)
            | some jj =>
              have hjx := (placeB_some.1 hpl2).1
              have hjl : jj < xs.length := (List.getElem?_eq_some_iff.1 hjx).1
              have hj10 : jj < 10 := by have := ((tableB_iff xs).1 HT.out).1.2; omega
              have HH : Hid (Maps.has (letD xs xs.length) (keyB X) = true) := Lib.hid (hh.2 (List.mem_of_getElem? hjx))
              have HQ : Hid (∀ q : Int, (letD xs xs.length).atKey (keyB X) (.lit (.int .i64 0)) = .lit (.int .i64 q) → q = (jj : Int)) := Lib.hid (fun q hq => by
                rw [letD_at xs ((tableB_iff xs).1 HT.out).2.2 X jj hjx _ xs.length hjl (Nat.le_refl _)] at hq
                cases hq; rfl)
              have HN : Hid ((decP (xs.map bl) (ps.drop (k + 1))).map ((m ++ [UInt8.ofNat (97 + jj)]) ++ ·) = decP (xs.map bl) ps) := Lib.hid (by
                have hp3 : place (xs.map bl) x = some jj := by rw [← HXe.out.2]; exact hpl2
                rw [← decP_some hsl hp3, ← HDr.out]; exact HD.out)
              have HC97 : Hid (((UInt8.ofNat (97 + jj)).toNat : Int) = 97 + (jj : Int)) := Lib.hid (by rw [toNat_97 hj10]; omega)
              have u1 : IntKind.u8.wrap (jj : Int) = (jj : Int) := by rw [IntKind.wrap_u8]; omega
              have u2 : IntKind.u8.wrap (97 + (jj : Int)) = 97 + (jj : Int) := by rw [IntKind.wrap_u8]; omega
              clear hsl hpl2 hh hjx hjl
              go_wp2_with (first
                | (at_lookup; refine wpList_lookup_own_ok_int _ rfl _ _ 105 rfl 9 3 .i64 law9 Try.underlying105 Try.underlying3 (zeroI _) B xs.length _ rfl hmap _ _ rfl hkey ?_; intro q hat hwq; obtain rfl := HQ.out q hat; rw [HH.out]; clear hat hwq)
                | (at_builtin; refine wpList_append_own _ rfl _ _ 63 rfl w.heap.size 5 i0 (.int .u8 0) 1 1 Try.underlying63 hi hz0 hz1 hz2 rfl (by decide) _ _ _ rfl (hown.alloc _) ⟨wr.heap.size, 0, none⟩ 1 1 [.int .u8 (97 + (jj : Int))] rfl rfl (cell_one_new _ _ _) (by simp [Value.oneCell']) (by unfold maxLen; omega) (by omega) (by have := hB.size; simp; omega) ?_; intro v' w4 hown' hgrow _))
              have hown4 : w4.ownsRow w.heap.size 5 1 v' (m ++ [UInt8.ofNat (97 + jj)]).length (bys (m ++ [UInt8.ofNat (97 + jj)])) := by rw [bys_snoc, HC97.out]; simpa using hown'
              obtain ⟨g4, cap4, rfl⟩ : ∃ g cap, v' = .slice (some ⟨g, 0, none⟩) (m ++ [UInt8.ofNat (97 + jj)]).length cap := by
                rcases hown4.2 with ⟨_, h1⟩ | ⟨g, cap, _, rfl, _⟩
                · simp at h1
                · exact ⟨g, cap, rfl⟩
              have H4 := Lib.hid hown4
              have HM4 := Lib.hid ((hmap.alloc _).kept hgrow (map_apart hmap hown))
              have HO4 := Lib.hid ((HO.out.alloc _).kept hgrow (row_apart5 HO.out hown (by decide)))
              have HB4 := Lib.hid ((hB.alloc hB.size _).grown hgrow (by have := hB.size; simp; omega) (fun j e => (hown.lt j e).1))
              clear hown' hgrow hown4 hown hmap
              all_goals (
                go_wp2
                go_roundw
                case rel => exact ⟨k + 1, g4, cap4, m ++ [UInt8.ofNat (97 + jj)], by go_num, by omega, by simp, by simp; omega, H4.out, HM4.out, HO4, HB4.out, HN⟩
                case measure => simp [intOf]; omega)
        · have HE : Hid (decR xs s = (ba m, true)) := Lib.hid (by
            refine decR_some HT.out ?_
            rw [HDl.out, ← HD.out, List.drop_of_length_le (by omega)]
            simp [decP])
          have hcv := conv_bytes wr gm capm m hown
          go_wp2
          go_ret2
          exact ⟨by rw [HE.out]; rfl, hB⟩
    · have FT2 := Lib.hid fun w1 hb => val_eq (v' := .bool false) (FT.out w1 hb) (by simp [ht])
      have HR := Lib.hid (decR_not (s := s) (show tableB xs = false by simpa using ht))
      clear ht FT
      go_enter Try.func65, Try.ntmps65
      go_wp2_with fail
      refine (P.out _).mono ?_
      rintro e w1 ⟨v, rfl, _, hb⟩
      have hc1 : w1.cell? ⟨w.heap.size, 0, none⟩ = some (.slice a xs.length c) := (hb.cell (p := ⟨w.heap.size, 0, none⟩) (by rw [K.out.2.2]; show w.heap.size < _; omega)).trans K.out.2.1
      have HB1 := Lib.hid (K.out.1.trans (hb.mono (by rw [K.out.2.2]; omega)))
      have hsome : (pieces (bl s)).isSome = true := by rw [HP.out]; rfl
      rw [hsome]
      clear hb hsome
      go_wp2_with fail
      refine (FT2.out w1 HB1.out).mono ?_
      rintro e w2 ⟨rfl, hb⟩
      have HB2 := Lib.hid (HB1.out.trans (hb.mono HB1.out.size))
      clear hb
      go_wp2
      go_ret2
      exact ⟨by rw [HR.out]; rfl, HB2.out⟩
end Go.Proofs.Ytgdiffdpjpkleaa
