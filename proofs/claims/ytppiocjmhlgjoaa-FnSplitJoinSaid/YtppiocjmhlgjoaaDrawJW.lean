/-
  Contract of the model's DrawJoinStrings: a list of texts of bounded size in memory, and a separator. Used by the claim on FnSplitJoin.
-/
import Derived.Test.YtppiocjmhlgjoaaDrawsW
import Derived.Test.YtppiocjmhlgjoaaTextsW
namespace Go.Proofs.Ytppiocjmhlgjoaa
open Go.RowKit
set_option linter.unusedVariables false

theorem infoByte : (Try.prog.info? 5).map (fun i => (i.zero, i.size, i.bytes)) = some (some (.int .u8 0), 1, 1) := by kernel_rfl

/-- A text of n zero bytes. -/
def zeros (n : Nat) : ByteArray := ⟨(List.replicate n (0 : UInt8)).toArray⟩
theorem zeros_size (n : Nat) : (zeros n).size = n := by
  show (List.replicate n (0 : UInt8)).toArray.size = n
  simp
theorem make_bytes (n : Nat) (hn : n ≤ 1048576) (x : Int) (hx : x = (n : Int)) (w : World) :
    (Instr.makeSlice 22 (.int .i64 x) (.int .i64 x)).run Try.prog w = .ok (.slice (some ⟨w.heap.size, 0, none⟩) n n) (w.alloc (.cells (madeCells #[.int .u8 0] n) 5)) := by
  subst hx
  exact run_make_row' (P := Try.prog) 22 5 (.int .u8 0) 1 Try.underlying22 infoByte rfl .i64 .i64 n (by omega) (by omega) w
theorem conv_zeros (n : Nat) (w : World) :
    (convert 22 9 (.slice (some ⟨w.heap.size, 0, none⟩) n n)).run Try.prog (w.alloc (.cells (madeCells #[.int .u8 0] n) 5)) = .ok (.string (zeros n)) (w.alloc (.cells (madeCells #[.int .u8 0] n) 5)) := by
  have h := run_convert_bytes_back (P := Try.prog) (w.alloc (.cells (madeCells #[.int .u8 0] n) 5)) 22 9 5 ⟨w.heap.size, 0, none⟩ n (List.replicate n 0) Try.underlying22 Try.underlying5 Try.underlying9 (fun j hj => by
    rw [Addr.add_lit, Nat.zero_add, (World.rowIs_made w (.int .u8 0) n 5).cell (by simpa using hj)]
    simp)
  rw [List.length_replicate] at h
  exact h

def JoinDraw (w : World) (e : Ending) (w' : World) : Prop := ∃ a b c xs mark, e = .returned (.tuple #[.slice a xs.length c, .string mark]) ∧ Src w' a b 0 xs ∧ xs.length ≤ c ∧ xs.length + bulk xs ≤ 1048576 ∧ mark.size ≤ 10 ∧ Below w.heap.size w w'
def markTexts : List ByteArray := [⟨#[44]⟩, ⟨#[59]⟩, ⟨#[59]⟩, ⟨#[]⟩, ⟨#[97, 98]⟩]
theorem markTexts_size : ∀ x ∈ markTexts, x.size ≤ 10 := by decide

theorem src_of_row {w : World} {base n : Nat} {v : Value} {xs : List ByteArray} (h : w.ownsRow base 9 1 v n (xs.map Value.string)) (hn : n = xs.length) : ∃ a b c, v = .slice a xs.length c ∧ Src w a b 0 xs ∧ xs.length ≤ c := by
  subst hn
  rcases h.2 with ⟨rfl, h0⟩ | ⟨g, cap, cur, rfl, _, _, hc, _⟩
  · obtain rfl : xs = [] := List.eq_nil_of_length_eq_zero h0
    exact ⟨none, 0, 0, rfl, ⟨fun h => by simp at h, fun j x hx => by simp at hx⟩, Nat.le_refl _⟩
  · refine ⟨some ⟨g, 0, none⟩, g, cap, rfl, ⟨fun _ => rfl, fun j x hx => ?_⟩, hc⟩
    have := h.cells (g := g) rfl j (.string x) (by simp [hx])
    rwa [Addr.add_lit] at this
theorem bulk_le (xs : List ByteArray) (k : Nat) (h : ∀ x ∈ xs, x.size ≤ k) : bulk xs ≤ xs.length * k := by
  induction xs with
  | nil => simp [bulk]
  | cons y r ih =>
    have h1 := h y (by simp)
    have h2 := ih (fun x hx => h x (by simp [hx]))
    simp only [bulk, List.map_cons, List.sum_cons, List.length_cons] at h2 ⊢
    rw [Nat.succ_mul]; omega

theorem drawJoin (a : Option Addr) (len cap : Nat) (w : World) (h : CodeIn w a len) (hl : len ≤ 65536) : Calls Try.prog 11 #[.slice a len cap] w (JoinDraw w) := by
  obtain ⟨i0, hi, hz0, hz1, hz2⟩ := info_parts infoStr
  have HC := Lib.hid (cur_new (cap := cap) h hl)
  clear h
  go_enter Try.func11, Try.ntmps11
  go_wp2_with fail
  refine (pick_any w.heap.size 0 4 _ (Cur.keep HC.out ((Below.refl _ _).alloc (Nat.le_refl _) _) (by simp)) (by omega) (by omega) (by omega)).mono ?_
  rintro e w1 ⟨n, rfl, hn, hc, hg⟩
  have R0 : (((w.alloc (.cells #[.slice a len cap, .int .i64 0, .int .u64 0] 44)).alloc (.cells #[] 9))).ownsRow (w.heap.size + 1) 9 1 (.slice (some ⟨w.heap.size + 1, 0, none⟩) 0 0) 0 [] := by
    have := World.ownsRow_made (base := w.heap.size + 1) (e := 9) (size := 1) (w.alloc (.cells #[.slice a len cap, .int .i64 0, .int .u64 0] 44)) #[] 0 (by simp) (by unfold maxLen; omega) rfl
    simpa using this
  have R1 := Lib.hid (R0.kept hg (.inr (by simp [Value.ownBlock])))
  have HC1 := Lib.hid hc
  have HB1 : Hid (Below w.heap.size w w1) := Lib.hid ((((Below.refl w.heap.size w).alloc (Nat.le_refl _) _).alloc (by simp) _).grown hg (by simp; omega) (fun k e => by cases e; exact Nat.le_refl _))
  have HZ1 : Hid (w.heap.size + 2 ≤ w1.heap.size) := Lib.hid (by have := hg.size; simpa using this)
  clear hc hg R0 HC
  go_wp2
  go_loopw [5, 7] (fun v i wr => ∃ (k : Nat) (ps : List ByteArray), i = .int .i64 k ∧ k ≤ n ∧ ps.length = k ∧ Hid (∀ x ∈ ps, x.size ≤ 10) ∧ wr.ownsRow (w.heap.size + 1) 9 1 v ps.length (ps.map Value.string) ∧ Hid (Cur wr w.heap.size (2 + 2 * k)) ∧ Hid (Below w.heap.size w wr) ∧ Hid (w.heap.size + 2 ≤ wr.heap.size)) (fun _ i _ => n - (intOf i).toNat)
  case atStart => exact ⟨0, [], rfl, Nat.zero_le _, rfl, Lib.hid (by simp), R1.out, HC1.out, HB1.out, HZ1.out⟩
  case round =>
    obtain ⟨k, ps, rfl, hk, hpk, HP, hown, HCu, HB, HZ⟩ := hrel
    have HPK := Lib.hid hpk
    have HO := Lib.hid hown
    clear hpk hown
    by_cases hlt : k < n
    · go_wp2_with fail
      refine (any1_any w.heap.size (2 + 2 * k) _ HCu.out (by omega)).mono ?_
      rintro e w2 ⟨x, rfl, hx, hc, hg⟩
      have hown := HO.out.kept hg (by
        rcases HO.out.2 with ⟨rfl, _⟩ | ⟨g, cap, cur, rfl, hbg, _⟩
        · exact .inl rfl
        · exact .inr (by simp only [Value.ownBlock]; intro e; injection e with e; omega))
      have HC2 := Lib.hid hc
      have HB2 : Hid (Below w.heap.size w w2) := Lib.hid (HB.out.grown hg HB.out.size (fun k e => by cases e; exact Nat.le_refl _))
      have hzz : w.heap.size + 2 ≤ w2.heap.size := Nat.le_trans HZ.out hg.size
      clear hc hg
      have hpl : ps.length ≤ 4 := by have := HPK.out; omega
      go_wp2_with (at_builtin; refine wpList_append_own _ rfl _ _ 26 rfl (w.heap.size + 1) 9 i0 (.string ByteArray.empty) 1 16 Try.underlying26 hi hz0 hz1 hz2 rfl (by decide) _ _ _ rfl (hown.alloc _) ⟨w2.heap.size, 0, none⟩ 1 1 [.string x] rfl rfl (cell_one_new _ _ _) (by simp [Value.oneCell']) (by unfold maxLen; omega) (by omega) (by simp; omega) ?_; intro v' w3 hown' hgrow _)
      have HW : Hid (w3.ownsRow (w.heap.size + 1) 9 1 v' (ps ++ [x]).length ((ps ++ [x]).map Value.string)) := Lib.hid (by simpa using hown')
      have hb3 : Below (w.heap.size + 1) w2 w3 := ((Below.refl _ w2).alloc (by omega) _).grown hgrow (by simp; omega) (fun j e => (hown.lt j e).1)
      have HF : Hid (Cur w3 w.heap.size (2 + 2 * (k + 1)) ∧ Below w.heap.size w w3 ∧ w.heap.size + 2 ≤ w3.heap.size ∧ (∀ y ∈ ps ++ [x], y.size ≤ 10)) :=
        ⟨(HC2.out.keep hb3 (by omega)).mono (by omega), HB2.out.trans (hb3.mono (by omega)), Nat.le_trans hzz hb3.size, fun y hy => by
          rcases List.mem_append.1 hy with hy | hy
          · exact HP.out y hy
          · simp only [List.mem_singleton] at hy; subst hy; exact hx⟩
      clear hown' hgrow hb3 hown hzz hpl
      go_roundw
      case rel => exact ⟨k + 1, ps ++ [x], by go_num, by omega, by have := HPK.out; simp; omega, HF.out.2.2.2, HW.out, HF.out.1, HF.out.2.1, HF.out.2.2.1⟩
      case measure => simp [intOf]; omega
    · obtain rfl : k = n := by omega
      go_wp2_with fail
      refine (one_any w.heap.size (2 + 2 * k) 20 _ HCu.out (by omega) (by omega) (by omega)).mono ?_
      rintro e w2 ⟨b, rfl, hc, hg⟩
      have hown := HO.out.kept hg (by
        rcases HO.out.2 with ⟨rfl, _⟩ | ⟨g, cap, cur, rfl, hbg, _⟩
        · exact .inl rfl
        · exact .inr (by simp only [Value.ownBlock]; intro e; injection e with e; omega))
      have HO2 := Lib.hid hown
      have HC2 := Lib.hid hc
      have HB2 : Hid (Below w.heap.size w w2) := Lib.hid (HB.out.grown hg HB.out.size (fun k e => by cases e; exact Nat.le_refl _))
      have HZ2 : Hid (w.heap.size + 2 ≤ w2.heap.size) := Lib.hid (Nat.le_trans HZ.out hg.size)
      clear hc hg hown
      cases b
      · go_wp2_with fail
        refine (of_new w.heap.size _ 5 markTexts _ HC2.out (by omega) rfl (by omega) (by omega)).mono ?_
        rintro e w3 ⟨mk, rfl, hm, hc, hg⟩
        have hown3 := HO2.out.kept hg (by
          rcases HO2.out.2 with ⟨rfl, _⟩ | ⟨g, cap, cur, rfl, hbg, _⟩
          · exact .inl rfl
          · exact .inr (by simp only [Value.ownBlock]; intro e; injection e with e; omega))
        obtain ⟨sa, sb, sc, rfl, hsrc, hsc⟩ := src_of_row hown3 rfl
        have HF : Hid (Src w3 sa sb 0 ps ∧ ps.length ≤ sc ∧ ps.length + bulk ps ≤ 1048576 ∧ mk.size ≤ 10 ∧ Below w.heap.size w w3) :=
          ⟨hsrc, hsc, by have h1 := bulk_le ps 10 HP.out; have h2 := HPK.out; omega, markTexts_size mk hm, HB2.out.grown hg HB2.out.size (fun k e => by cases e; exact Nat.le_refl _)⟩
        clear hm hc hg hown3 hsrc hsc
        go_wp2
        go_ret2
        exact ⟨sa, sb, sc, ps, mk, rfl, HF.out⟩
      · go_wp2_with fail
        refine (pick_any w.heap.size _ 20 _ HC2.out (by omega) (by omega) (by omega)).mono ?_
        rintro e w3 ⟨q, rfl, hq, hc, hg⟩
        have hown := HO2.out.kept hg (by
          rcases HO2.out.2 with ⟨rfl, _⟩ | ⟨g, cap, cur, rfl, hbg, _⟩
          · exact .inl rfl
          · exact .inr (by simp only [Value.ownBlock]; intro e; injection e with e; omega))
        have HC3 := Lib.hid hc
        have HB3 : Hid (Below w.heap.size w w3) := Lib.hid (HB2.out.grown hg HB2.out.size (fun k e => by cases e; exact Nat.le_refl _))
        have hzz : w.heap.size + 2 ≤ w3.heap.size := Nat.le_trans HZ2.out hg.size
        clear hc hg
        have hpl : ps.length ≤ 4 := by have := HPK.out; omega
        have hmk := make_bytes (3990 + q) (by omega) (3990 + (q : Int)) (by omega)
        have hcv := conv_zeros (3990 + q) w3
        go_wp2_with (at_builtin; refine wpList_append_own _ rfl _ _ 26 rfl (w.heap.size + 1) 9 i0 (.string ByteArray.empty) 1 16 Try.underlying26 hi hz0 hz1 hz2 rfl (by decide) _ _ _ rfl ((hown.alloc _).alloc _) ⟨w3.heap.size + 1, 0, none⟩ 1 1 [.string (zeros (3990 + q))] rfl (by simp) (by have := cell_one_new (w3.alloc (.cells (madeCells #[.int .u8 0] (3990 + q)) 5)) (.string (zeros (3990 + q))) 9; simpa using this) (by simp [Value.oneCell']) (by unfold maxLen; omega) (by omega) (by simp; omega) ?_; intro v' w4 hown' hgrow _)
        have HW : Hid (w4.ownsRow (w.heap.size + 1) 9 1 v' (ps ++ [zeros (3990 + q)]).length ((ps ++ [zeros (3990 + q)]).map Value.string)) := Lib.hid (by simpa using hown')
        have hb4 : Below (w.heap.size + 1) w3 w4 := (((Below.refl _ w3).alloc (by omega) _).alloc (by simp; omega) _).grown hgrow (by simp; omega) (fun j e => (hown.lt j e).1)
        have HC4 : Hid (Cur w4 w.heap.size (2 + 2 * k + 2 + 2)) := Lib.hid (HC3.out.keep hb4 (by omega))
        have HB4 : Hid (Below w.heap.size w w4) := Lib.hid (HB3.out.trans (hb4.mono (by omega)))
        have HZ4 : Hid (w.heap.size + 2 ≤ w4.heap.size) := Lib.hid (Nat.le_trans hzz hb4.size)
        have HK : Hid (k ≤ 4) := Lib.hid (by omega)
        clear hown' hgrow hb4 hown hzz
        refine (of_new w.heap.size _ 5 markTexts _ HC4.out (by have := HK.out; omega) rfl (by omega) (by omega)).mono ?_
        rintro e w5 ⟨mk, rfl, hm, hc, hg⟩
        have hown5 := HW.out.kept hg (by
          rcases HW.out.2 with ⟨rfl, _⟩ | ⟨g, cap, cur, rfl, hbg, _⟩
          · exact .inl rfl
          · exact .inr (by simp only [Value.ownBlock]; intro e; injection e with e; omega))
        obtain ⟨sa, sb, sc, rfl, hsrc, hsc⟩ := src_of_row hown5 rfl
        have HF : Hid (Src w5 sa sb 0 (ps ++ [zeros (3990 + q)]) ∧ (ps ++ [zeros (3990 + q)]).length ≤ sc ∧ (ps ++ [zeros (3990 + q)]).length + bulk (ps ++ [zeros (3990 + q)]) ≤ 1048576 ∧ mk.size ≤ 10 ∧ Below w.heap.size w w5) :=
          ⟨hsrc, hsc, by
            have h1 := bulk_le ps 10 HP.out
            have h2 : bulk (ps ++ [zeros (3990 + q)]) = bulk ps + (3990 + q) := by simp [bulk, zeros_size]
            have h3 : (ps ++ [zeros (3990 + q)]).length = ps.length + 1 := by simp
            omega, markTexts_size mk hm, HB4.out.grown hg HB4.out.size (fun k e => by cases e; exact Nat.le_refl _)⟩
        clear hm hc hg hown5 hsrc hsc
        go_wp2
        go_ret2
        exact ⟨sa, sb, sc, ps ++ [zeros (3990 + q)], mk, by rw [List.length_append]; rfl, HF.out⟩
end Go.Proofs.Ytppiocjmhlgjoaa
