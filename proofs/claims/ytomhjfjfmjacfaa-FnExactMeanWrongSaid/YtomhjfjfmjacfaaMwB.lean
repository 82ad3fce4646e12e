/-
  MeanWrong of the program. Used by the claims on chapter 7.
-/
import Derived.Test.YtomhjfjfmjacfaaRgB
import Derived.Test.YtomhjfjfmjacfaaMsgB
namespace Go.Proofs.Ytomhjfjfmjacfaa
open Go.RowKit
set_option linter.unusedVariables false

/-! ### Plain -/
theorem msg_signN {n : Nat} : ∀ {b : Bool} {m : Bs}, msgGo n b m = true → ∀ u ∈ m, u = 32 ∨ inRow n u = true
  | _, [], _, u, hu => by cases hu
  | b, c :: r, h, u, hu => by
    by_cases hc : c = 32
    · subst hc
      rw [msgGo_space, Bool.and_eq_true] at h
      rcases List.mem_cons.1 hu with rfl | hu
      · exact .inl rfl
      · exact msg_signN h.2 u hu
    · rw [msgGo_row hc, Bool.and_eq_true] at h
      rcases List.mem_cons.1 hu with rfl | hu
      · exact .inr h.1
      · exact msg_signN h.2 u hu
theorem msg_signM {n : Nat} {m : Bs} (h : msgL n m = true) : m.length ≤ 12 ∧ ∀ u ∈ m, u = 32 ∨ inRow n u = true := by
  simp only [msgL, Bool.and_eq_true, Bool.or_eq_true, decide_eq_true_eq] at h
  refine ⟨h.1, fun u hu => ?_⟩
  rcases h.2 with h2 | h2
  · rw [List.isEmpty_iff] at h2; subst h2; cases hu
  · exact msg_signN h2 u hu
/-- The parts in which a letter of the message does not come as it is; nothing for a gap. -/
def wrC (p q : Nat) (xs : List ByteArray) (u : UInt8) : List Nat := if u = 32 then [] else [allN p q - ptN p q (bl (xs.getD (u.toNat - 97) ⟨#[]⟩)) (bl (xs.getD (u.toNat - 97) ⟨#[]⟩))]
def wrL (p q : Nat) (xs : List ByteArray) (m : Bs) : List Nat := m.flatMap (wrC p q xs)
theorem wr_succ {p q : Nat} {xs : List ByteArray} {m : Bs} {k : Nat} {u : UInt8} (h : m[k]? = some u) : wrL p q xs (m.take (k + 1)) = wrL p q xs (m.take k) ++ wrC p q xs u := by
  unfold wrL
  rw [List.take_add_one, h, List.flatMap_append]; simp
theorem wr_bounds (p q : Nat) (xs : List ByteArray) : ∀ m : Bs, (wrL p q xs m).length ≤ m.length ∧ (wrL p q xs m).sum ≤ m.length * allN p q
  | [] => by simp [wrL]
  | c :: r => by
    obtain ⟨h1, h2⟩ := wr_bounds p q xs r
    have e : wrL p q xs (c :: r) = wrC p q xs c ++ wrL p q xs r := by simp [wrL]
    rw [e, List.length_append, List.sum_append, List.length_cons, Nat.add_mul, Nat.one_mul]
    unfold wrC
    split
    · simp; omega
    · simp; omega
def mwB (N d : Int) (xs : List ByteArray) (m : ByteArray) : Bool := (tableB xs && msgL xs.length (bl m)) && goodN N d
def mwR (N d : Int) (xs : List ByteArray) (m : ByteArray) : (Nat × Nat) × Bool :=
  if mwB N d xs m = true then (cutN (wrL N.toNat (d - N).toNat xs (bl m)).sum (allN N.toNat (d - N).toNat), true) else ((0, 0), false)
theorem mw_no {N d : Int} {xs : List ByteArray} {m : ByteArray} (h : mwB N d xs m = false) : mwR N d xs m = ((0, 0), false) := if_neg (by rw [h]; decide)
theorem mw_yes {N d : Int} {xs : List ByteArray} {m : ByteArray} (ht : tableB xs = true) (hm : msgL xs.length (bl m) = true) (hg : goodN N d = true) : ∃ p q e : Nat, N = (p : Int) ∧ d = (e : Int) ∧ e = p + q ∧ 1 ≤ e ∧ e ≤ 100 ∧ mwR N d xs m = (cutN (wrL p q xs (bl m)).sum (allN p q), true) := by
  obtain ⟨p, q, hN, hd, g1, g2⟩ := goodN_iff.1 hg
  refine ⟨p, q, p + q, hN, hd, rfl, g1, g2, ?_⟩
  unfold mwR mwB
  rw [ht, hm, hg, if_pos (by rfl), hN, hd]
  have e3 : (p : Int).toNat = p := by omega
  have e4 : (((p + q : Nat) : Int) - (p : Int)).toNat = q := by omega
  rw [e3, e4]

def ltC (p q : Nat) (xs : List ByteArray) (u : UInt8) : ByteArray := xs.getD (u.toNat - 97) ⟨#[]⟩

set_option maxHeartbeats 4000000 in
set_option maxRecDepth 20000 in
theorem meanWrong_any (a : Option Addr) (b o c : Nat) (xs : List ByteArray) (N d : Int) (m : ByteArray) (w : World) (h : ListIn w a b o xs) (hms : m.size ≤ maxLen) :
    Calls Try.prog 39 #[.agg #[.slice a xs.length c], .agg #[.int .i64 N, .int .i64 d], .string m] w fun e w' => e = .returned (.tuple #[.agg #[.int .i64 ((mwR N d xs m).1.1 : Int), .int .i64 ((mwR N d xs m).1.2 : Int)], .bool (mwR N d xs m).2]) ∧ Below w.heap.size w w' := by
  obtain ⟨i0, hi, hz0, hz1, hz2⟩ := info_parts infoPair
  have HC0 := Lib.hid (carT_new w a b o c xs N d h)
  have HC := Lib.hid (HC0.out.step (below_alloc _ (.cells #[.int .i64 0, .int .i64 0] 28)))
  have HT := Lib.hid (res_new w (.cells #[.slice a xs.length c] 38) (.cells #[.int .i64 N, .int .i64 d] 25))
  have F1 := Lib.hid fun W h => isMessage_any a b o c xs m W h hms
  have F2 := Lib.hid fun W => isNoise_any N d W
  have l1 := HC.out.tab
  clear HC0
  by_cases hv : tableB xs = true ∧ msgL xs.length (bl m) = true
  rotate_left
  · have HR := Lib.hid (mw_no (N := N) (d := d) (xs := xs) (m := m) (by
      unfold mwB
      cases e1 : tableB xs <;> cases e2 : msgL xs.length (bl m) <;> simp_all))
    rw [HR.out]
    have hb0 : (tableB xs && msgL xs.length (bl m)) = false := by
      cases e1 : tableB xs <;> cases e2 : msgL xs.length (bl m) <;> simp_all
    rw [hb0] at F1
    generalize tableB xs = tb at F1
    clear hv h hb0
    cases tb <;> (
      go_enter Try.func39, Try.ntmps39
      go_wp2_with fail
      refine (F1.out _ HC.out.lst).mono ?_
      rintro e w1 ⟨rfl, hb⟩
      have HC1 := Lib.hid (HC.out.step hb)
      have HT2 := Lib.hid (HT.out.below hb)
      have f0 := HT2.out.frozen 0
      have f1 := HT2.out.frozen 1
      have k0 := HT2.out.cell0
      have k1 := HT2.out.cell1
      clear hb l1
      go_wp2
      refine bodyPost_ret (res_two rfl _ rfl ((HT2.out.set0 _).set1 _)) rfl ?_
      exact ⟨rfl, (HC1.out.below.setCell (p := ⟨w.heap.size + 1 + 1, 0, none⟩) (by simp; omega) _).setCell (p := ⟨w.heap.size + 1 + 1, 1, none⟩) (by simp; omega) _⟩)
  · obtain ⟨ht, hm⟩ := hv
    rw [ht, hm] at F1
    cases hg : goodN N d with
    | false =>
      have HR := Lib.hid (mw_no (N := N) (d := d) (xs := xs) (m := m) (by unfold mwB; rw [hg, Bool.and_false]))
      rw [HR.out]
      rw [hg] at F2
      clear ht hm h hg
      go_enter Try.func39, Try.ntmps39
      go_wp2_with fail
      refine (F1.out _ HC.out.lst).mono ?_
      rintro e w1 ⟨rfl, hb⟩
      have HC1 := Lib.hid (HC.out.step hb)
      have HT1 := Lib.hid (HT.out.below hb)
      have k0 := HC1.out.noi.cell0
      have k1 := HC1.out.noi.cell1
      clear hb l1
      go_wp2_with fail
      refine (F2.out _).mono ?_
      rintro e w2 ⟨rfl, hb⟩
      have HC2 := Lib.hid (HC1.out.step hb)
      have HT2 := Lib.hid (HT1.out.below hb)
      clear hb k0 k1
      have f0 := HT2.out.frozen 0
      have f1 := HT2.out.frozen 1
      have k0 := HT2.out.cell0
      have k1 := HT2.out.cell1
      go_wp2
      refine bodyPost_ret (res_two rfl _ rfl ((HT2.out.set0 _).set1 _)) rfl ?_
      exact ⟨rfl, (HC2.out.below.setCell (p := ⟨w.heap.size + 1 + 1, 0, none⟩) (by simp; omega) _).setCell (p := ⟨w.heap.size + 1 + 1, 1, none⟩) (by simp; omega) _⟩
    | true =>
      rw [hg] at F2
      obtain ⟨p, q, e, rfl, rfl, he, g1, g2, hR⟩ := mw_yes ht hm hg
      rw [hR]
      have hA := allN_le (p := p) (q := q) (by omega) (by omega)
      have hA0 := allN_pos (p := p) (q := q) (by omega)
      have hn := ((tableB_iff xs).1 ht).1
      have hn10 := hn.2
      obtain ⟨hm12, hsg⟩ := msg_signM hm
      obtain ⟨hwl, hws⟩ := wr_bounds p q xs (bl m)
      have hS2 : (wrL p q xs (bl m)).sum ≤ 1000000000000 := Nat.le_trans hws (Nat.le_trans (Nat.mul_le_mul hm12 hA) (by decide))
      have HG := Lib.hid fun (y : ByteArray) (W : World) (hy : marksL (bl y) = true) => chanceComes_any p q e y y W he g1 g2 hy hy
      have HMk := Lib.hid ((tableB_iff xs).1 ht).2.1
      have HRs : Hid (∀ (y : ByteArray) (W : World), marksL (bl y) = true → Calls Try.prog 68 #[.agg #[.int .i64 (((frN p q (bl y) (bl y)).1 : Nat) : Int), .int .i64 (((frN p q (bl y) (bl y)).2 : Nat) : Int)]] W fun e' w' => e' = .returned (.agg #[.int .i64 (((cutN (allN p q - ptN p q (bl y) (bl y)) (allN p q)).1 : Nat) : Int), .int .i64 (((cutN (allN p q - ptN p q (bl y) (bl y)) (allN p q)).2 : Nat) : Int)]) ∧ Below W.heap.size W w') := Lib.hid fun y W hy => by
        have hle := ptN_le (p := p) (q := q) (x := bl y) (y := bl y) (marks_len hy).2
        rw [← cut_rest hA0 hle]
        exact rest_any _ _ W (cut_le hle) (Nat.le_trans (cut_le2 _ _) (by omega))
      have HSg := Lib.hid hsg
      have HSu := Lib.hid fun (k : Nat) (u : UInt8) (hu : (bl m)[k]? = some u) => wr_succ (p := p) (q := q) (xs := xs) hu
      have HFin : Hid (wrL p q xs ((bl m).take m.size) = wrL p q xs (bl m)) := Lib.hid (by rw [← bl_len m, List.take_length])
      have HWl : Hid (∀ k, (wrL p q xs ((bl m).take k)).length ≤ 12) := Lib.hid fun k => Nat.le_trans (wr_bounds p q xs _).1 (by rw [List.length_take]; omega)
      have G := Lib.hid fun (a' : Option Addr) (g' c' : Nat) (W : World) (hs : SrcV W a' g' (prs (frs (allN p q) (wrL p q xs (bl m))))) => sumOf_any a' g' (wrL p q xs (bl m)).length c' (allN p q) (wrL p q xs (bl m)) W rfl hs hA0 hA hS2 (by omega)
      generalize (cutN (wrL p q xs (bl m)).sum (allN p q)).1 = r1 at G ⊢
      generalize (cutN (wrL p q xs (bl m)).sum (allN p q)).2 = r2 at G ⊢
      have M0 : Hid (∀ W : World, w.heap.size + 1 + 1 + 1 ≤ W.heap.size → (W.alloc (Obj.cells #[] 28)).ownsRow (w.heap.size + 1 + 1 + 1) 28 2 (.slice (some ⟨W.heap.size, 0, none⟩) 0 0) 0 (prs [])) := Lib.hid fun W hW => World.ownsRow_made (base := w.heap.size + 1 + 1 + 1) (e := 28) (size := 2) W #[] 0 hW (by unfold maxLen; omega) rfl
      have HLi := Lib.hid h
      clear ht hm hg hR hA hA0 hn hm12 hsg hwl hws hS2 he g1 g2 h
      go_enter Try.func39, Try.ntmps39
      go_wp2_with fail
      refine (F1.out _ HC.out.lst).mono ?_
      rintro e' w1 ⟨rfl, hb⟩
      have HC1 := Lib.hid (HC.out.step hb)
      have HT1 := Lib.hid (HT.out.below hb)
      have k0 := HC1.out.noi.cell0
      have k1 := HC1.out.noi.cell1
      clear hb l1
      go_wp2_with fail
      refine (F2.out _).mono ?_
      rintro e' w2 ⟨rfl, hb⟩
      have HC2 := Lib.hid (HC1.out.step hb)
      have HT2 := Lib.hid (HT1.out.below hb)
      have HO2 := Lib.hid (M0.out w2 (by have := HT2.out; have := (Array.getElem?_eq_some_iff.1 this).1; omega))
      have HI2 : Hid (((w2.alloc (Obj.cells #[] 28)).alloc (.stringIter m 0)).heap[w2.heap.size + 1]? = some (.stringIter m 0)) := Lib.hid (by
        have := World.iter_heap (w2.alloc (Obj.cells #[] 28)) m 0
        rw [show (w2.alloc (Obj.cells #[] 28)).heap.size = w2.heap.size + 1 by simp] at this
        exact this)
      have HGI : Hid (w.heap.size + 1 + 1 + 1 ≤ w2.heap.size + 1) := Lib.hid (by have := HT2.out; have := (Array.getElem?_eq_some_iff.1 this).1; omega)
      clear hb k0 k1
      go_wp2
      go_loopw [10] (fun sv wr => ∃ pos : Nat, wr.heap[w2.heap.size + 1]? = some (.stringIter m pos) ∧ pos ≤ m.size ∧ wr.ownsRow (w.heap.size + 1 + 1 + 1) 28 2 sv (wrL p q xs ((bl m).take pos)).length (prs (frs (allN p q) (wrL p q xs ((bl m).take pos)))) ∧ Hid (CarT w a b o c xs w.heap.size (w.heap.size + 1) (p : Int) (e : Int) wr) ∧ Hid (Two wr (w.heap.size + 1 + 1) 0 0)) (fun _ wr => m.size - wr.iterPos (w2.heap.size + 1))
      case atStart => exact ⟨0, HI2.out, Nat.zero_le _, HO2.out.alloc _, Lib.hid ((HC2.out.step (below_alloc w2 _)).step (below_alloc _ _)), Lib.hid (other_alloc (other_alloc HT2.out _) _)⟩
      case round =>
        clear HO2 HI2 HC2 HT2 HC1 HT1 HC HT
        obtain ⟨pos, hit, hp, hown, HCr, HTr⟩ := hrel
        obtain ⟨av, capv, rfl⟩ := row_form hown
        have HP := Lib.hid (iterPos_of hit)
        by_cases hlt : pos < m.size
        · obtain ⟨r, wd, hde, hr, hwd, hcase⟩ := sign_at m pos hlt
          have hnx : ∀ ty, (Instr.next (.pointer (some ⟨w2.heap.size + 1, 0, none⟩)) true ty).run Try.prog wr = _ := fun ty => Lib.run_next_any_at wr (w2.heap.size + 1) m pos ty hit hlt
          have hit2 := Lib.iterAt_heap wr (w2.heap.size + 1) m pos (pos + wd) hit
          have hown2 := row_iter hown hit (pos + wd)
          have hbi : Below (w.heap.size + 1 + 1 + 1) wr (wr.iterAt (w2.heap.size + 1) m (pos + wd)) := Lib.below_iterAt (Below.refl _ wr) (k := w2.heap.size + 1) HGI.out m (pos + wd)
          have HCi := Lib.hid (HCr.out.grow HLi.out (hbi.mono (by omega)))
          have HTi : Hid (Two (wr.iterAt (w2.heap.size + 1) m (pos + wd)) (w.heap.size + 1 + 1) 0 0) := Lib.hid ((hbi.block (w.heap.size + 1 + 1) (by omega)).trans HTr.out)
          rw [hde] at hnx
          simp only at hnx
          have hu := HSg.out _ (List.mem_of_getElem? (bl_at m pos hlt))
          have hu2 : m[pos] = 32 ∨ (97 ≤ m[pos].toNat ∧ m[pos].toNat < 97 + xs.length) := by
            rcases hu with h | h
            · exact .inl h
            · right; unfold inRow at h; simpa using h
          obtain ⟨hr2, rfl⟩ : r = (m[pos]).toNat ∧ wd = 1 := by
            rcases hcase with ⟨_, h2, h3⟩ | ⟨_, h2⟩
            · exact ⟨h2, h3⟩
            · rcases hu2 with h | h
              · rw [h] at h2; exact absurd h2 (by decide)
              · omega
          have HS := Lib.hid (HSu.out pos _ (bl_at m pos hlt))
          obtain ⟨W1, hW1⟩ : ∃ W1, W1 = wr.iterAt (w2.heap.size + 1) m (pos + 1) := ⟨_, rfl⟩
          rw [← hW1] at hnx hit2 hown2 HCi HTi
          clear hW1 hit hde hcase hwd hown hu hbi
          generalize m[pos] = u at *
          by_cases h32 : u = 32
          · have hr32 : r = 32 := by rw [hr2, h32]; rfl
            have HE : Hid (wrL p q xs ((bl m).take (pos + 1)) = wrL p q xs ((bl m).take pos)) := Lib.hid (by rw [HS.out, wrC, if_pos h32, List.append_nil])
            subst hr32
            have HOw := Lib.hid hown2
            clear h32 hr2 hu2 hown2
            go_wp2
            go_roundw
            case rel => exact ⟨pos + 1, hit2, by omega, by rw [HE.out]; exact HOw.out, HCi, HTi⟩
            case measure => rw [iterPos_of hit2, HP.out]; omega
          · have hu3 : 97 ≤ u.toNat ∧ u.toNat < 97 + xs.length := hu2.resolve_left h32
            obtain ⟨i, hiu⟩ : ∃ i, u.toNat = i + 97 := ⟨u.toNat - 97, by omega⟩
            have hil : i < xs.length := by omega
            have hxi : xs[i]? = some xs[i] := List.getElem?_eq_getElem hil
            have hgd : xs.getD (u.toNat - 97) ⟨#[]⟩ = xs[i] := by rw [show u.toNat - 97 = i by omega, List.getD_eq_getElem?_getD, hxi]; rfl
            have hmy := HMk.out xs[i] (List.getElem_mem hil)
            have HE : Hid (wrL p q xs ((bl m).take (pos + 1)) = wrL p q xs ((bl m).take pos) ++ [allN p q - ptN p q (bl xs[i]) (bl xs[i])]) := Lib.hid (by rw [HS.out, wrC, if_neg h32, hgd])
            have d1 := HCi.out.lst.src.2 i _ hxi
            have hax := HCi.out.lst.src.1 (by omega)
            have l1 := HCi.out.tab
            have GY := Lib.hid fun W => HG.out xs[i] W hmy
            have GR := Lib.hid fun W => HRs.out xs[i] W hmy
            generalize xs[i] = y at *
            have HP2 : Hid (frs (allN p q) (wrL p q xs ((bl m).take (pos + 1))) = frs (allN p q) (wrL p q xs ((bl m).take pos)) ++ [((cutN (allN p q - ptN p q (bl y) (bl y)) (allN p q)).1, (cutN (allN p q - ptN p q (bl y) (bl y)) (allN p q)).2)]) := Lib.hid (by rw [HE.out]; simp [frs])
            have HLen : Hid ((wrL p q xs ((bl m).take (pos + 1))).length = (wrL p q xs ((bl m).take pos)).length + 1) := Lib.hid (by rw [HE.out, List.length_append]; rfl)
            have hl12 := HWl.out pos
            generalize (cutN (allN p q - ptN p q (bl y) (bl y)) (allN p q)).1 = s1 at HP2 GR
            generalize (cutN (allN p q - ptN p q (bl y) (bl y)) (allN p q)).2 = s2 at HP2 GR
            generalize (frN p q (bl y) (bl y)).1 = v1 at GY GR
            generalize (frN p q (bl y) (bl y)).2 = v2 at GY GR
            generalize wrL p q xs ((bl m).take pos) = pl at *
            obtain ⟨n, hnl⟩ : ∃ n, pl.length = n := ⟨_, rfl⟩
            rw [hnl] at hown2 HLen hl12 ⊢
            have hr32 : ((r : Int) == 32) = false := by
              have : ¬ r = 32 := fun e2 => h32 (UInt8.toNat_inj.1 (by rw [← hr2, e2]; rfl))
              simp; omega
            have hri : r = i + 97 := by rw [hr2, hiu]
            have j0 : (0 : Int) ≤ (i : Int) := by omega
            have j1 : (i : Int) < (xs.length : Int) := by omega
            have j3 : (r : Int) - 97 = (i : Int) := by omega
            have j4 : (r : Int) ≤ 107 := by omega
            have j5 : (97 : Int) ≤ (r : Int) := by omega
            have k0 := HCi.out.noi.cell0
            have k1 := HCi.out.noi.cell1
            have a1 : n + 1 ≤ maxLen := by unfold maxLen; omega
            have a2 : (n + 1) * 16 ≤ 140737488355328 := by omega
            have HOw := Lib.hid hown2
            have HIt := Lib.hid hit2
            have HHl := Lib.hid hlt
            subst hax
            clear hxi hmy hgd h32 hr2 hu2 hu3 hiu hown2 hit2 hnl hri hl12 hil hr
            go_wp2_with fail
            refine (GY.out _).mono ?_
            rintro e' w5 ⟨rfl, hb5⟩
            go_wp2_with fail
            refine (GR.out _).mono ?_
            rintro e' w6 ⟨rfl, hb6⟩
            have HC6 := Lib.hid ((HCi.out.step hb5).step hb6)
            have HT6 := Lib.hid ((HTi.out.below hb5).below hb6)
            have hown6 := row_below (row_below HOw.out hb5) hb6
            have hgl : w2.heap.size + 1 < W1.heap.size := (Array.getElem?_eq_some_iff.1 HIt.out).1
            have hit6 : w6.heap[w2.heap.size + 1]? = some (.stringIter m (pos + 1)) := (hb6.block _ (Nat.lt_of_lt_of_le hgl hb5.size)).trans ((hb5.block _ hgl).trans HIt.out)
            have HLt : Hid (∀ z, (Value.slice av n capv).ownBlock = some z → w.heap.size + 1 + 1 + 1 ≤ z ∧ z < w6.heap.size) := Lib.hid hown6.lt
            have hsz : w.heap.size + 1 + 1 + 1 ≤ w6.heap.size := by have := HT6.out; have := (Array.getElem?_eq_some_iff.1 this).1; omega
            clear hb5 hb6 k0 k1 d1 l1 hgl
            go_wp2_with (at_builtin; refine wpList_append_lies _ rfl _ _ 42 rfl (w.heap.size + 1 + 1 + 1) 28 i0 (.agg #[.int .i64 0, .int .i64 0]) 2 16 Try.underlying42 hi hz0 hz1 hz2 rfl (by decide) (.slice av n capv) n (prs (frs (allN p q) pl)) rfl (hown6.alloc _) ⟨w6.heap.size, 0, none⟩ 1 1 [.int .i64 (s1 : Int), .int .i64 (s2 : Int)] rfl rfl (cell_two_new _ _ _ _) (by simp [Value.oneCell']) (by decide) a1 a2 (Nat.le_trans hsz (below_alloc w6 _).size) (w6.heap.size + 1) (by simp) ?_; intro gg cg w7 hownN hgrow hat hgl)
            have HW7 : Hid (w7.ownsRow (w.heap.size + 1 + 1 + 1) 28 2 (.slice (some ⟨gg, 0, none⟩) (n + 1) cg) (wrL p q xs ((bl m).take (pos + 1))).length (prs (frs (allN p q) (wrL p q xs ((bl m).take (pos + 1)))))) := Lib.hid (by
              rw [HLen.out, HP2.out, prs_snoc]
              exact hownN)
            have HBg : Hid (Below (w.heap.size + 1 + 1 + 1) (w6.alloc (.cells #[.int .i64 (s1 : Int), .int .i64 (s2 : Int)] 28)) w7) := Lib.hid ((Below.refl (w.heap.size + 1 + 1 + 1) _).grown hgrow (Nat.le_trans hsz (below_alloc w6 _).size) (fun z e => (HLt.out z e).1))
            have HC7 := Lib.hid ((HC6.out.step (below_alloc w6 _)).grow HLi.out (HBg.out.mono (by omega)))
            have HT7 : Hid (Two w7 (w.heap.size + 1 + 1) 0 0) := Lib.hid ((HBg.out.block (w.heap.size + 1 + 1) (by omega)).trans (other_alloc HT6.out _))
            have hit7 := iter_grown hown6 hit6 hgrow
            clear hownN hgrow hown6 a1 a2 hsz hat hgl hit6
            go_wp2
            go_roundw
            case rel => exact ⟨pos + 1, hit7, by have := HHl.out; omega, HW7.out, HC7, HT7⟩
            case measure => rw [iterPos_of hit7, HP.out]; have := HHl.out; omega
        · have hnx : ∀ ty, (Instr.next (.pointer (some ⟨w2.heap.size + 1, 0, none⟩)) true ty).run Try.prog wr = _ := fun ty => Lib.run_next_end_at wr (w2.heap.size + 1) m pos ty hit hlt
          obtain rfl : pos = m.size := by omega
          rw [HFin.out] at hown
          obtain ⟨a', g', c', hv, hs', _, _⟩ := seq_of_row hown
          injection hv with hv1 hv2 hv3
          subst hv1 hv3
          have HS := Lib.hid hs'
          have HLf : Hid ((wrL p q xs (bl m)).length = (wrL p q xs ((bl m).take m.size)).length) := Lib.hid (by rw [HFin.out])
          clear hown hs'
          rw [HFin.out]
          go_wp2_with fail
          refine (G.out _ g' _ _ HS.out).mono ?_
          rintro e' w5 ⟨rfl, hb⟩
          have HC5 := Lib.hid (HCr.out.step hb)
          have HT5 := Lib.hid (HTr.out.below hb)
          clear hb hnx
          have f0 := HT5.out.frozen 0
          have f1 := HT5.out.frozen 1
          have k0 := HT5.out.cell0
          have k1 := HT5.out.cell1
          go_wp2
          refine bodyPost_ret (res_two rfl _ rfl ((HT5.out.set0 _).set1 _)) rfl ?_
          exact ⟨rfl, (HC5.out.below.setCell (p := ⟨w.heap.size + 1 + 1, 0, none⟩) (by simp; omega) _).setCell (p := ⟨w.heap.size + 1 + 1, 1, none⟩) (by simp; omega) _⟩
end Go.Proofs.Ytomhjfjfmjacfaa
