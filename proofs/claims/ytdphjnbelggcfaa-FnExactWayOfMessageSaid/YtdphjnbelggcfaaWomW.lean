/-
  WayOfMessage of the program. Used by the claims on chapter 9.
-/
import Derived.Test.YtdphjnbelggcfaaWomL
import Derived.Test.YtdphjnbelggcfaaWyW
import Derived.Test.YtdphjnbelggcfaaCtW
import Derived.Test.YtdphjnbelggcfaaPieceW
import Derived.Test.YtdphjnbelggcfaaMsgB
namespace Go.Proofs.Ytdphjnbelggcfaa
open Go.RowKit Go.Maps Go.WideMaps
set_option linter.unusedVariables false

def wmB (xs : List ByteArray) (m : ByteArray) : Bool := tableB xs && msgL xs.length (bl m)
def wmR (xs : List ByteArray) (m : ByteArray) : Nat := if wmB xs m = true then (wf (mnL xs (bl m))).1 else 0
theorem mn_nodes {xs : List ByteArray} (ht : tableB xs = true) {l : Bs} (h : ∀ u ∈ l, u = 32 ∨ inRow xs.length u = true) : ∀ x ∈ mnL xs l, 1 ≤ x ∧ x ≤ 63 := by
  intro x hx
  obtain ⟨u, hu, hxu⟩ := List.mem_flatMap.1 hx
  unfold mnC at hxu
  split at hxu
  · cases hxu
  · rename_i h32
    have h2 := (h u hu).resolve_left h32
    unfold inRow at h2
    simp only [Bool.and_eq_true, decide_eq_true_eq] at h2
    rw [List.mem_singleton] at hxu
    subst hxu
    have hl : u.toNat - 97 < xs.length := by omega
    rw [List.getD_eq_getElem?_getD, List.getElem?_eq_getElem hl, Option.getD_some]
    have := ((tableB_iff xs).1 ht).2.1 _ (List.getElem_mem hl)
    exact ⟨nd_one _, nd_le (by rw [bl_len]; exact noneT_size (noneT_marks this))⟩

theorem wrap_few (n : Nat) (h : n ≤ 100000) : wrap64 (n : Int) = (n : Int) ∧ IntKind.i64.wrap (n : Int) = (n : Int) := ⟨IntWalk.wrap64_in _ (by omega), IntWalk.i64_in _ (by omega)⟩
set_option maxHeartbeats 4000000 in
set_option maxRecDepth 20000 in
theorem wayOfMessage_any (a : Option Addr) (b o c : Nat) (xs : List ByteArray) (m : ByteArray) (w : World) (h : ListIn w a b o xs) (hms : m.size ≤ maxLen) :
    Calls Try.prog 42 #[.agg #[.slice a xs.length c], .string m] w fun e w' => e = .returned (.tuple #[.int .i64 ((wmR xs m : Nat) : Int), .bool (wmB xs m)]) ∧ Below w.heap.size w w' := by
  obtain ⟨i0, hi, hz0, hz1, hz2⟩ := info_parts infoTn
  have hl := h.len
  have F1 := Lib.hid fun W hb => isMessage_any a b o c xs m W (h.below (w' := W) hb) hms
  have HLi := Lib.hid h
  cases hv : wmB xs m with
  | false =>
    have HR : Hid (wmR xs m = 0) := Lib.hid (by unfold wmR; rw [if_neg (by rw [hv]; decide)])
    unfold wmB at hv
    rw [hv] at F1
    generalize tableB xs = tb at F1
    clear hv h
    cases tb <;> (
      go_enter Try.func42, Try.ntmps42
      go_wp2_with fail
      refine (F1.out _ (below_alloc _ _)).mono ?_
      rintro e w1 ⟨rfl, hb⟩
      have HB1 := Lib.hid ((below_alloc w (.cells #[.slice a xs.length c] 35)).trans (hb.mono (by simp)))
      clear hb
      go_wp2
      go_ret2
      exact ⟨by rw [HR.out]; rfl, HB1.out⟩)
  | true =>
    have HR : Hid (wmR xs m = (wf (mnL xs (bl m))).1) := Lib.hid (by unfold wmR; rw [if_pos hv])
    unfold wmB at hv
    rw [Bool.and_eq_true] at hv
    obtain ⟨ht, hm⟩ := hv
    rw [ht, hm] at F1
    have hn10 := ((tableB_iff xs).1 ht).1.2
    obtain ⟨hm12, hsg⟩ := msg_signM hm
    rw [bl_len] at hm12
    have HMk := Lib.hid ((tableB_iff xs).1 ht).2.1
    have HG := Lib.hid fun (y : ByteArray) (W : World) (hy : marksL (bl y) = true) => nodeOf_any y W (noneT_marks hy)
    have HSg := Lib.hid hsg
    have HSu := Lib.hid fun (k : Nat) (u : UInt8) (hu : (bl m)[k]? = some u) => mn_succ (xs := xs) hu
    have HFin : Hid (mnL xs ((bl m).take m.size) = mnL xs (bl m)) := Lib.hid (by rw [← bl_len m, List.take_length])
    have HWl : Hid (∀ k, (mnL xs ((bl m).take k)).length ≤ 12) := Lib.hid fun k => Nat.le_trans (mn_len xs _) (by rw [List.length_take, bl_len]; omega)
    have HNd := Lib.hid (mn_nodes ht hsg)
    have M0 : Hid (∀ W : World, w.heap.size + 1 ≤ W.heap.size → (W.alloc (Obj.cells #[] 76)).ownsRow (w.heap.size + 1) 76 1 (.slice (some ⟨W.heap.size, 0, none⟩) 0 0) 0 (ints [])) := Lib.hid fun W hW => World.ownsRow_made (base := w.heap.size + 1) (e := 76) (size := 1) W #[] 0 hW (by unfold maxLen; omega) rfl
    clear ht hm hsg h
    go_enter Try.func42, Try.ntmps42
    go_wp2_with fail
    refine (F1.out _ (below_alloc _ _)).mono ?_
    rintro e w1 ⟨rfl, hb⟩
    have HC1 := Lib.hid ((hb.cell (p := ⟨w.heap.size, 0, none⟩) (by simp)).trans (cell_new w (.slice a xs.length c) 35))
    have HB1 := Lib.hid ((below_alloc w (.cells #[.slice a xs.length c] 35)).trans (hb.mono (by simp)))
    have HG1 : Hid (w.heap.size + 1 ≤ w1.heap.size) := Lib.hid (by have := hb.size; simpa using this)
    have HO1 := Lib.hid (M0.out w1 HG1.out)
    have HI1 : Hid (((w1.alloc (Obj.cells #[] 76)).alloc (.stringIter m 0)).heap[w1.heap.size + 1]? = some (.stringIter m 0)) := Lib.hid (by
      have := World.iter_heap (w1.alloc (Obj.cells #[] 76)) m 0
      rw [show (w1.alloc (Obj.cells #[] 76)).heap.size = w1.heap.size + 1 by simp] at this
      exact this)
    have HB1' : Hid (Below w.heap.size w ((w1.alloc (Obj.cells #[] 76)).alloc (.stringIter m 0))) := Lib.hid ((HB1.out.alloc HB1.out.size _).alloc (by have := HB1.out.size; simp; omega) _)
    have HC1' := Lib.hid (keep_cell _ (Obj.stringIter m 0) (keep_cell w1 (Obj.cells #[] 76) HC1.out))
    clear hb
    go_wp2
    go_loopw [8] (fun sv wr => ∃ pos : Nat, wr.heap[w1.heap.size + 1]? = some (.stringIter m pos) ∧ pos ≤ m.size ∧ wr.ownsRow (w.heap.size + 1) 76 1 sv (mnL xs ((bl m).take pos)).length (ints (mnL xs ((bl m).take pos))) ∧ Hid (wr.cell? ⟨w.heap.size, 0, none⟩ = some (.slice a xs.length c)) ∧ Hid (Below w.heap.size w wr)) (fun _ wr => m.size - wr.iterPos (w1.heap.size + 1))
    case atStart => exact ⟨0, HI1.out, Nat.zero_le _, HO1.out.alloc _, HC1', HB1'⟩
    case round =>
      clear HO1 HI1 HC1 HB1 HC1' HB1'
      obtain ⟨pos, hit, hp, hown, HCr, HBr⟩ := hrel
      obtain ⟨av, capv, rfl⟩ := row_form hown
      have HP := Lib.hid (iterPos_of hit)
      by_cases hlt : pos < m.size
      · obtain ⟨r, wd, hde, hr, hwd, hcase⟩ := sign_at m pos hlt
        have hnx : ∀ ty, (Instr.next (.pointer (some ⟨w1.heap.size + 1, 0, none⟩)) true ty).run Try.prog wr = _ := fun ty => Lib.run_next_any_at wr (w1.heap.size + 1) m pos ty hit hlt
        have hit2 := Lib.iterAt_heap wr (w1.heap.size + 1) m pos (pos + wd) hit
        have hown2 := row_iter hown hit (pos + wd)
        have hbi : Below (w.heap.size + 1) wr (wr.iterAt (w1.heap.size + 1) m (pos + wd)) := Lib.below_iterAt (Below.refl _ wr) (k := w1.heap.size + 1) (by have := HG1.out; omega) m (pos + wd)
        have HCi : Hid ((wr.iterAt (w1.heap.size + 1) m (pos + wd)).cell? ⟨w.heap.size, 0, none⟩ = some (.slice a xs.length c)) := Lib.hid ((hbi.cell (p := ⟨w.heap.size, 0, none⟩) (by show w.heap.size < _; omega)).trans HCr.out)
        have HBi := Lib.hid (HBr.out.trans (hbi.mono (by omega)))
        rw [hde] at hnx
        simp only at hnx
        have hu := HSg.out _ (List.mem_of_getElem? (bl_at m pos hlt))
        have hu2 : m[pos] = 32 ∨ (97 ≤ m[pos].toNat ∧ m[pos].toNat < 97 + xs.length) := by
          rcases hu with h | h
          · exact .inl h
          · right; unfold inRow at h; simpa using h
        obtain ⟨hr2, rfl⟩ : r = (m[pos]).toNat ∧ wd = 1 := by
          rcases hcase with ⟨_, h2, h3⟩ | ⟨_, h2⟩
          · exact ⟨h2, h3⟩
          · rcases hu2 with h | h
            · rw [h] at h2; exact absurd h2 (by decide)
            · omega
        have HS := Lib.hid (HSu.out pos _ (bl_at m pos hlt))
        obtain ⟨W1, hW1⟩ : ∃ W1, W1 = wr.iterAt (w1.heap.size + 1) m (pos + 1) := ⟨_, rfl⟩
        rw [← hW1] at hnx hit2 hown2 HCi HBi
        clear hW1 hit hde hcase hwd hown hu hbi
        generalize m[pos] = u at *
        by_cases h32 : u = 32
        · have hr32 : r = 32 := by rw [hr2, h32]; rfl
          have HE : Hid (mnL xs ((bl m).take (pos + 1)) = mnL xs ((bl m).take pos)) := Lib.hid (by rw [HS.out, mnC, if_pos h32, List.append_nil])
          subst hr32
          have HOw := Lib.hid hown2
          clear h32 hr2 hu2 hown2
          go_wp2
          go_roundw
          case rel => exact ⟨pos + 1, hit2, by omega, by rw [HE.out]; exact HOw.out, HCi, HBi⟩
          case measure => rw [iterPos_of hit2, HP.out]; omega
        · have hu3 : 97 ≤ u.toNat ∧ u.toNat < 97 + xs.length := hu2.resolve_left h32
          obtain ⟨i, hiu⟩ : ∃ i, u.toNat = i + 97 := ⟨u.toNat - 97, by omega⟩
          have hil : i < xs.length := by omega
          have hxi : xs[i]? = some xs[i] := List.getElem?_eq_getElem hil
          have hgd : xs.getD (u.toNat - 97) ⟨#[]⟩ = xs[i] := by rw [show u.toNat - 97 = i by omega, List.getD_eq_getElem?_getD, hxi]; rfl
          have hmy := HMk.out xs[i] (List.getElem_mem hil)
          have HE : Hid (mnL xs ((bl m).take (pos + 1)) = mnL xs ((bl m).take pos) ++ [nd (bl xs[i])]) := Lib.hid (by rw [HS.out, mnC, if_neg h32, hgd])
          have HL2 := HLi.out.below HBi.out
          have d1 := HL2.src.2 i _ hxi
          have hax := HL2.src.1 (by omega)
          have l1 := HCi.out
          have GY := Lib.hid fun W => HG.out xs[i] W hmy
          generalize xs[i] = y at *
          have HLen : Hid ((mnL xs ((bl m).take (pos + 1))).length = (mnL xs ((bl m).take pos)).length + 1) := Lib.hid (by rw [HE.out, List.length_append]; rfl)
          have hl12 := HWl.out pos
          generalize nd (bl y) = v1 at *
          generalize mnL xs ((bl m).take pos) = pl at *
          obtain ⟨n, hnl⟩ : ∃ n, pl.length = n := ⟨_, rfl⟩
          rw [hnl] at hown2 HLen hl12 ⊢
          have hr32 : ((r : Int) == 32) = false := by
            have : ¬ r = 32 := fun e2 => h32 (UInt8.toNat_inj.1 (by rw [← hr2, e2]; rfl))
            simp; omega
          have hr33 : ((r : Int) != 32) = true := by rw [bne, hr32]; rfl
          have hri : r = i + 97 := by rw [hr2, hiu]
          have j0 : (0 : Int) ≤ (i : Int) := by omega
          have j1 : (i : Int) < (xs.length : Int) := by omega
          have j3 : (r : Int) - 97 = (i : Int) := by omega
          have j4 : (r : Int) ≤ 107 := by omega
          have j5 : (97 : Int) ≤ (r : Int) := by omega
          have a1 : n + 1 ≤ maxLen := by unfold maxLen; omega
          have a2 : (n + 1) * 8 ≤ 140737488355328 := by omega
          have HOw := Lib.hid hown2
          have HIt := Lib.hid hit2
          have HHl := Lib.hid hlt
          subst hax
          clear hxi hmy hgd h32 hr2 hu2 hu3 hiu hown2 hit2 hnl hri hl12 hil hr HL2
          go_wp2_with fail
          refine (GY.out _).mono ?_
          rintro e' w5 ⟨rfl, hb5⟩
          have hown6 := row_below HOw.out hb5
          have hgl : w1.heap.size + 1 < W1.heap.size := (Array.getElem?_eq_some_iff.1 HIt.out).1
          have hit6 : w5.heap[w1.heap.size + 1]? = some (.stringIter m (pos + 1)) := (hb5.block _ hgl).trans HIt.out
          have HLt : Hid (∀ z, (Value.slice av n capv).ownBlock = some z → w.heap.size + 1 ≤ z ∧ z < w5.heap.size) := Lib.hid hown6.lt
          have HC6 : Hid (w5.cell? ⟨w.heap.size, 0, none⟩ = some (.slice (some ⟨b, o, none⟩) xs.length c)) := Lib.hid ((hb5.cell (World.block_lt_of_cell? _ _ HCi.out)).trans HCi.out)
          have HB6 := Lib.hid (HBi.out.trans (hb5.mono HBi.out.size))
          have hsz : w.heap.size + 1 ≤ w5.heap.size := by have := HG1.out; have := hb5.size; omega
          clear hb5 d1 l1 hgl
          go_wp2_with (at_builtin; refine wpList_append_lies _ rfl _ _ 94 rfl (w.heap.size + 1) 76 i0 (.int .i64 0) 1 8 Try.underlying94 hi hz0 hz1 hz2 rfl (by decide) (.slice av n capv) n (ints pl) rfl (hown6.alloc _) ⟨w5.heap.size, 0, none⟩ 1 1 [.int .i64 (v1 : Int)] rfl rfl (cell_one_new _ _ _) (by simp [Value.oneCell']) (by decide) a1 a2 (Nat.le_trans hsz (below_alloc w5 _).size) (w5.heap.size + 1) (by simp) ?_; intro gg cg w7 hownN hgrow hat hgl)
          have HW7 : Hid (w7.ownsRow (w.heap.size + 1) 76 1 (.slice (some ⟨gg, 0, none⟩) (n + 1) cg) (mnL xs ((bl m).take (pos + 1))).length (ints (mnL xs ((bl m).take (pos + 1))))) := Lib.hid (by
            rw [HLen.out, HE.out, ints_snoc]
            exact hownN)
          have HBg : Hid (Below (w.heap.size + 1) (w5.alloc (.cells #[.int .i64 (v1 : Int)] 76)) w7) := Lib.hid ((Below.refl (w.heap.size + 1) _).grown hgrow (Nat.le_trans hsz (below_alloc w5 _).size) (fun z e => (HLt.out z e).1))
          have HC7 : Hid (w7.cell? ⟨w.heap.size, 0, none⟩ = some (.slice (some ⟨b, o, none⟩) xs.length c)) := Lib.hid ((HBg.out.cell (p := ⟨w.heap.size, 0, none⟩) (by show w.heap.size < _; omega)).trans (keep_cell _ _ HC6.out))
          have HB7 := Lib.hid ((HB6.out.alloc HB6.out.size (.cells #[.int .i64 (v1 : Int)] 76)).trans (HBg.out.mono (by omega)))
          have hit7 := iter_grown hown6 hit6 hgrow
          clear hownN hgrow hown6 a1 a2 hsz hat hgl hit6
          go_wp2
          go_roundw
          case rel => exact ⟨pos + 1, hit7, by have := HHl.out; omega, HW7.out, HC7, HB7⟩
          case measure => rw [iterPos_of hit7, HP.out]; have := HHl.out; omega
      · have hnx : ∀ ty, (Instr.next (.pointer (some ⟨w1.heap.size + 1, 0, none⟩)) true ty).run Try.prog wr = _ := fun ty => Lib.run_next_end_at wr (w1.heap.size + 1) m pos ty hit hlt
        obtain rfl : pos = m.size := by omega
        rw [HFin.out] at hown
        have HWf := Lib.hid fun k x (hx : (mnL xs (bl m))[k]? = some x) => wf_take hx
        have HWp := Lib.hid fun k x (hx : (mnL xs (bl m))[k]? = some x) => wf_last hx
        have hlen : (mnL xs (bl m)).length ≤ 12 := by have := HWl.out m.size; rwa [HFin.out] at this
        have HLe : Hid (∀ k, (wf ((mnL xs (bl m)).take k)).1 ≤ 1512) := Lib.hid fun k => by
          have := (wf_le ((mnL xs (bl m)).take k) (fun x hx => HNd.out x (List.mem_of_mem_take hx))).2
          rw [List.length_take] at this
          omega
        obtain ⟨av', gv, cv', hsl, hsrc, _, _⟩ := seq_of_row hown
        injection hsl with e1 e2 e3
        subst e1 e3
        rw [HFin.out]
        generalize mnL xs (bl m) = ys at *
        have HSr := Lib.hid hsrc
        have HNd2 := HNd
        obtain ⟨W2, hW2⟩ : ∃ W2 : World, W2 = wr := ⟨_, rfl⟩
        have HBw := HBr
        rw [← hW2] at HSr HBw hnx ⊢
        clear hown hsrc hit HCr HBr HWl HSu HSg HFin HMk HG hW2
        go_wp2
        go_loopw [11, 12] (fun sv v w3 => ∃ k j s : Nat, v = .int .i64 (j : Int) ∧ sv = .int .i64 (s : Int) ∧ Hid (j = k + 1) ∧ Hid (j ≤ ys.length ∨ k = 0) ∧ Hid (s = (wf (ys.take j)).1) ∧ Hid (∃ q, w3 = W2.drewN q)) (fun _ v _ => ys.length - (intOf v).toNat)
        case atStart => exact ⟨0, 1, 0, rfl, rfl, Lib.hid rfl, Lib.hid (.inr rfl), Lib.hid (by cases ys <;> simp [wf, wst]), Lib.hid ⟨0, rfl⟩⟩
        case round =>
          obtain ⟨k, j, s, rfl, rfl, HJ, hk, HS, HQ⟩ := hrel
          by_cases hlt2 : j < ys.length
          · have hk1 : k < ys.length := by have := HJ.out; omega
            have hx1 := List.getElem?_eq_getElem (l := ys) (i := k) hk1
            have hx2 := List.getElem?_eq_getElem (l := ys) (i := j) hlt2
            have d1 : wr.cell? ⟨gv, k, none⟩ = some (.int .i64 (ys[k] : Int)) := by obtain ⟨q, e⟩ := HQ.out; rw [e]; exact HSr.out.2 k _ (ints_at (l := ys) hk1)
            have d2 : wr.cell? ⟨gv, j, none⟩ = some (.int .i64 (ys[j] : Int)) := by obtain ⟨q, e⟩ := HQ.out; rw [e]; exact HSr.out.2 j _ (ints_at (l := ys) hlt2)
            obtain rfl := HSr.out.1 (by rw [ints_len]; omega)
            have hb1 := HNd.out _ (List.getElem_mem (l := ys) (n := k) hk1)
            have hb2 := HNd.out _ (List.getElem_mem (l := ys) (n := j) hlt2)
            have HX : Hid ((wf (ys.take (j + 1))).1 = s + (wayN ys[k] ys[j]).2) := Lib.hid (by
              rw [HWf.out j _ hx2]
              unfold wst
              have e := HWp.out k _ hx1
              rw [← HJ.out] at e
              rw [e, if_pos (by omega), HS.out])
            have hle2 := HLe.out (j + 1)
            rw [HX.out] at hle2
            generalize ys[k] = p1 at *
            generalize ys[j] = p2 at *
            have G := Lib.hid fun W => wayOf_any p1 p2 W hb1.2 hb2.2
            generalize (wayN p1 p2).2 = z2 at *
            generalize (wayN p1 p2).1 = z1 at *
            have i0 : (0 : Int) ≤ (k : Int) := by omega
            have i1 : (k : Int) < (ys.length : Int) := by omega
            have i2 : (0 : Int) ≤ (j : Int) := by omega
            have i3 : (j : Int) < (ys.length : Int) := by omega
            have t0 : (j : Int) - 1 = (k : Int) := by have := HJ.out; omega
            obtain ⟨t1, t2⟩ : IntKind.i64.wrap ((j : Int) - 1) = (k : Int) ∧ wrap64 ((j : Int) - 1) = (k : Int) := by
              rw [t0]; exact (wrap_few k (by omega)).symm
            have HLt2 := Lib.hid hlt2
            clear hx1 hx2 hb1 hb2 t0
            go_wp2
            go_quiet ((go_at_call 92; exact Calls.quiet_of_same (G.out _)))
            clear t1 t2
            go_wp2
            go_roundw
            case rel => exact ⟨k + 1, j + 1, s + z2, by go_num, by go_num, Lib.hid (by have := HJ.out; omega), Lib.hid (.inl (by have := HLt2.out; omega)), Lib.hid HX.out.symm, Lib.hid (by obtain ⟨q, e⟩ := HQ.out; exact ⟨q + _, by rw [e, World.drewN_drewN]⟩)⟩
            case measure => simp [intOf]; omega
          · have HE : Hid (s = (wf ys).1) := Lib.hid (by rw [HS.out, List.take_of_length_le (by omega)])
            go_wp2
            go_ret2
            exact ⟨by rw [HR.out, ← HE.out]; rfl, by obtain ⟨q, e⟩ := HQ.out; rw [e]; exact ⟨HBw.out.os, HBw.out.tape, HBw.out.output, HBw.out.size, HBw.out.block⟩⟩
end Go.Proofs.Ytdphjnbelggcfaa
