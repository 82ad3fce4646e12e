/-
  IsBestOrder, the program's and the model's. Used by the claims on chapter 8.
-/
import Derived.Test.YtfnklfpcmgjfjaaPutS
import Derived.Test.YtfnklfpcmgjfjaaBstS
import Derived.Test.YtfnklfpcmgjfjaaBfrP
import Derived.Deep.RegionHeld3
namespace Go.Proofs.Ytfnklfpcmgjfjaa
open Go.RowKit
set_option linter.unusedVariables false



theorem insB_has (L : List ByteArray) (x y : ByteArray) : y ∈ insB L x ↔ y ∈ L ∨ y = x := by
  constructor
  · exact insB_mem
  · intro h
    unfold insB
    rw [List.mem_append, List.mem_cons]
    rcases h with h | h
    · have h2 : y ∈ L.take (posB L x) ++ L.drop (posB L x) := by rw [List.take_append_drop]; exact h
      rcases List.mem_append.1 h2 with h3 | h3
      · exact .inl h3
      · exact .inr (.inr h3)
    · exact .inr (.inl h)
theorem insB_cons (y : ByteArray) (L : List ByteArray) (x : ByteArray) : insB (y :: L) x = if befL (bl y) (bl x) = true then y :: insB L x else x :: y :: L := by
  unfold insB
  rw [posB]
  split <;> simp
theorem bl_inj' {x y : ByteArray} (e : bl x = bl y) : x = y := by
  cases x; cases y
  simp only [bl] at e
  congr 1
  exact Array.ext' e
theorem insB_srt : ∀ (L : List ByteArray) (x : ByteArray), SrtB L → x ∉ L → SrtB (insB L x)
  | [], x, _, _ => by simp [insB, posB, SrtB]
  | y :: L, x, h, hx => by
    unfold SrtB at h
    rw [List.pairwise_cons] at h
    have hne : bl x ≠ bl y := fun e => hx (by rw [bl_inj' e]; simp)
    rw [insB_cons]
    by_cases hb : befL (bl y) (bl x) = true
    · rw [if_pos hb]
      refine List.pairwise_cons.2 ⟨fun z hz => ?_, insB_srt L x h.2 (fun h2 => hx (List.mem_cons_of_mem _ h2))⟩
      rcases insB_mem hz with h2 | h2
      · exact h.1 z h2
      · rw [h2]; exact hb
    · rw [if_neg hb]
      have hxy : befL (bl x) (bl y) = true := by
        rcases bef_total hne with h2 | h2
        · exact h2
        · exact absurd h2 hb
      refine List.pairwise_cons.2 ⟨fun z hz => ?_, List.pairwise_cons.2 h⟩
      rcases List.mem_cons.1 hz with h2 | h2
      · rw [h2]; exact hxy
      · exact bef_trans hxy (h.1 z h2)
/-- The texts in the order of times. -/
def srtX (xs : List ByteArray) : List ByteArray := xs.foldl insB []
theorem foldl_srt : ∀ (xs L : List ByteArray), SrtB L → xs.Nodup → (∀ x ∈ xs, x ∉ L) → SrtB (xs.foldl insB L) ∧ (∀ x, x ∈ xs.foldl insB L ↔ x ∈ L ∨ x ∈ xs) ∧ (xs.foldl insB L).length = L.length + xs.length
  | [], L, h, _, _ => ⟨h, fun x => by simp, by simp⟩
  | x :: xs, L, h, hn, hd => by
    rw [List.nodup_cons] at hn
    have ih := foldl_srt xs (insB L x) (insB_srt L x h (hd x (by simp))) hn.2 (fun z hz h2 => by
      rcases insB_mem h2 with h3 | h3
      · exact hd z (List.mem_cons_of_mem _ hz) h3
      · rw [h3] at hz; exact hn.1 hz)
    refine ⟨ih.1, fun z => ?_, ?_⟩
    · rw [List.foldl_cons, ih.2.1 z, insB_has, List.mem_cons]
      constructor
      · rintro ((h1 | h1) | h1)
        · exact .inl h1
        · exact .inr (.inl h1)
        · exact .inr (.inr h1)
      · rintro (h1 | h1 | h1)
        · exact .inl (.inl h1)
        · exact .inl (.inr h1)
        · exact .inr h1
    · rw [List.foldl_cons, ih.2.2, insB_len, List.length_cons]; omega
theorem srtX_srt {xs : List ByteArray} (h : xs.Nodup) : SrtB (srtX xs) ∧ (∀ x, x ∈ srtX xs ↔ x ∈ xs) ∧ (srtX xs).length = xs.length := by
  have := foldl_srt xs [] (by simp [SrtB]) h (fun x _ => by simp)
  exact ⟨this.1, fun x => by rw [srtX, this.2.1]; simp, by rw [srtX, this.2.2]; simp⟩
theorem srtX_eq {xs ys : List ByteArray} (h : xs.Nodup) (hs : SrtB ys) (hm : ∀ x, x ∈ ys ↔ x ∈ xs) : ys = srtX xs :=
  srt_unique hs (srtX_srt h).1 fun x => (hm x).trans ((srtX_srt h).2.1 x).symm
theorem srtB_nodup {ys : List ByteArray} (h : SrtB ys) : ys.Nodup := List.Pairwise.imp (fun {a b} hb e => by rw [e, bef_irrefl] at hb; cases hb) h
theorem fstL_mem : ∀ (L : List ByteArray) (us : List Nat), us.length ≤ L.length → (tL L).Pairwise (· ≤ ·) → L.Nodup → (∀ x ∈ fstL L us, x ∈ L) ∧ (fstL L us).Nodup
  | L, [], _, _, _ => ⟨fun x hx => by simp [fstL] at hx, by simp [fstL]⟩
  | L, u :: us, hl, hs, hn => by
    have hc : cAb u us < L.length := by have := cAb_le u us; simp only [List.length_cons] at hl; omega
    obtain ⟨h1, _, _⟩ := fP_at (L := L) hc rfl
    have hp : fP L (tAt L (cAb u us)) < L.length := by omega
    rw [fstL]
    generalize fP L (tAt L (cAb u us)) = p at hp
    have ih := fstL_mem (L.eraseIdx p) us (by rw [erase_len _ _ hp]; simp only [List.length_cons] at hl; omega) (by rw [tL_erase]; exact sorted_erase hs _) (hn.sublist (List.eraseIdx_sublist _ _))
    have hg : L.getD p ⟨#[]⟩ = L[p] := by rw [List.getD_eq_getElem?_getD, List.getElem?_eq_getElem hp]; rfl
    rw [hg]
    refine ⟨fun x hx => ?_, ?_⟩
    · rcases List.mem_cons.1 hx with h | h
      · rw [h]; exact List.getElem_mem hp
      · exact List.mem_of_mem_eraseIdx (ih.1 x h)
    · rw [List.nodup_cons]
      refine ⟨fun h => ?_, ih.2⟩
      have h2 := ih.1 _ h
      rw [List.mem_eraseIdx_iff_getElem] at h2
      obtain ⟨k, hk, hne, e⟩ := h2
      exact hne ((List.getElem_inj hn).1 e)
theorem fst_table {xs : List ByteArray} {m : List Nat} (ht : tableB xs = true) (hl : m.length = xs.length) : tableB (fstL (srtX xs) m) = true := by
  obtain ⟨hz, hmk, hn⟩ := (tableB_iff xs).1 ht
  obtain ⟨h1, h2, h3⟩ := srtX_srt hn
  have h4 := fstL_mem (srtX xs) m (by omega) (srtB_times h1) (srtB_nodup h1)
  exact (tableB_iff _).2 ⟨by rw [fstL_len]; omega, fun x hx => hmk x ((h2 x).1 (h4.1 x hx)), h4.2⟩
/-- Is no order of a table better? -/
def ibV (xs : List ByteArray) (l : List Int) : Bool := fitB xs l && decide (cst (uAt (l.map Int.toNat)) (tAt xs) xs.length = bc (tL (srtX xs)) (l.map Int.toNat))



set_option maxHeartbeats 4000000 in
set_option maxRecDepth 20000 in
theorem isBestT_any (a : Option Addr) (b o c : Nat) (xs : List ByteArray) (a1 : Option Addr) (g1 c1 : Nat) (l : List Int) (w : World) (h : ListIn w a b o xs) (hs : SrcV w a1 g1 (intz l)) (hl : l.length ≤ 1048576) :
    Calls Try.prog 41 #[.agg #[.slice a xs.length c], .slice a1 l.length c1] w fun e w' => e = .returned (.tuple #[.bool (ibV xs l), .bool (fitB xs l)]) ∧ Below w.heap.size w w' := by
  have F := Lib.hid fun W hb => areWFor_any a b o c xs a1 g1 c1 l W (h.below (w' := W) hb) (hs.below hb) hl
  have HB0 := Lib.hid (below_alloc w (.cells #[.slice a xs.length c] 29))
  have HK : Hid (∀ W, Below (w.alloc (.cells #[.slice a xs.length c] 29)).heap.size (w.alloc (.cells #[.slice a xs.length c] 29)) W → W.cell? ⟨w.heap.size, 0, none⟩ = some (.slice a xs.length c)) := Lib.hid fun W hb => (hb.cell (p := ⟨w.heap.size, 0, none⟩) (by simp)).trans (cell_new _ _ _)
  have HBB : Hid (∀ W, Below (w.alloc (.cells #[.slice a xs.length c] 29)).heap.size (w.alloc (.cells #[.slice a xs.length c] 29)) W → Below w.heap.size w W) := Lib.hid fun W hb => HB0.out.trans (hb.mono HB0.out.size)
  by_cases hf : fitB xs l = true
  · obtain ⟨m, rfl, hm, ht, hlen⟩ := fit_nat hf
    obtain ⟨hz, hmk, hn⟩ := (tableB_iff xs).1 ht
    have F2 := Lib.hid fun W hb => val_eq (v' := .bool true) (F.out W hb) (by rw [hf])
    have G := Lib.hid fun W hb => costOf_any a b o c xs a1 g1 c1 m W (h.below (w' := W) (HBB.out W hb)) (hs.below (HBB.out W hb)) ht hm hlen
    obtain rfl := h.src.1 (by omega)
    obtain rfl := hs.1 (by rw [intz_len, zs_len]; omega)
    have G2 : Hid (∀ W, Below (w.alloc (.cells #[.slice (some ⟨b, o, none⟩) xs.length c] 29)).heap.size (w.alloc (.cells #[.slice (some ⟨b, o, none⟩) xs.length c] 29)) W → Calls Try.prog 73 #[.slice (some ⟨b, o, none⟩) xs.length c, .slice (some ⟨g1, 0, none⟩) m.length c1] W fun e w' => ∃ v, e = .returned v ∧ Below W.heap.size W w' ∧ Hid (∀ V, Below w'.heap.size w' V → Calls Try.prog 57 #[v, .slice (some ⟨g1, 0, none⟩) m.length c1] V fun e V' => e = .returned (.int .i64 ((bc (tL (srtX xs)) m : Nat) : Int)) ∧ Below V.heap.size V V')) := Lib.hid fun W hb => by
      have hs2 := hs.below (HBB.out W hb)
      refine (bestFrom_any b o c g1 c1 (m.length - 1) m.length xs.length xs m W (by omega) rfl (h.below (HBB.out W hb)).src ht (fun k hk => by
          have := zs_srcI (srcI_of hs2) k (by omega)
          rw [Nat.zero_add] at this
          rw [this, uAt_eq (by omega)]) (fun k => uAt_le hm k) (by omega) (by omega)).mono ?_
      rintro e w' ⟨ys, gg, cap, rfl, hsr, hmem, hly, hsrc, hgg, hop, hbl⟩
      have ey := srtX_eq hn hsr hmem
      rw [ey] at hsrc
      refine ⟨_, rfl, hbl, Lib.hid fun V hV => ?_⟩
      have hfl : m.length = (fstL (srtX xs) m).length := (fstL_len _ _).symm
      have h3 := srtX_srt hn
      have hcst := cost_fst (L := srtX xs) (us := m) (srtB_times h3.1) (by omega)
      rw [← hcst]
      have hts := fst_table ht hlen
      have hLI : ListIn V (some ⟨gg, 0, none⟩) gg 0 (fstL (srtX xs) m) := ⟨hsrc.below hV, by rw [← hfl]; omega, fun x hx => by
        have h5 := ((tableB_iff _).1 hts).2.1 x hx
        simp only [marksL, Bool.and_eq_true, decide_eq_true_eq, bl_len] at h5; omega⟩
      have := costOf_any (some ⟨gg, 0, none⟩) gg 0 cap (fstL (srtX xs) m) (some ⟨g1, 0, none⟩) g1 c1 m V hLI (hs.below ((HBB.out W hb).trans ((hbl.trans (hV.mono hbl.size)).mono (HBB.out W hb).size))) hts hm hfl
      rw [← hfl] at this
      exact this
    have HR : Hid (ibV xs (zs m) = decide (((cst (uAt m) (tAt xs) m.length : Nat) : Int) = ((bc (tL (srtX xs)) m : Nat) : Int)) ∧ fitB xs (zs m) = true) := Lib.hid ⟨by
      unfold ibV
      rw [hf, map_zs, hlen, Bool.true_and, Bool.eq_iff_iff]
      simp only [decide_eq_true_eq]; omega, hf⟩
    rw [zs_len] at F2 ⊢
    rw [HR.out.1, HR.out.2]
    clear F h hs hf ht hm hlen hz hmk hn HR
    generalize cst (uAt m) (tAt xs) m.length = z1 at *
    generalize bc (tL (srtX xs)) m = z2 at *
    go_enter Try.func41, Try.ntmps41
    go_wp2_with fail
    generalize hW0 : w.alloc (.cells #[.slice (some ⟨b, o, none⟩) xs.length c] 29) = W0 at *
    refine (F2.out _ HB0.out).mono ?_
    rintro e w1 ⟨rfl, hb⟩
    have HBd : Hid (Below W0.heap.size W0 w1.drew) := Lib.hid hb.drew
    clear hb F2 hW0
    go_wp2
    go_region_held3 (fun w' => w'.cell? ⟨w.heap.size, 0, none⟩ = some (.slice (some ⟨b, o, none⟩) xs.length c))
      (first
        | with_reducible exact HK.out _ HBe.out
        | with_reducible exact HK.out _ HBc.out
        | with_reducible exact HK.out _ HBf.out
        | with_reducible exact HK.out _ HBd.out)
      ((first
        | (go_at_call 73; refine (G2.out _ (by first | with_reducible exact HBc.out | with_reducible exact HBd.out)).mono ?_; rintro e w5 ⟨v5, rfl, hb5, HV5⟩; have HBf : Hid (Below W0.heap.size W0 w5) := Lib.hid (by first | with_reducible exact HBc.out.trans (hb5.mono HBc.out.size) | with_reducible exact HBd.out.trans (hb5.mono HBd.out.size)); have HB5 := Lib.hid (Below.refl w5.heap.size w5); clear hb5)
        | (go_at_call 57; with_reducible refine (G.out _ (by first | with_reducible exact HBe.out | with_reducible exact HBf.out | with_reducible exact HBd.out)).mono ?_; rintro e w4 ⟨rfl, hb4⟩; have HBc : Hid (Below W0.heap.size W0 w4) := Lib.hid (by first | with_reducible exact HBe.out.trans (hb4.mono HBe.out.size) | with_reducible exact HBf.out.trans (hb4.mono HBf.out.size) | with_reducible exact HBd.out.trans (hb4.mono HBd.out.size)); (try (have HB54 : Hid (Below w5.heap.size w5 w4) := Lib.hid (by with_reducible exact hb4))); clear hb4)
        | (go_at_call 57; with_reducible refine (HV5.out _ (by first | with_reducible exact HB54.out | with_reducible exact HB5.out)).mono ?_; rintro e w6 ⟨rfl, hb6⟩; have HBe : Hid (Below W0.heap.size W0 w6) := Lib.hid (by first | with_reducible exact HBc.out.trans (hb6.mono HBc.out.size) | with_reducible exact HBf.out.trans (hb6.mono HBf.out.size)); clear hb6)
        | fail))
    all_goals (
      go_wp2
      (first | go_ret | go_ret2)
      exact ⟨by first | rfl | simp, by first | with_reducible exact HBB.out _ HBe.out | with_reducible exact HBB.out _ HBc.out⟩)
  · have hf2 : fitB xs l = false := by simpa using hf
    have F2 := Lib.hid fun W hb => val_eq (v' := .bool false) (F.out W hb) (by rw [hf2])
    have HR : Hid (ibV xs l = false) := Lib.hid (by unfold ibV; rw [hf2]; rfl)
    rw [hf2, HR.out]
    clear F h hs hf hf2 HR
    go_enter Try.func41, Try.ntmps41
    go_wp2_with fail
    refine (F2.out _ HB0.out).mono ?_
    rintro e w1 ⟨rfl, hb⟩
    have HBd := Lib.hid (HBB.out _ hb)
    clear hb F2
    go_wp2
    (first | go_ret | go_ret2)
    exact ⟨rfl, HBd.out⟩



theorem srtX_next {xs : List ByteArray} {k : Nat} (h : k < xs.length) : srtX (xs.take (k + 1)) = insB (srtX (xs.take k)) xs[k] := by
  rw [List.take_add_one, List.getElem?_eq_getElem h]
  unfold srtX
  rw [List.foldl_append]; rfl
theorem srtX_take {xs : List ByteArray} (hn : xs.Nodup) (k : Nat) (hk : k ≤ xs.length) : (srtX (xs.take k)).length = k ∧ ∀ x ∈ srtX (xs.take k), x ∈ xs := by
  have h := srtX_srt (hn.sublist (List.take_sublist k xs))
  exact ⟨by rw [h.2.2, List.length_take]; omega, fun x hx => List.mem_of_mem_take ((h.2.1 x).1 hx)⟩

theorem bstL_mem : ∀ (L : List ByteArray) (us : List Nat), us.length ≤ L.length → ∀ x ∈ bstL L us, x ∈ L
  | L, [], _, x, hx => by simp [bstL] at hx
  | L, u :: us, hl, x, hx => by
    have hc : cAb u us < L.length := by have := cAb_le u us; simp only [List.length_cons] at hl; omega
    rw [bstL] at hx
    rcases List.mem_cons.1 hx with h | h
    · rw [h, List.getD_eq_getElem?_getD, List.getElem?_eq_getElem hc]; exact List.getElem_mem hc
    · exact List.mem_of_mem_eraseIdx (bstL_mem (L.eraseIdx (cAb u us)) us (by rw [erase_len _ _ hc]; simp only [List.length_cons] at hl; omega) x h)
set_option maxHeartbeats 4000000 in
set_option maxRecDepth 20000 in
theorem sIsBestT_any (a : Option Addr) (b o c : Nat) (xs : List ByteArray) (a1 : Option Addr) (g1 c1 : Nat) (l : List Int) (w : World) (h : ListIn w a b o xs) (hs : SrcV w a1 g1 (intz l)) (hl : l.length ≤ 1048576) :
    Calls Try.prog 40 #[.agg #[.slice a xs.length c], .slice a1 l.length c1] w fun e w' => e = .returned (.tuple #[.bool (ibV xs l), .bool (fitB xs l)]) ∧ Below w.heap.size w w' := by
  have F := Lib.hid fun W hb => sFits_any a b o c xs a1 g1 c1 l W (h.below (w' := W) hb) (hs.below hb) hl
  have HB0 := Lib.hid (below_alloc w (.cells #[.slice a xs.length c] 29))
  have HK : Hid (∀ W, Below (w.alloc (.cells #[.slice a xs.length c] 29)).heap.size (w.alloc (.cells #[.slice a xs.length c] 29)) W → W.cell? ⟨w.heap.size, 0, none⟩ = some (.slice a xs.length c)) := Lib.hid fun W hb => (hb.cell (p := ⟨w.heap.size, 0, none⟩) (by simp)).trans (cell_new _ _ _)
  have HBB : Hid (∀ W, Below (w.alloc (.cells #[.slice a xs.length c] 29)).heap.size (w.alloc (.cells #[.slice a xs.length c] 29)) W → Below w.heap.size w W) := Lib.hid fun W hb => HB0.out.trans (hb.mono HB0.out.size)
  by_cases hf : fitB xs l = true
  · obtain ⟨m, rfl, hm, ht, hlen⟩ := fit_nat hf
    obtain ⟨hz, hmk, hn⟩ := (tableB_iff xs).1 ht
    have F2 := Lib.hid fun W hb => val_eq (v' := .bool true) (F.out W hb) (by rw [hf])
    have h99 : ∀ u ∈ m, u ≤ 99 := hm.each
    have G := Lib.hid fun W hb => sCost_any a b o c xs a1 g1 0 c1 m xs.length m.length W rfl rfl (h.below (w' := W) (HBB.out W hb)).src (srcI_of (hs.below (HBB.out W hb))) hmk h99 hm.len (by omega) (by omega)
    obtain rfl := h.src.1 (by omega)
    have HRT : ∀ (W : World) (B n : Nat) (ys : List ByteArray), RowT W B n ys → ys.length = n → Src W (some ⟨B, 0, none⟩) B 0 ys := fun W B n ys h e => h.src
    have G2 : Hid (∀ W B cap, Below (w.alloc (.cells #[.slice (some ⟨b, o, none⟩) xs.length c] 29)).heap.size (w.alloc (.cells #[.slice (some ⟨b, o, none⟩) xs.length c] 29)) W → RowO W B (srtX xs) → Calls Try.prog 74 #[.slice (some ⟨B, 0, none⟩) xs.length cap, .slice a1 m.length c1] W fun e w' => ∃ v, e = .returned v ∧ Below W.heap.size W w' ∧ Calls Try.prog 55 #[v, .slice a1 m.length c1] w' fun e V' => e = .returned (.int .i64 ((bc (tL (srtX xs)) m : Nat) : Int)) ∧ ∃ q, V' = w'.drewN q) := Lib.hid fun W B cap hb hr => by
      have hs2 := hs.below (HBB.out W hb)
      have h3 := srtX_srt hn
      refine (sBest_any (some ⟨B, 0, none⟩) B 0 cap (srtX xs) a1 g1 0 c1 m xs.length m.length W h3.2.2.symm rfl hr.src (srcI_of hs2) h99 hm.len (by omega) (by omega)).mono ?_
      rintro e w' ⟨B2, rfl, hB2, hrow, hbl⟩
      refine ⟨_, rfl, hbl, ?_⟩
      rw [← cost_bst (L := srtX xs) (us := m) (by omega)]
      exact sCost_any (some ⟨B2, 0, none⟩) B2 0 m.length (bstL (srtX xs) m) a1 g1 0 c1 m m.length m.length w' (bstL_len _ _).symm rfl (HRT w' B2 m.length _ hrow (bstL_len _ _)) (srcI_of (hs2.below hbl)) (fun x hx => hmk x ((h3.2.1 x).1 (bstL_mem _ _ (by omega) x hx))) h99 hm.len (by rw [bstL_len]; exact Nat.le_refl _) (by rw [bstL_len]; omega)
    have G3 : Hid (∀ W B cap k, k < xs.length → k ≤ cap → cap ≤ maxLen → RowO W B (srtX (xs.take k)) → Calls Try.prog 69 #[.slice (some ⟨B, 0, none⟩) k cap, .string (xs.getD k ⟨#[]⟩)] W fun e w' => ∃ B2 cap2, e = .returned (.slice (some ⟨B2, 0, none⟩) ((k + 1 : Nat)) cap2) ∧ RowO w' B2 (srtX (xs.take (k + 1))) ∧ k + 1 ≤ cap2 ∧ cap2 ≤ maxLen ∧ Below W.heap.size W w') := Lib.hid fun W B cap k hk hc hcm hr => by
      have h4 := srtX_take hn k (by omega)
      have hx : xs.getD k ⟨#[]⟩ = xs[k] := by rw [List.getD_eq_getElem?_getD, List.getElem?_eq_getElem hk]; rfl
      rw [hx]
      refine (sPut_any B 0 cap (srtX (xs.take k)) xs[k] k W h4.1.symm (by omega) hcm hr.src (fun y hy => hmk y (h4.2 y hy)) (hmk _ (List.getElem_mem hk)) (by omega)).mono ?_
      rintro e w' ⟨v, rfl, hown, hbl⟩
      rw [← srtX_next hk] at hown
      obtain ⟨B2, cap2, rfl, hr2, _, q1, q2⟩ := rowO_made hown (srtX_take hn (k + 1) hk).1.symm (by omega)
      exact ⟨B2, cap2, rfl, hr2, q1, q2, hbl⟩
    have HX : Hid (∀ W k, Below w.heap.size w W → k < xs.length → W.cell? ⟨b, o + k, none⟩ = some (.string (xs.getD k ⟨#[]⟩))) := Lib.hid fun W k hb hk => by
      rw [(h.below hb).src.2 k _ (List.getElem?_eq_getElem hk), List.getD_eq_getElem?_getD, List.getElem?_eq_getElem hk]; rfl
    have HR : Hid (ibV xs (zs m) = decide (((cst (uAt m) (tAt xs) m.length : Nat) : Int) = ((bc (tL (srtX xs)) m : Nat) : Int)) ∧ fitB xs (zs m) = true) := Lib.hid ⟨by
      unfold ibV
      rw [hf, map_zs, hlen, Bool.true_and, Bool.eq_iff_iff]
      simp only [decide_eq_true_eq]; omega, hf⟩
    have hn10 : xs.length ≤ 10 := hz.2
    have HTk : Hid (srtX (xs.take xs.length) = srtX xs) := Lib.hid (by rw [List.take_length])
    rw [zs_len] at F2 ⊢
    rw [HR.out.1, HR.out.2]
    clear F h hs hf ht hm hlen hz hmk hn HR h99
    generalize cst (uAt m) (tAt xs) m.length = z1 at *
    generalize bc (tL (srtX xs)) m = z2 at *
    go_enter Try.func40, Try.ntmps40
    go_wp2_with fail
    generalize hW0 : w.alloc (.cells #[.slice (some ⟨b, o, none⟩) xs.length c] 29) = W0 at *
    refine (F2.out _ HB0.out).mono ?_
    rintro e w1 ⟨rfl, hb⟩
    have HB1 : Hid (Below W0.heap.size W0 (w1.alloc (.cells #[] 9))) := Lib.hid (hb.alloc hb.size _)
    clear hb F2 hW0
    go_wp2
    go_loopw [6, 7] (fun tv v wr => ∃ (k B cap : Nat), tv = .slice (some ⟨B, 0, none⟩) k cap ∧ v = .int .i64 (k : Int) ∧ k ≤ xs.length ∧ Hid (RowO wr B (srtX (xs.take k)) ∧ k ≤ cap ∧ cap ≤ maxLen) ∧ Hid (Below W0.heap.size W0 wr)) (fun _ v _ => xs.length - (intOf v).toNat)
    case atStart => exact ⟨0, w1.heap.size, 0, rfl, rfl, Nat.zero_le _, Lib.hid ⟨⟨fun k hk => by simp [srtX] at hk, fun k hk => by simp [srtX] at hk, by simp⟩, Nat.le_refl _, Nat.zero_le _⟩, HB1⟩
    case round =>
      clear HB1
      obtain ⟨k, B, cap, rfl, rfl, hk, HR, HB⟩ := hrel
      have c0 := HK.out _ HB.out
      by_cases hlt : k < xs.length
      · have HP := Lib.hid (G3.out wr B cap k hlt HR.out.2.1 HR.out.2.2 HR.out.1)
        have d1 := HX.out wr k (HBB.out _ HB.out) hlt
        have i0 : (0 : Int) ≤ (k : Int) := by omega
        have i1 : (k : Int) < (xs.length : Int) := by omega
        generalize xs.getD k ⟨#[]⟩ = x at HP d1
        go_wp2_with fail
        refine HP.out.mono ?_
        rintro e w4 ⟨B2, cap2, rfl, hr2, q1, q2, hb4⟩
        have HR4 := Lib.hid (And.intro hr2 (And.intro q1 q2))
        have HB4 := Lib.hid (HB.out.trans (hb4.mono HB.out.size))
        clear hr2 q1 q2 hb4 c0 d1
        go_wp2
        go_roundw
        case rel => exact ⟨k + 1, B2, cap2, rfl, by go_num, by omega, HR4, HB4⟩
        case measure => simp [intOf]; omega
      · obtain rfl : k = xs.length := by omega
        rw [HTk.out] at HR
        have HG1 := Lib.hid (G.out wr HB.out)
        go_wp2_with fail
        refine HG1.out.mono ?_
        rintro e w4 ⟨rfl, q, rfl⟩
        have hbq : Below wr.heap.size wr (wr.drewN q) := below_drewN _ _
        have HB4 := Lib.hid (HB.out.trans (hbq.mono HB.out.size))
        have HG2 := Lib.hid (G2.out _ B cap HB4.out (HR.out.1.below hbq))
        clear hbq c0
        go_wp2_with fail
        refine HG2.out.mono ?_
        rintro e w5 ⟨v, rfl, hb5, hc5⟩
        have HB5 := Lib.hid (HB4.out.trans (hb5.mono HB4.out.size))
        have HC5 := Lib.hid hc5
        clear hb5 hc5
        go_wp2_with fail
        refine HC5.out.mono ?_
        rintro e w6 ⟨rfl, q2, rfl⟩
        have HB6 := Lib.hid (HBB.out _ (HB5.out.trans ((below_drewN w5 q2).mono HB5.out.size)))
        go_wp2
        (first | go_ret | go_ret2)
        exact ⟨by first | rfl | simp, HB6.out⟩
  · have hf2 : fitB xs l = false := by simpa using hf
    have F2 := Lib.hid fun W hb => val_eq (v' := .bool false) (F.out W hb) (by rw [hf2])
    have HR : Hid (ibV xs l = false) := Lib.hid (by unfold ibV; rw [hf2]; rfl)
    rw [hf2, HR.out]
    clear F h hs hf hf2 HR
    go_enter Try.func40, Try.ntmps40
    go_wp2_with fail
    refine (F2.out _ HB0.out).mono ?_
    rintro e w1 ⟨rfl, hb⟩
    have HBd := Lib.hid (HBB.out _ hb)
    clear hb F2
    go_wp2
    (first | go_ret | go_ret2)
    exact ⟨rfl, HBd.out⟩
theorem isBestOrder_both (xs : List ByteArray) (l : List Int) (hxl : xs.length ≤ 1048576) (hxt : ∀ x ∈ xs, x.size ≤ 1048576) (hl : l.length ≤ 1048576) : ∃ (R0 R1 : Bool),
    Hid (∀ W a b o c, ListIn W a b o xs → ∀ a1 g1 c1, SrcV W a1 g1 (intz l) → Calls Try.prog 40 #[.agg #[.slice a xs.length c], .slice a1 l.length c1] W fun e W' => e = .returned (.tuple #[.bool R0, .bool R1]) ∧ Below W.heap.size W W') ∧
    Hid (∀ W a b o c, ListIn W a b o xs → ∀ a1 g1 c1, SrcV W a1 g1 (intz l) → Calls Try.prog 41 #[.agg #[.slice a xs.length c], .slice a1 l.length c1] W fun e W' => e = .returned (.tuple #[.bool R0, .bool R1]) ∧ Below W.heap.size W W') :=
  ⟨_, _, fun W a b o c h a1 g1 c1 hs => sIsBestT_any a b o c xs a1 g1 c1 l W h hs hl, fun W a b o c h a1 g1 c1 hs => isBestT_any a b o c xs a1 g1 c1 l W h hs hl⟩
end Go.Proofs.Ytfnklfpcmgjfjaa
