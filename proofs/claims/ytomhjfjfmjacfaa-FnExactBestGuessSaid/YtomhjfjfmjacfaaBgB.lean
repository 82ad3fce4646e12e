/-
  BestGuess, the program's: slices.MaxFunc and slices.Index at fractions; both answer alike. Used by the claims on chapter 7.
-/
import Derived.Test.YtomhjfjfmjacfaaBgS
namespace Go.Proofs.Ytomhjfjfmjacfaa
open Go.RowKit
set_option linter.unusedVariables false

theorem eqPairG (a b c d : Int) (w : World) : (Op.equalIn 10000 28 (.agg #[.int .i64 a, .int .i64 b]) (.agg #[.int .i64 c, .int .i64 d])).run Try.prog w = .ok (a == c && b == d) w := by
  have u3 := Try.underlying3
  have a3 := Try.isAgg3
  have z3 := Try.sizeOf3
  rw [show (10000 : Nat) = 9999 + 1 from rfl, Op.equalIn]
  simp only [Sem.run_bind, run_underlying Try.underlying28, Result.andThen_ok]
  simp only [Std.Legacy.Range.forIn_eq_forIn_range', Std.Legacy.Range.size, Nat.sub_zero, Nat.add_sub_cancel, Nat.div_one, List.range'_succ, List.range'_zero, List.forIn_cons, List.forIn_nil]
  go_simp
  by_cases h1 : a = c <;> by_cases h2 : b = d <;> simp [h1, h2]
theorem eqPairG_b {a b c d : Int} {r : Bool} (h : (a == c && b == d) = r) (w : World) : (Op.equalIn 10000 28 (.agg #[.int .i64 a, .int .i64 b]) (.agg #[.int .i64 c, .int .i64 d])).run Try.prog w = .ok r w := by rw [eqPairG, h]
theorem frs_at {S : Nat} {ps : List Nat} {k : Nat} (h : k < ps.length) : (frs S ps)[k]'(by rw [frs_len]; exact h) = cutN ps[k] S := by simp [frs]

set_option maxHeartbeats 4000000 in
set_option maxRecDepth 20000 in
theorem maxOf_any (a : Option Addr) (g n c S : Nat) (ps : List Nat) (w : World) (hn : n = ps.length) (hn1 : 1 ≤ n) (hn2 : n ≤ 1000) (hs : SrcV w a g (prs (frs S ps))) (hS : 0 < S) (hS2 : S ≤ 1000000000000) (hin : ∀ k (h : k < ps.length), ps[k] ≤ S) :
    Calls Try.prog 79 #[.slice a n c, .func (.func 80) #[] #[]] w fun e w' => e = .returned (.agg #[.int .i64 (((cutN (gD ps (bgTo ps n)) S).1 : Nat) : Int), .int .i64 (((cutN (gD ps (bgTo ps n)) S).2 : Nat) : Int)]) ∧ Below w.heap.size w w' := by
  have HS := Lib.hid fun W hb => hs.below (w' := W) hb
  have hp0 : 0 < (prs (frs S ps)).length := by rw [prs_len, frs_len, ← hn]; omega
  obtain rfl := hs.1 hp0
  have h0 : 0 < ps.length := by omega
  have h0' : 0 < (frs S ps).length := by rw [frs_len]; exact h0
  have p1 := hs.2 _ _ (prs_at h0').1
  have p2 := hs.2 _ _ (prs_at h0').2
  rw [frs_at h0, Nat.mul_zero] at p1 p2
  have HG0 : Hid (gD ps (bgTo ps 1) = ps[0]) := Lib.hid (by simp [bgTo, gD_at h0])
  have HN := Lib.hid hn
  have HIn := Lib.hid hin
  have HSS := Lib.hid (And.intro hS hS2)
  have c1 := hs.below (below_alloc w (.cells #[.int .i64 0, .int .i64 0] 28))
  have p3 := c1.2 _ _ (prs_at h0').1
  have p4 := c1.2 _ _ (prs_at h0').2
  rw [frs_at h0, Nat.mul_zero] at p3 p4
  have t1 : ¬ (n : Int) < 1 := by omega
  have t2 : (0 : Int) < (n : Int) := by omega
  rw [← HG0.out] at p1 p2 p3 p4
  generalize hx1 : (cutN (gD ps (bgTo ps 1)) S).1 = x1 at p1 p2 p3 p4
  generalize hx2 : (cutN (gD ps (bgTo ps 1)) S).2 = x2 at p1 p2 p3 p4
  have HX0 : Hid ((x1, x2) = cutN (gD ps (bgTo ps 1)) S) := Lib.hid (by rw [← hx1, ← hx2])
  have HR0 := Lib.hid ((two_new w 0 0).below (below_alloc _ (.cells #[.int .i64 x1, .int .i64 x2] 28)))
  have hT0 := two_new (w.alloc (.cells #[.int .i64 0, .int .i64 0] 28)) x1 x2
  have e0 : (w.alloc (.cells #[.int .i64 0, .int .i64 0] 28)).heap.size = w.heap.size + 1 := by simp
  rw [e0] at hT0
  have HT0 := Lib.hid hT0
  have HB0 := Lib.hid ((below_alloc w (.cells #[.int .i64 0, .int .i64 0] 28)).alloc (by simp) (.cells #[.int .i64 x1, .int .i64 x2] 28))
  clear hs hp0 h0 h0' hn hin hS hS2 c1 hx1 hx2 hT0 e0 HG0 p1 p2
  go_enter Try.func79, Try.ntmps79
  go_wp2
  clear p3 p4
  go_loopw [6] (fun v wr => ∃ (k m1 m2 : Nat), v = .int .i64 k ∧ 1 ≤ k ∧ k ≤ n ∧ Hid (Two wr (w.heap.size + 1) m1 m2) ∧ Hid (Two wr w.heap.size 0 0) ∧ Hid (Below w.heap.size w wr) ∧ Hid ((m1, m2) = cutN (gD ps (bgTo ps k)) S)) (fun v _ => n - (intOf v).toNat)
  case atStart => exact ⟨1, x1, x2, rfl, Nat.le_refl _, hn1, HT0, HR0, HB0, HX0⟩
  case round =>
    clear HT0 HR0 HB0 HX0
    obtain ⟨k, m1, m2, rfl, hk1, hk, HT, HR, HB, HM⟩ := hrel
    by_cases hlt : k < n
    · have hkl : k < ps.length := by rw [← HN.out]; exact hlt
      have hkl2 : k < (frs S ps).length := by rw [frs_len]; exact hkl
      have hbl : bgTo ps k < ps.length := Nat.lt_trans (bgTo_lt ps k hk1) hkl
      have d1 := (HS.out wr HB.out).2 _ _ (prs_at hkl2).1
      have d2 := (HS.out wr HB.out).2 _ _ (prs_at hkl2).2
      rw [frs_at hkl] at d1 d2
      have e2 : 2 * k = k * 2 := Nat.mul_comm _ _
      rw [e2] at d1 d2
      have HNx : Hid (bgTo ps (k + 1) = if gD ps (bgTo ps k) < ps[k] then k else bgTo ps k) := Lib.hid (by
        show (if gD ps (bgTo ps k) < gD ps k then k else bgTo ps k) = _
        rw [gD_at hkl])
      have HGk : Hid (gD ps k = ps[k]) := Lib.hid (gD_at hkl)
      have hpk := HIn.out k hkl
      have hpb := HIn.out _ hbl
      rw [← gD_at hbl] at hpb
      have HM1 : Hid (m1 = (cutN (gD ps (bgTo ps k)) S).1 ∧ m2 = (cutN (gD ps (bgTo ps k)) S).2) := Lib.hid (by rw [← HM.out]; exact ⟨rfl, rfl⟩)
      generalize hB : bgTo ps k = B at *
      generalize ps[k] = t at *
      obtain ⟨u, hGB⟩ : ∃ u, gD ps B = u := ⟨_, rfl⟩
      rw [hGB] at HM1 hpb HNx HM
      have HGB := Lib.hid hGB
      clear hGB
      obtain ⟨hS, hS2⟩ := HSS.out
      obtain ⟨_, _, c3, c4, c5, _, c7, c8⟩ := cut_add (a := t) (c := u) hS rfl rfl rfl
      have O := Lib.hid fun W => compareF_any (cutN t S).1 (cutN t S).2 (cutN u S).1 (cutN u S).2 _ _ _ W (cut_pos hS) (cut_pos hS) (Nat.le_trans (cut_le2 t S) (by omega)) (Nat.le_trans (cut_le2 u S) (by omega)) rfl rfl rfl (Nat.le_trans c3 (by omega)) (Nat.le_trans c4 (by omega)) (Nat.le_trans c5 (by omega))
      rw [← HM1.out.1] at O c4 c7 c8
      rw [← HM1.out.2] at O c3 c4 c7 c8
      generalize hy1 : (cutN t S).1 = y1 at *
      generalize hy2 : (cutN t S).2 = y2 at *
      generalize y1 * (m2 / Nat.gcd y2 m2) = n1 at *
      generalize m1 * (y2 / Nat.gcd y2 m2) = n2 at *
      have hkx : k + 1 ≤ n := by omega
      have j0 : (0 : Int) ≤ (k : Int) := by omega
      have j1 : (k : Int) < (n : Int) := by omega
      have j2 : (k : Int) + 1 ≤ 1001 := by omega
      have t3 := HT.out.cell0
      have t4 := HT.out.cell1
      have HBd : Hid (Below wr.heap.size wr wr.drew) := Lib.hid (Below.refl wr.heap.size wr).drew
      have HTd : Hid (Two wr.drew (w.heap.size + 1) m1 m2) := Lib.hid HT.out
      have hsg : ((n1 : Int) - (n2 : Int) > 0 ∧ u < t) ∨ (¬ ((n1 : Int) - (n2 : Int) > 0) ∧ ¬ u < t) := by
        by_cases h : u < t
        · left; have := c8.2 h; exact ⟨by omega, h⟩
        · right; have : ¬ n2 < n1 := fun h2 => h (c8.1 h2); exact ⟨by omega, h⟩
      have HD1 := Lib.hid d1
      have HD2 := Lib.hid d2
      have hnn : (n1 : Int) ≤ 1000000000000 ∧ (n2 : Int) ≤ 1000000000000 := by omega
      clear c3 c4 c5 c7 c8 hpk hpb e2 hkl hkl2 hbl hS hS2
      go_wp2
      go_region_held3 (fun w' => w'.cell? ⟨g, k * 2, none⟩ = some (.int .i64 y1) ∧ w'.cell? ⟨g, k * 2 + 1, none⟩ = some (.int .i64 y2) ∧ w'.cell? ⟨w.heap.size + 1, 0, none⟩ = some (.int .i64 m1) ∧ w'.cell? ⟨w.heap.size + 1, 1, none⟩ = some (.int .i64 m2))
        (first
          | exact ⟨cell_belowT HB4.out HD1.out, cell_belowT HB4.out HD2.out, (HTd.out.below hb4.out).cell0, (HTd.out.below hb4.out).cell1⟩
          | exact ⟨HD1.out, HD2.out, HTd.out.cell0, HTd.out.cell1⟩)
        ((first
          | (go_at_call 80; refine (O.out _).mono ?_; rintro e' w4 ⟨rfl, hb⟩; have hb4 := Lib.hid hb; have HB4 : Hid (Below wr.heap.size wr w4) := Lib.hid (HBd.out.trans (hb.mono HBd.out.size)); clear hb)))
      have HT4 := Lib.hid (HTd.out.below hb4.out)
      have HR4 := Lib.hid (HR.out.below HB4.out)
      have HB5 := Lib.hid (HB.out.trans (HB4.out.mono HB.out.size))
      rcases hsg with ⟨hc, hut⟩ | ⟨hc, hut⟩
      · have hc' : (0 : Int) < (n1 : Int) - (n2 : Int) := by omega
        have r0 := HT4.out.cell0
        have r1 := HT4.out.cell1
        have f0 := HT4.out.frozen 0
        have f9 := HT4.out.frozen 1
        have d1 := cell_belowT HB4.out HD1.out
        have d2 := cell_belowT HB4.out HD2.out
        have HX : Hid ((y1, y2) = cutN (gD ps (bgTo ps (k + 1))) S) := Lib.hid (by rw [HNx.out, if_pos hut, HGk.out, ← hy1, ← hy2])
        clear hut hy1 hy2
        go_wp2
        go_roundw
        case rel => exact ⟨k + 1, y1, y2, by go_num, by omega, hkx, Lib.hid ((HT4.out.set0 _).set1 _), Lib.hid ((HR4.out.other (p := ⟨w.heap.size + 1, 0, none⟩) (by show w.heap.size + 1 ≠ w.heap.size; omega) _).other (p := ⟨w.heap.size + 1, 1, none⟩) (by show w.heap.size + 1 ≠ w.heap.size; omega) _), Lib.hid ((HB5.out.setCell (p := ⟨w.heap.size + 1, 0, none⟩) (by simp) _).setCell (p := ⟨w.heap.size + 1, 1, none⟩) (by simp) _), HX⟩
        case measure => simp [intOf]; omega
      · have hc' : ¬ (0 : Int) < (n1 : Int) - (n2 : Int) := by omega
        have HX : Hid ((m1, m2) = cutN (gD ps (bgTo ps (k + 1))) S) := Lib.hid (by rw [HNx.out, if_neg hut, HGB.out]; exact HM.out)
        clear hut hy1 hy2
        go_wp2
        go_roundw
        case rel => exact ⟨k + 1, m1, m2, by go_num, by omega, hkx, HT4, HR4, HB5, HX⟩
        case measure => simp [intOf]; omega
    · obtain rfl : k = n := by omega
      have HE : Hid ((cutN (gD ps (bgTo ps k)) S).1 = m1 ∧ (cutN (gD ps (bgTo ps k)) S).2 = m2) := Lib.hid (by rw [← HM.out]; exact ⟨rfl, rfl⟩)
      have r0 := HT.out.cell0
      have r1 := HT.out.cell1
      have f0 := HR.out.frozen 0
      have f9 := HR.out.frozen 1
      have g0 := HR.out.cell0
      have g1 := HR.out.cell1
      go_wp2
      refine bodyPost_ret (res_twoF rfl _ rfl ((HR.out.set0 _).set1 _)) rfl ?_
      exact ⟨by rw [HE.out.1, HE.out.2], (HB.out.setCell (p := ⟨w.heap.size, 0, none⟩) (by simp) _).setCell (p := ⟨w.heap.size, 1, none⟩) (by simp) _⟩

set_option maxHeartbeats 4000000 in
set_option maxRecDepth 20000 in
theorem indexOf_any (a : Option Addr) (g n c S m : Nat) (ps : List Nat) (w : World) (hn : n = ps.length) (hn2 : n ≤ 1000) (hs : SrcV w a g (prs (frs S ps))) (hS : 0 < S) (hm : m < n) (hfst : ∀ j, j < m → gD ps j ≠ gD ps m) :
    Calls Try.prog 78 #[.slice a n c, .agg #[.int .i64 (((cutN (gD ps m) S).1 : Nat) : Int), .int .i64 (((cutN (gD ps m) S).2 : Nat) : Int)]] w fun e w' => e = .returned (.int .i64 (m : Int)) ∧ Below w.heap.size w w' := by
  have HS := Lib.hid fun W hb => hs.below (w' := W) hb
  obtain rfl := hs.1 (by rw [prs_len, frs_len, ← hn]; omega)
  have HN := Lib.hid hn
  have HF : Hid (∀ j, j < ps.length → ((j < m → cutN (gD ps j) S ≠ cutN (gD ps m) S))) := Lib.hid fun j hj h1 e => hfst j h1 (cut_inj hS e)
  obtain ⟨z1, hz1⟩ : ∃ z1, (cutN (gD ps m) S).1 = z1 := ⟨_, rfl⟩
  obtain ⟨z2, hz2⟩ : ∃ z2, (cutN (gD ps m) S).2 = z2 := ⟨_, rfl⟩
  have HZ : Hid (cutN (gD ps m) S = (z1, z2)) := Lib.hid (by rw [← hz1, ← hz2])
  rw [hz1, hz2]
  have HT0 := Lib.hid (two_new w z1 z2)
  have HB0 := Lib.hid (below_alloc w (.cells #[.int .i64 z1, .int .i64 z2] 28))
  clear hs hn hfst hS hz1 hz2
  go_enter Try.func78, Try.ntmps78
  go_wp2
  generalize w.alloc (.cells #[.int .i64 z1, .int .i64 z2] 28) = W0 at *
  go_loopw [8] (fun v wr => ∃ k z : Nat, v = .int .i64 k ∧ k ≤ m ∧ wr = W0.drewN z) (fun v _ => n - (intOf v).toNat)
  case atStart => exact ⟨0, 0, rfl, Nat.zero_le _, rfl⟩
  case round =>
    obtain ⟨k, z, rfl, hk, rfl⟩ := hrel
    have hkn : k < n := by omega
    have hkl : k < ps.length := by rw [← HN.out]; exact hkn
    have hkl2 : k < (frs S ps).length := by rw [frs_len]; exact hkl
    have d1 := (HS.out W0 HB0.out).2 _ _ (prs_at hkl2).1
    have d2 := (HS.out W0 HB0.out).2 _ _ (prs_at hkl2).2
    rw [frs_at hkl, ← gD_at hkl] at d1 d2
    have e2 : 2 * k = k * 2 := Nat.mul_comm _ _
    rw [e2] at d1 d2
    have t3 := HT0.out.cell0
    have t4 := HT0.out.cell1
    have hf := HF.out k hkl
    have j0 : (0 : Int) ≤ (k : Int) := by omega
    have j1 : (k : Int) < (n : Int) := by omega
    have j2 : (k : Int) + 1 ≤ 1001 := by omega
    rcases Nat.lt_or_ge k m with hlt | hge
    · have hne := hf hlt
      rw [HZ.out] at hne
      have hq : (((z1 : Int) == (((cutN (gD ps k) S).1 : Nat) : Int)) && ((z2 : Int) == (((cutN (gD ps k) S).2 : Nat) : Int))) = false := by
        rw [Bool.and_eq_false_iff]
        by_cases h1 : z1 = (cutN (gD ps k) S).1
        · right
          have : ¬ z2 = (cutN (gD ps k) S).2 := fun h2 => hne (by rw [h1, h2])
          simp; omega
        · left; simp; omega
      generalize (cutN (gD ps k) S).1 = y1 at *
      generalize (cutN (gD ps k) S).2 = y2 at *
      have QE := eqPairG_b hq
      clear hq hne hf hkl hkl2 e2
      go_wp2
      go_quiet (fail)
      go_wp2
      go_roundw
      case rel => exact ⟨k + 1, _, by go_num, hlt, rfl⟩
      case measure => simp [intOf]; omega
    · obtain rfl : k = m := by omega
      rw [HZ.out] at d1 d2
      have QE := eqPairG_b (a := (z1 : Int)) (b := (z2 : Int)) (c := (z1 : Int)) (d := (z2 : Int)) (r := true) (by simp)
      have HBf := Lib.hid HB0.out
      clear hf hkl hkl2 e2
      go_wp2
      go_quiet (fail)
      go_wp2
      go_ret
      exact ⟨rfl, HBf.out.trans ⟨rfl, rfl, rfl, Nat.le_refl _, fun _ _ => rfl⟩⟩

set_option maxHeartbeats 4000000 in
set_option maxRecDepth 20000 in
theorem bestGuess_any (a : Option Addr) (b o c : Nat) (xs : List ByteArray) (N d : Int) (y : ByteArray) (w : World) (h : ListIn w a b o xs) (hy : y.size ≤ maxLen) :
    Calls Try.prog 37 #[.agg #[.slice a xs.length c], .agg #[.int .i64 N, .int .i64 d], .string y] w fun e w' => e = .returned (.tuple #[.int .i64 (bgR N d xs y : Int), .bool (csOk N d xs y)]) ∧ Below w.heap.size w w' := by
  have HC := Lib.hid (carT_new w a b o c xs N d h)
  have F1 := Lib.hid fun W h => chancesSent_any a b o c xs N d y W h hy
  have l1 := HC.out.tab
  have l2 := HC.out.noi.cell0
  have l3 := HC.out.noi.cell1
  have l4 := load_noi HC.out.noi
  clear h
  cases hok : csOk N d xs y with
  | false =>
    have e3 : bgR N d xs y = 0 := by unfold bgR; rw [if_neg (by rw [hok]; decide)]
    rw [e3]
    rw [hok] at F1
    clear hok e3
    go_enter Try.func37, Try.ntmps37
    go_wp2_with fail
    refine (F1.out _ HC.out.lst).mono ?_
    rintro e w1 ⟨a', g', c', rfl, hs, _, _, hb⟩
    have HC1 := Lib.hid (HC.out.step hb)
    clear hb l1 l2 l3 l4 hs
    go_wp2
    go_ret2
    exact ⟨rfl, HC1.out.below⟩
  | true =>
    rw [hok] at F1
    have hL : csL N d xs y = frs (csS N d xs y) (snL N.toNat (d - N).toNat xs (bl y)) := by unfold csL; rw [if_pos hok]
    have hB : bgR N d xs y = bgTo (snL N.toNat (d - N).toNat xs (bl y)) xs.length := by unfold bgR; rw [if_pos hok]
    rw [hB]
    rw [hL] at F1
    unfold csOk csB at hok
    rw [Bool.and_eq_true, Bool.and_eq_true, Bool.and_eq_true, decide_eq_true_eq] at hok
    obtain ⟨⟨⟨ht, hg⟩, _⟩, hS⟩ := hok
    obtain ⟨p, q, hN, hd, g1, g2⟩ := goodN_iff.1 hg
    have hN2 : N.toNat = p := by omega
    have hd2 : (d - N).toNat = q := by omega
    have hSd : csS N d xs y = (snL p q xs (bl y)).sum := by unfold csS; rw [hN2, hd2]
    rw [hN2, hd2] at F1 ⊢
    rw [hSd] at F1 hS
    have hn := ((tableB_iff xs).1 ht).1
    have hA := allN_le (p := p) (q := q) (by omega) (by omega)
    have hS2 : (snL p q xs (bl y)).sum ≤ 1000000000000 := Nat.le_trans (sn_le ((tableB_iff xs).1 ht).2.1) (Nat.le_trans (Nat.mul_le_mul hn.2 hA) (by decide))
    have hpl := sn_len p q xs (bl y)
    generalize snL p q xs (bl y) = ps at *
    have hfl : (frs ps.sum ps).length = xs.length := by rw [frs_len]; exact hpl
    rw [hfl] at F1
    have hin : ∀ k (hk : k < ps.length), ps[k] ≤ ps.sum := fun k hk => by
      have e1 := sum_take_succ (List.getElem?_eq_getElem hk)
      have e2 := sum_take_le ps (k + 1)
      omega
    have MX := Lib.hid fun (a' : Option Addr) (g' c' : Nat) (W : World) (hs : SrcV W a' g' (prs (frs ps.sum ps))) => maxOf_any a' g' xs.length c' ps.sum ps W hpl.symm hn.1 (by omega) hs hS hS2 hin
    have IX := Lib.hid fun (a' : Option Addr) (g' c' : Nat) (W : World) (hs : SrcV W a' g' (prs (frs ps.sum ps))) => indexOf_any a' g' xs.length c' ps.sum (bgTo ps xs.length) ps W hpl.symm (by omega) hs hS (bgTo_lt ps _ hn.1) (fun j hj => Nat.ne_of_lt (bgTo_first ps _ j hj))
    generalize (cutN (gD ps (bgTo ps xs.length)) ps.sum).1 = z1 at MX IX
    generalize (cutN (gD ps (bgTo ps xs.length)) ps.sum).2 = z2 at MX IX
    clear hL hB ht hg hS hN hd g1 g2 hN2 hd2 hSd hn hA hS2 hpl hfl hin
    go_enter Try.func37, Try.ntmps37
    go_wp2_with fail
    refine (F1.out _ HC.out.lst).mono ?_
    rintro e w1 ⟨a', g', c', rfl, hs, _, _, hb⟩
    have HC1 := Lib.hid (HC.out.step hb)
    have HS1 := Lib.hid hs
    clear hb l1 l2 l3 l4 hs
    go_wp2_with fail
    refine (MX.out a' g' c' _ HS1.out).mono ?_
    rintro e w2 ⟨rfl, hb⟩
    have HC2 := Lib.hid (HC1.out.step hb)
    have HS2 := Lib.hid (HS1.out.below hb)
    clear hb
    go_wp2_with fail
    refine (IX.out a' g' c' _ HS2.out).mono ?_
    rintro e w3 ⟨rfl, hb⟩
    have HC3 := Lib.hid (HC2.out.step hb)
    clear hb
    go_wp2
    go_ret2
    exact ⟨rfl, HC3.out.below⟩

theorem bestGuess_both (xs : List ByteArray) (N d : Int) (y : ByteArray) (hl : xs.length ≤ 1048576) (ht : ∀ x ∈ xs, x.size ≤ 1048576) (hy : y.size ≤ 1048576) : ∃ (R0 : Int) (R1 : Bool),
    Hid (∀ W a b o c, ListIn W a b o xs → Calls Try.prog 36 #[.agg #[.slice a xs.length c], .agg #[.int .i64 N, .int .i64 d], .string y] W fun e W' => e = .returned (.tuple #[.int .i64 R0, .bool R1]) ∧ Below W.heap.size W W') ∧
    Hid (∀ W a b o c, ListIn W a b o xs → Calls Try.prog 37 #[.agg #[.slice a xs.length c], .agg #[.int .i64 N, .int .i64 d], .string y] W fun e W' => e = .returned (.tuple #[.int .i64 R0, .bool R1]) ∧ Below W.heap.size W W') :=
  ⟨_, _, fun W a b o c h => sBestGuess_any a b o c xs N d y W h (by unfold maxLen; omega), fun W a b o c h => bestGuess_any a b o c xs N d y W h (by unfold maxLen; omega)⟩
end Go.Proofs.Ytomhjfjfmjacfaa
