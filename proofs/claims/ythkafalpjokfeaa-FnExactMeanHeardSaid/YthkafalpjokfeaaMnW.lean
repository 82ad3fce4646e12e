/-
  meanOf of the program, for any way to be told a letter; l11Mean of the model. Used by the claims on chapter 11.
-/
import Derived.Test.YthkafalpjokfeaaLtD
import Derived.Test.YthkafalpjokfeaaCstW
import Derived.Test.YthkafalpjokfeaaFrW
import Derived.Deep.RegionWith
namespace Go.Proofs.Ythkafalpjokfeaa
open Go.RowKit
set_option linter.unusedVariables false

/-! ### Plain -/
def mnAll (m : List Nat) : Nat := cst (uAt m) (fun _ => 1) m.length
def mnSum (f : Nat → Nat) (m : List Nat) : Nat := cst (uAt m) f m.length
def mnOk (xs : List ByteArray) (l : List Int) : Bool := fitB xs l && decide (0 < mnAll (l.map Int.toNat))
def mnR (f : Nat → Nat) (xs : List ByteArray) (l : List Int) : Nat × Nat := if mnOk xs l = true then cutN (mnSum f (l.map Int.toNat)) (mnAll (l.map Int.toNat)) else (0, 0)
theorem mn_no {f : Nat → Nat} {xs : List ByteArray} {l : List Int} (h : mnOk xs l = false) : mnR f xs l = (0, 0) := if_neg (by rw [h]; simp)
theorem mn_yes {f : Nat → Nat} {xs : List ByteArray} {m : List Nat} (h : fitB xs (zs m) = true) : mnOk xs (zs m) = decide (0 < mnAll m) ∧ (0 < mnAll m → mnR f xs (zs m) = cutN (mnSum f m) (mnAll m)) := by
  have h1 : mnOk xs (zs m) = decide (0 < mnAll m) := by unfold mnOk; rw [h, map_zs, Bool.true_and]
  refine ⟨h1, fun h0 => ?_⟩
  unfold mnR
  rw [h1, if_pos (decide_eq_true h0), map_zs]
theorem mul_ten {x y : Nat} (hx : x ≤ 99) (hy : y ≤ 19) : ∃ p : Nat, p = x * y ∧ p ≤ 1881 ∧ (x : Int) * (y : Int) = (p : Int) := mul_small hx hy

/-! ### What a way keeps -/
def Keep (n : Nat) (W W' : World) : Prop := W.heap.size ≤ W'.heap.size ∧ ∀ i, n ≤ i → i < W.heap.size → W'.heap[i]? = W.heap[i]?
theorem Keep.refl (n : Nat) (W : World) : Keep n W W := ⟨Nat.le_refl _, fun _ _ _ => rfl⟩
theorem Keep.trans {n : Nat} {W W' W'' : World} (h : Keep n W W') (h' : Keep n W' W'') : Keep n W W'' := ⟨Nat.le_trans h.1 h'.1, fun i hi hl => (h'.2 i hi (Nat.lt_of_lt_of_le hl h.1)).trans (h.2 i hi hl)⟩
theorem Below.keep {n : Nat} {W W' : World} (h : Below W.heap.size W W') : Keep n W W' := ⟨h.size, fun i _ hi => h.block i hi⟩
theorem Keep.cell {n : Nat} {W W' : World} (h : Keep n W W') {p : Addr} {v : Value} (hp : n ≤ p.block) (hc : W.cell? p = some v) : W'.cell? p = some v :=
  (World.cell?_of_block (h.2 p.block hp (World.block_lt_of_cell? _ _ hc))).trans hc
theorem Keep.two {n : Nat} {W W' : World} (h : Keep n W W') {g : Nat} {x y : Int} (hg : n ≤ g) (ht : Two W g x y) : Two W' g x y :=
  (h.2 g hg (Array.getElem?_eq_some_iff.1 ht).1).trans ht
theorem Keep.mono {n n' : Nat} {W W' : World} (h : Keep n W W') (hn : n ≤ n') : Keep n' W W' := ⟨h.1, fun i hi hl => h.2 i (Nat.le_trans hn hi) hl⟩
theorem Keep.setCell {n : Nat} {W W' : World} (h : Keep n W W') {p : Addr} (hp : W.heap.size ≤ p.block) (u : Value) : Keep n W (W'.setCell p u) :=
  ⟨by simpa [World.setCell] using h.1, fun i hi hl => by
    rw [← h.2 i hi hl]
    simp only [World.setCell, Array.getElem?_modify]
    rw [if_neg (by omega)]⟩
/-- A way to be told a letter: what it keeps, and what it answers. -/
structure Way (I : World → Prop) (n0 : Nat) (T : TypeId) (v : Value) (fid : FuncId) (f : Nat → Nat) (a : Option Addr) (b o : Nat) (xs : List ByteArray) (a1 : Option Addr) (g1 : Nat) (l : List Int) : Prop where
  grow : ∀ W W', I W → Below W.heap.size W W' → I W'
  set : ∀ W p u, I W → n0 ≤ p.block → I (W.setCell p u)
  src : ∀ W, I W → ListIn W a b o xs ∧ SrcV W a1 g1 (intz l)
  meth : ∀ W, (method 252 T v "loop.example/g01248/impl.stepsTo").run Try.prog W = .ok (fid, v) W
  ent : ∀ args W, (callFunc fid args).run Try.prog W = .ok (.enter fid args) W
  bound : ∀ k, f k ≤ 19
  call : tableB xs = true → ∀ (k : Nat) (W : World), I W → n0 ≤ W.heap.size → k < xs.length → Calls Try.prog fid #[v, .int .i64 k] W fun e W' => e = .returned (.int .i64 ((f k : Nat) : Int)) ∧ I W' ∧ Keep n0 W W'

set_option maxHeartbeats 4000000 in
set_option maxRecDepth 8000 in
theorem meanOf_any {I : World → Prop} {n0 : Nat} {T : TypeId} {v : Value} {fid : FuncId} {f : Nat → Nat} (a : Option Addr) (b o c : Nat) (xs : List ByteArray) (a1 : Option Addr) (g1 c1 : Nat) (l : List Int) (w : World) (hW : Way I n0 T v fid f a b o xs a1 g1 l) (hw : I w) (hn : n0 ≤ w.heap.size) (hl : l.length ≤ 1048576) :
    Calls Try.prog 80 #[.agg #[.slice a xs.length c], .slice a1 l.length c1, .iface T v] w fun e w' => e = .returned (.tuple #[.agg #[.int .i64 (((mnR f xs l).1 : Nat) : Int), .int .i64 (((mnR f xs l).2 : Nat) : Int)], .bool (mnOk xs l)]) ∧ I w' ∧ Keep n0 w w' := by
  have F := Lib.hid fun W hI => areWFor_any a b o c xs a1 g1 c1 l W (hW.src W hI).1 (hW.src W hI).2 hl
  have HI0 := Lib.hid (hW.grow _ _ (hW.grow _ _ hw (below_alloc w (.cells #[.slice a xs.length c] 29))) (below_alloc _ (.cells #[.int .i64 0, .int .i64 0] 43)))
  have HK0 : Hid (Keep n0 w ((w.alloc (.cells #[.slice a xs.length c] 29)).alloc (.cells #[.int .i64 0, .int .i64 0] 43))) := Lib.hid ((Below.keep (below_alloc w _)).trans (Below.keep (below_alloc _ _)))
  have e0 : (w.alloc (.cells #[.slice a xs.length c] 29)).heap.size = w.heap.size + 1 := by simp
  have HT0 : Hid (Two ((w.alloc (.cells #[.slice a xs.length c] 29)).alloc (.cells #[.int .i64 0, .int .i64 0] 43)) (w.heap.size + 1) 0 0) := Lib.hid (by
    have := two_new (w.alloc (.cells #[.slice a xs.length c] 29)) 0 0
    rw [e0] at this
    exact this)
  clear e0
  have hM := hW.meth
  have hE := hW.ent
  by_cases hf : fitB xs l = true
  · obtain ⟨m, rfl, hm, ht, hlen⟩ := fit_nat hf
    have F2 := Lib.hid fun W hI => val_eq (v' := .bool true) (F.out W hI) (by rw [hf])
    have HC := Lib.hid fun k W hI h0 hk => hW.call ht k W hI h0 hk
    have H19 := Lib.hid hW.bound
    have H99 := Lib.hid fun k => uAt_le hm k
    have HS := Lib.hid fun W hI => (hW.src W hI).2
    have HSt := Lib.hid hW.set
    have HG := Lib.hid hW.grow
    have HR := Lib.hid (mn_yes (f := f) hf)
    have hm10 := hm.len
    have HN := Lib.hid hlen
    have HN0 := Lib.hid hn
    rw [zs_len] at F2 ⊢
    clear F hf hw hn hW ht hm
    obtain ⟨n, hnn⟩ : ∃ n, n = m.length := ⟨_, rfl⟩
    have HLn := Lib.hid hnn
    rw [← hnn] at hm10 hlen F2 ⊢
    clear hnn hlen
    go_enter Try.func80, Try.ntmps80
    go_wp2_with fail
    generalize (w.alloc (.cells #[.slice a xs.length c] 29)).alloc (.cells #[.int .i64 0, .int .i64 0] 43) = W0 at *
    with_reducible refine (F2.out _ HI0.out).mono ?_
    rintro e w1 ⟨rfl, hb⟩
    have HI1 := Lib.hid (HG.out _ _ HI0.out hb)
    have HK1 := Lib.hid (HK0.out.trans (Below.keep hb))
    have HT1 := Lib.hid (HT0.out.below hb)
    clear hb
    go_wp2
    go_loopw [8, 9, 19] (fun s u v wr => ∃ (k z y : Nat), v = .int .i64 k ∧ k ≤ n ∧ s = .int .i64 z ∧ z ≤ 1881 * k ∧ u = .int .i64 y ∧ y ≤ 99 * k ∧ Hid (z = cst (uAt m) f k) ∧ Hid (y = cst (uAt m) (fun _ => 1) k) ∧ Hid (I wr) ∧ Hid (Keep n0 w wr) ∧ Hid (Two wr (w.heap.size + 1) 0 0)) (fun _ _ v _ => n - (intOf v).toNat)
    case atStart => exact ⟨0, 0, 0, rfl, Nat.zero_le _, rfl, by omega, rfl, by omega, Lib.hid rfl, Lib.hid rfl, HI1, HK1, HT1⟩
    case round =>
      obtain ⟨k, z, y, rfl, hk, rfl, hz2, rfl, hy2, HZ, HY, HI, HK, HT⟩ := hrel
      by_cases hlt : k < n
      · have hkm : k < m.length := by rw [← HLn.out]; exact hlt
        have hkx : k < xs.length := by rw [← HN.out]; exact hkm
        obtain rfl := (HS.out wr HI.out).1 (by rw [intz_len, zs_len]; omega)
        have d1 := zs_src (HS.out wr HI.out) k hkm
        have G := Lib.hid (HC.out k wr HI.out (Nat.le_trans HN0.out HK.out.1) hkx)
        have c1' := H99.out k
        have c2' := H19.out k
        have HC1 : Hid (cst (uAt m) f (k + 1) = z + uAt m k * f k) := Lib.hid (by rw [cst, HZ.out])
        have HC2 : Hid (cst (uAt m) (fun _ => 1) (k + 1) = y + uAt m k) := Lib.hid (by rw [cst, HY.out, Nat.mul_one])
        rw [uAt_eq hkm] at c1' HC1 HC2
        generalize m[k] = x at d1 c1' HC1 HC2
        generalize f k = q at G c2' HC1
        obtain ⟨p, hp, hp2, hpi⟩ := mul_small c1' c2'
        have HD1 : Hid (z + p = cst (uAt m) f (k + 1)) := Lib.hid (by rw [HC1.out, hp])
        have HD2 : Hid (y + x = cst (uAt m) (fun _ => 1) (k + 1)) := Lib.hid HC2.out.symm
        have q1 : z + p ≤ 1881 * (k + 1) := by omega
        have q2 : y + x ≤ 99 * (k + 1) := by omega
        have q3 : k + 1 ≤ n := by omega
        have q4 : z ≤ 40000 := by omega
        have q5 : p ≤ 40000 := by omega
        have q6 : y ≤ 40000 := by omega
        have q7 : x ≤ 40000 := by omega
        obtain ⟨e1, e2⟩ := wrap_small q5
        obtain ⟨e3, e4⟩ := wrap_sum q4 q5
        obtain ⟨e5, e6⟩ := wrap_sum q6 q7
        clear hp hkm c1' c2' hp2
        go_wp2_with fail
        refine (G.out).mono ?_
        rintro e w2 ⟨rfl, hI2, hK2⟩
        have HI2 := Lib.hid hI2
        have HK2 := Lib.hid (HK.out.trans hK2)
        have HT2 := Lib.hid (hK2.two (Nat.le_trans HN0.out (Nat.le_succ _)) HT.out)
        clear hI2 hK2 d1
        go_wp2
        clear e1 e2 e3 e4 e5 e6
        go_roundw
        case rel => exact ⟨k + 1, z + p, y + x, by go_num, q3, by go_num, q1, by go_num, q2, HD1, HD2, HI2, HK2, HT2⟩
        case measure => simp [intOf]; omega
      · obtain rfl : k = n := by omega
        have HA : Hid (mnAll m = y) := Lib.hid (by unfold mnAll; rw [← HLn.out, HY.out])
        have HS2 : Hid (mnSum f m = z) := Lib.hid (by unfold mnSum; rw [← HLn.out, HZ.out])
        rcases Nat.eq_zero_or_pos y with h0 | h0
        · subst h0
          have hT := HT.out
          have f0 := hT.frozen 0
          have f1 := hT.frozen 1
          have g0 := hT.cell0
          have g1 := hT.cell1
          clear hT
          have HO : Hid (mnOk xs (zs m) = false) := Lib.hid (by rw [HR.out.1, HA.out]; rfl)
          have HP := Lib.hid (mn_no (f := f) HO.out)
          go_wp2
          refine bodyPost_ret (res_two rfl _ rfl ((HT.out.set0 _).set1 _)) rfl ?_
          exact ⟨by rw [HO.out, HP.out]; rfl, HSt.out _ _ _ (HSt.out _ _ _ HI.out (Nat.le_trans HN0.out (Nat.le_succ _))) (Nat.le_trans HN0.out (Nat.le_succ _)), (HK.out.setCell (by simp) _).setCell (by simp) _⟩
        · have HO : Hid (mnOk xs (zs m) = true) := Lib.hid (by rw [HR.out.1, HA.out]; exact decide_eq_true h0)
          have HP : Hid (mnR f xs (zs m) = cutN z y) := Lib.hid (by rw [HR.out.2 (by rw [HA.out]; exact h0), HA.out, HS2.out])
          have t1 : ((y : Int) == 0) = false := by simp; omega
          have Fr := Lib.hid fun W => frac_any z y W (by omega) h0 (by omega)
          generalize hc1 : (cutN z y).1 = r1 at Fr
          generalize hc2 : (cutN z y).2 = r2 at Fr
          have HV : Hid (mnR f xs (zs m) = (r1, r2)) := Lib.hid (by rw [HP.out, ← hc1, ← hc2])
          clear hc1 hc2 HP h0
          go_wp2_with fail
          refine (Fr.out _).mono ?_
          rintro e w2 ⟨rfl, hb⟩
          have HI2 := Lib.hid (HG.out _ _ HI.out hb)
          have HK2 := Lib.hid (HK.out.trans (Below.keep hb))
          have HT2 := Lib.hid (HT.out.below hb)
          have hT := HT2.out
          have f0 := hT.frozen 0
          have f1 := hT.frozen 1
          have g0 := hT.cell0
          have g1 := hT.cell1
          clear hT hb
          go_wp2
          refine bodyPost_ret (res_two rfl _ rfl ((HT2.out.set0 _).set1 _)) rfl ?_
          exact ⟨by rw [HO.out, HV.out]; rfl, HSt.out _ _ _ (HSt.out _ _ _ HI2.out (Nat.le_trans HN0.out (Nat.le_succ _))) (Nat.le_trans HN0.out (Nat.le_succ _)), (HK2.out.setCell (by simp) _).setCell (by simp) _⟩
  · have hf' : fitB xs l = false := by simpa using hf
    have F2 := Lib.hid fun W hI => val_eq (v' := .bool false) (F.out W hI) (by rw [hf'])
    have HO : Hid (mnOk xs l = false) := Lib.hid (by unfold mnOk; rw [hf']; rfl)
    have HP := Lib.hid (mn_no (f := f) HO.out)
    have HSt := Lib.hid hW.set
    have HG := Lib.hid hW.grow
    have HN0 := Lib.hid hn
    rw [HO.out, HP.out]
    clear F hf hf' hw hn hW hM hE
    go_enter Try.func80, Try.ntmps80
    go_wp2_with fail
    generalize (w.alloc (.cells #[.slice a xs.length c] 29)).alloc (.cells #[.int .i64 0, .int .i64 0] 43) = W0 at *
    with_reducible refine (F2.out _ HI0.out).mono ?_
    rintro e w1 ⟨rfl, hb⟩
    have HI1 := Lib.hid (HG.out _ _ HI0.out hb)
    have HK1 := Lib.hid (HK0.out.trans (Below.keep hb))
    have HT1 := Lib.hid (HT0.out.below hb)
    have hT := HT1.out
    have f0 := hT.frozen 0
    have f1 := hT.frozen 1
    have g0 := hT.cell0
    have g1 := hT.cell1
    clear hT hb
    go_wp2
    refine bodyPost_ret (res_two rfl _ rfl ((HT1.out.set0 _).set1 _)) rfl ?_
    exact ⟨rfl, HSt.out _ _ _ (HSt.out _ _ _ HI1.out (Nat.le_trans HN0.out (Nat.le_succ _))) (Nat.le_trans HN0.out (Nat.le_succ _)), (HK1.out.setCell (by simp) _).setCell (by simp) _⟩
end Go.Proofs.Ythkafalpjokfeaa
