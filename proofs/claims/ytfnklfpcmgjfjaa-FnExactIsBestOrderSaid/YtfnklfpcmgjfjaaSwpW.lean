/-
  bestSwap of the program, l8Swap of the model: the same swap. Used by the claims on chapter 8.
-/
import Derived.Test.YtfnklfpcmgjfjaaSwpL
import Derived.Test.YtfnklfpcmgjfjaaCstW
import Derived.Test.YtfnklfpcmgjfjaaTwoW
import Derived.Deep.RegionHeld3
namespace Go.Proofs.Ytfnklfpcmgjfjaa
open Go.RowKit
set_option linter.unusedVariables false

theorem res_two3 {fn : Func} {p u q : Tmp} (h : fn.results = #[.cell p 53, .tmp u, .tmp q]) (tmps : Array Value) {w : World} {g : Nat} {x y : Int} (hp : tmps.getD p undef = .pointer (some ⟨g, 0, none⟩)) (hb : Two w g x y) : (results fn tmps).run Try.prog w = .ok (.tuple #[.agg #[.int .i64 x, .int .i64 y], tmps.getD u undef, tmps.getD q undef]) w := by
  have hp' : tmps[p]?.getD undef = .pointer (some ⟨g, 0, none⟩) := by simpa using hp
  simp [results, h, hp', asAddr, load_two hb, Result.andThen]
theorem marks19 {xs : List ByteArray} (h : ∀ x ∈ xs, marksL (bl x) = true) (k : Nat) (hk : k < xs.length) : tAt xs k ≤ 19 := by
  rw [tAt_eq hk]
  have := h _ (List.getElem_mem hk)
  simp only [marksL, Bool.and_eq_true, decide_eq_true_eq] at this
  exact tml_le5 (by omega)
theorem m10_of {m : List Nat} (h : IsWt m) : m.length ≤ 10 := h.len

/-- What a walk knows of the marks and weights that it reads. -/
structure RdS (w : World) (b o g1 : Nat) (xs : List ByteArray) (m : List Nat) : Prop where
  tx : ∀ k (hk : k < xs.length), w.cell? ⟨b, o + k, none⟩ = some (.string xs[k])
  nm : ∀ k (hk : k < m.length), w.cell? ⟨g1, k, none⟩ = some (.int .i64 ((m[k] : Nat) : Int))
theorem RdS.below {w w' : World} {b o g1 : Nat} {xs : List ByteArray} {m : List Nat} (h : RdS w b o g1 xs m) (hb : Below w.heap.size w w') : RdS w' b o g1 xs m :=
  ⟨fun k hk => (hb.cell (World.block_lt_of_cell? _ _ (h.tx k hk))).trans (h.tx k hk), fun k hk => (hb.cell (World.block_lt_of_cell? _ _ (h.nm k hk))).trans (h.nm k hk)⟩
theorem rdS_of {w : World} {a a1 : Option Addr} {b o g1 : Nat} {xs : List ByteArray} {m : List Nat} (hx : Src w a b o xs) (hs : SrcV w a1 g1 (intz (zs m))) : RdS w b o g1 xs m :=
  ⟨fun k hk => hx.2 k _ (List.getElem?_eq_getElem hk), fun k hk => zs_src hs k hk⟩

/-- What the loops keep. -/
structure SwK (w : World) (b o g1 : Nat) (xs : List ByteArray) (m : List Nat) (bi bj : Nat) (wr : World) : Prop where
  rd : RdS wr b o g1 xs m
  below : Below w.heap.size w wr
  res : Two wr w.heap.size 0 0
  best : Two wr (w.heap.size + 1) bi bj
theorem SwK.step {w : World} {b o g1 : Nat} {xs : List ByteArray} {m : List Nat} {bi bj : Nat} {wr wr' : World} (h : SwK w b o g1 xs m bi bj wr) (hb : Below wr.heap.size wr wr') : SwK w b o g1 xs m bi bj wr' :=
  ⟨h.rd.below hb, h.below.trans (hb.mono h.below.size), h.res.below hb, h.best.below hb⟩
theorem RdS.other {w : World} {b o g1 q : Nat} {xs : List ByteArray} {m : List Nat} (h : RdS w b o g1 xs m) (hb : 0 < xs.length → b ≠ q) (hg : 0 < m.length → g1 ≠ q) (j : Nat) (v : Value) : RdS (w.setCell ⟨q, j, none⟩ v) b o g1 xs m :=
  ⟨fun k hk => by rw [World.cell?_setCell_other _ _ _ _ (by intro e; have e2 := congrArg Addr.block e; exact hb (by omega) e2.symm)]; exact h.tx k hk,
   fun k hk => by rw [World.cell?_setCell_other _ _ _ _ (by intro e; have e2 := congrArg Addr.block e; exact hg (by omega) e2.symm)]; exact h.nm k hk⟩
theorem SwK.set {w : World} {b o g1 : Nat} {xs : List ByteArray} {m : List Nat} {bi bj : Nat} {wr : World} (h : SwK w b o g1 xs m bi bj wr) (hb : 0 < xs.length → b < w.heap.size) (hg : 0 < m.length → g1 < w.heap.size) (i j : Nat) :
    SwK w b o g1 xs m i j ((wr.setCell ⟨w.heap.size + 1, 0, none⟩ (.int .i64 (i : Int))).setCell ⟨w.heap.size + 1, 1, none⟩ (.int .i64 (j : Int))) :=
  ⟨(h.rd.other (fun h0 => by have := hb h0; omega) (fun h0 => by have := hg h0; omega) _ _).other (fun h0 => by have := hb h0; omega) (fun h0 => by have := hg h0; omega) _ _,
   (h.below.setCell (p := ⟨w.heap.size + 1, 0, none⟩) (by show w.heap.size ≤ w.heap.size + 1; omega) _).setCell (p := ⟨w.heap.size + 1, 1, none⟩) (by show w.heap.size ≤ w.heap.size + 1; omega) _,
   (h.res.other (by show w.heap.size + 1 ≠ w.heap.size; omega) _).other (by show w.heap.size + 1 ≠ w.heap.size; omega) _,
   (h.best.set0 _).set1 _⟩
theorem swK_new {w : World} {b o g1 : Nat} {xs : List ByteArray} {m : List Nat} (h : RdS w b o g1 xs m) : SwK w b o g1 xs m 0 0 ((w.alloc (.cells #[.int .i64 0, .int .i64 0] 53)).alloc (.cells #[.int .i64 0, .int .i64 0] 53)) := by
  have hT := two_new (w.alloc (.cells #[.int .i64 0, .int .i64 0] 53)) 0 0
  have e0 : (w.alloc (.cells #[.int .i64 0, .int .i64 0] 53)).heap.size = w.heap.size + 1 := by simp
  rw [e0] at hT
  exact ⟨(h.below (below_alloc _ _)).below (below_alloc _ _), (below_alloc _ _).alloc (by simp) _, (two_new w 0 0).below (below_alloc _ _), hT⟩

set_option maxHeartbeats 4000000 in
set_option maxRecDepth 20000 in
theorem bestSwap_any (a : Option Addr) (b o c : Nat) (xs : List ByteArray) (a1 : Option Addr) (g1 c1 : Nat) (m : List Nat) (w : World) (hx : Src w a b o xs) (hs : SrcV w a1 g1 (intz (zs m))) (hmk : ∀ x ∈ xs, marksL (bl x) = true) (hm : IsWt m) (hl : m.length = xs.length) :
    Calls Try.prog 76 #[.slice a xs.length c, .slice a1 m.length c1] w fun e w' => e = .returned (.tuple #[.agg #[.int .i64 ((swR (uAt m) (tAt xs) xs.length).1.1 : Nat), .int .i64 ((swR (uAt m) (tAt xs) xs.length).1.2 : Nat)], .int .i64 (swR (uAt m) (tAt xs) xs.length).2, .bool (decide (0 < (swR (uAt m) (tAt xs) xs.length).2))]) ∧ Below w.heap.size w w' := by
  have hn0 := hm.pos
  have hn10 := hm.len
  have HT := Lib.hid fun k (hk : k < xs.length) w => timeOf_any xs[k] w (hmk _ (List.getElem_mem hk))
  have H99 := Lib.hid fun k => uAt_le hm k
  have H19 := Lib.hid (marks19 hmk)
  have HK0 := Lib.hid (swK_new (rdS_of hx hs))
  have HA := Lib.hid hx.1
  have HX := Lib.hid hs.1
  have HLb : Hid (0 < xs.length → b < w.heap.size) := Lib.hid (fun h => src_lt hx h)
  have HLg : Hid (0 < m.length → g1 < w.heap.size) := Lib.hid (fun h => srcV_lt hs (by rw [intz_len, zs_len]; exact h))
  obtain ⟨n, hn⟩ : ∃ n, n = xs.length := ⟨_, rfl⟩
  have HN : Hid (n = xs.length ∧ n = m.length) := Lib.hid ⟨hn, by omega⟩
  rw [hl, ← hn] at hn0 hn10
  rw [hl, ← hn]
  obtain ⟨ri, rj, rz, hR⟩ : ∃ ri rj rz, swR (uAt m) (tAt xs) n = ((ri, rj), rz) := ⟨_, _, _, rfl⟩
  rw [hR]
  have HR := Lib.hid hR
  clear hx hs hmk hm hl hn hR
  go_enter Try.func76, Try.ntmps76
  go_wp2
  go_loopw [8, 15] (fun s v wr => ∃ (i bi bj : Nat) (z : Int), v = .int .i64 i ∧ i ≤ n ∧ s = .int .i64 z ∧ Hid (((bi, bj), z) = swOut (uAt m) (tAt xs) n i) ∧ Hid (SwK w b o g1 xs m bi bj wr)) (fun _ v _ => n - (intOf v).toNat)
  case atStart => exact ⟨0, 0, 0, 0, rfl, Nat.zero_le _, rfl, Lib.hid rfl, HK0⟩
  case round =>
    obtain ⟨i, bi, bj, z, rfl, hi, rfl, HZ, HK⟩ := hrel
    by_cases hlt : i < n
    · have HS0 : Hid (((bi, bj), z) = swIn (uAt m) (tAt xs) i (swOut (uAt m) (tAt xs) n i) (i + 1 - i - 1)) := Lib.hid (by rw [show i + 1 - i - 1 = 0 by omega]; exact HZ.out)
      have i0 : (i : Int) < (n : Int) := by omega
      go_wp2
      go_loopw [8, 10] (fun s v wr2 => ∃ (j bi bj : Nat) (z : Int), v = .int .i64 j ∧ i < j ∧ j ≤ n ∧ s = .int .i64 z ∧ Hid (((bi, bj), z) = swIn (uAt m) (tAt xs) i (swOut (uAt m) (tAt xs) n i) (j - i - 1)) ∧ Hid (SwK w b o g1 xs m bi bj wr2)) (fun _ v _ => n - (intOf v).toNat)
      case atStart => exact ⟨i + 1, bi, bj, z, by go_num, by omega, by omega, rfl, HS0, HK⟩
      case round =>
        clear HS0 HZ HK
        obtain ⟨j, bi, bj, z, rfl, hij, hj, rfl, HZ, HK⟩ := hrel
        by_cases hltj : j < n
        · have hix : i < xs.length := by rw [← HN.out.1]; exact hlt
          have hjx : j < xs.length := by rw [← HN.out.1]; exact hltj
          have him : i < m.length := by rw [← HN.out.2]; exact hlt
          have hjm : j < m.length := by rw [← HN.out.2]; exact hltj
          obtain rfl := HA.out (by omega)
          obtain rfl := HX.out (by rw [intz_len, zs_len]; omega)
          have Fi := Lib.hid (HT.out i hix)
          have Fj := Lib.hid (HT.out j hjx)
          have HF : Hid (∀ W, Below wr.heap.size wr W → W.cell? ⟨b, o + i, none⟩ = some (.string xs[i]) ∧ W.cell? ⟨b, o + j, none⟩ = some (.string xs[j]) ∧ W.cell? ⟨g1, i, none⟩ = some (.int .i64 ((m[i] : Nat) : Int)) ∧ W.cell? ⟨g1, j, none⟩ = some (.int .i64 ((m[j] : Nat) : Int))) := Lib.hid fun W hb => by
            have h := HK.out.rd.below hb
            exact ⟨h.tx i hix, h.tx j hjx, h.nm i him, h.nm j hjm⟩
          have b1 := H99.out i
          have b2 := H99.out j
          have b3 := H19.out i hix
          have b4 := H19.out j hjx
          have HG : Hid (gain (uAt m) (tAt xs) i j = ((uAt m i : Int) - (uAt m j : Int)) * ((tAt xs i : Int) - (tAt xs j : Int))) := Lib.hid rfl
          rw [uAt_eq him] at b1 HG
          rw [uAt_eq hjm] at b2 HG
          rw [tAt_eq hix] at b3 HG
          rw [tAt_eq hjx] at b4 HG
          generalize xs[i] = x at Fi HF b3 HG
          generalize xs[j] = y at Fj HF b4 HG
          generalize tml (bl x) = tx at Fi b3 HG
          generalize tml (bl y) = ty at Fj b4 HG
          generalize m[i] = ux at HF b1 HG
          generalize m[j] = uy at HF b2 HG
          obtain ⟨d1, d2, p, hp, p1, p2, e1, e2, e3, e4, e5, e6⟩ := gain_wrap b1 b2 b3 b4
          rw [← hp] at HG
          have EW := Lib.hid (And.intro e1 (And.intro e2 (And.intro e3 (And.intro e4 (And.intro e5 e6)))))
          have HSt : Hid (swIn (uAt m) (tAt xs) i (swOut (uAt m) (tAt xs) n i) (j + 1 - i - 1) = if z < p then ((i, j), p) else ((bi, bj), z)) := Lib.hid (by
            rw [swIn_step _ _ _ _ _ hij, ← HZ.out]; unfold swS; rw [HG.out])
          clear e1 e2 e3 e4 e5 e6 hp b1 b2 b3 b4 hix hjx him hjm
          have HBd : Hid (Below wr.heap.size wr wr.drew) := Lib.hid (Below.refl wr.heap.size wr).drew
          have hd := HF.out wr (Below.refl _ _)
          have i1 : (0 : Int) ≤ (i : Int) := by omega
          have j0 : (0 : Int) ≤ (j : Int) := by omega
          have j1 : (j : Int) < (n : Int) := by omega
          obtain ⟨d1c, d2c, d3c, d4c⟩ := hd
          obtain ⟨e1, e2, e3, e4, e5, e6⟩ := EW.out
          go_wp2
          go_region_held3 (fun w' => w'.cell? ⟨b, o + i, none⟩ = some (.string x) ∧ w'.cell? ⟨b, o + j, none⟩ = some (.string y) ∧ w'.cell? ⟨g1, i, none⟩ = some (.int .i64 (ux : Int)) ∧ w'.cell? ⟨g1, j, none⟩ = some (.int .i64 (uy : Int)))
            (first
              | with_reducible exact HF.out _ HB5.out
              | with_reducible exact HF.out _ HB4.out
              | with_reducible exact HF.out _ HBd.out)
            ((first
              | (go_at_call 82; with_reducible refine (Fi.out _).mono ?_; rintro e w4 ⟨rfl, hb4⟩; have HB4 : Hid (Below wr.heap.size wr w4) := Lib.hid (HBd.out.trans (hb4.mono HBd.out.size)); clear hb4)
              | (go_at_call 82; with_reducible refine (Fj.out _).mono ?_; rintro e w5 ⟨rfl, hb5⟩; have HB5 : Hid (Below wr.heap.size wr w5) := Lib.hid (HB4.out.trans (hb5.mono HB4.out.size)); clear hb5)))
          all_goals (
            clear e1 e2 e3 e4 e5 e6 d1c d2c d3c d4c EW
            have HK5 := Lib.hid (HK.out.step HB5.out)
            by_cases hzp : z < p
            · have HN2 : Hid (((i, j), p) = swIn (uAt m) (tAt xs) i (swOut (uAt m) (tAt xs) n i) (j + 1 - i - 1)) := Lib.hid (by rw [HSt.out, if_pos hzp])
              have HK6 := Lib.hid (HK5.out.set HLb.out HLg.out i j)
              have k0 := HK5.out.best.cell0
              have k1 := HK5.out.best.cell1
              have f0 := HK5.out.best.frozen 0
              have f1 := HK5.out.best.frozen 1
              go_wp2
              go_roundw
              case rel => exact ⟨j + 1, i, j, p, by go_num, by omega, by omega, rfl, HN2, HK6⟩
              case measure => simp [intOf]; omega
            · have HN2 : Hid (((bi, bj), z) = swIn (uAt m) (tAt xs) i (swOut (uAt m) (tAt xs) n i) (j + 1 - i - 1)) := Lib.hid (by rw [HSt.out, if_neg hzp])
              go_wp2
              go_roundw
              case rel => exact ⟨j + 1, bi, bj, z, by go_num, by omega, by omega, rfl, HN2, HK5⟩
              case measure => simp [intOf]; omega)
        · obtain rfl : j = n := by omega
          have HE : Hid (((bi, bj), z) = swOut (uAt m) (tAt xs) j (i + 1)) := Lib.hid (by rw [swOut, show j - 1 - i = j - i - 1 by omega]; exact HZ.out)
          have j1 : ¬ (j : Int) < (j : Int) := by omega
          go_wp2
          go_roundw
          case rel => exact ⟨i + 1, bi, bj, z, by go_num, by omega, rfl, HE, HK⟩
          case measure => simp [intOf]; omega
    · obtain rfl : i = n := by omega
      have HE : Hid (ri = bi ∧ rj = bj ∧ rz = z) := Lib.hid (by
        have h := HR.out
        unfold swR at h
        rw [← HZ.out] at h
        have h1 := congrArg (fun p => p.1.1) h
        have h2 := congrArg (fun p => p.1.2) h
        have h3 := congrArg (fun p => p.2) h
        exact ⟨h1.symm, h2.symm, h3.symm⟩)
      have l1 := load_two HK.out.best
      have k0 := HK.out.best.cell0
      have k1 := HK.out.best.cell1
      have r0 := HK.out.res.cell0
      have r1 := HK.out.res.cell1
      have f0 := HK.out.res.frozen 0
      have f1 := HK.out.res.frozen 1
      go_wp2
      refine bodyPost_ret (res_two3 rfl _ rfl ((HK.out.res.set0 _).set1 _)) rfl ?_
      exact ⟨by rw [HE.out.1, HE.out.2.1, HE.out.2.2]; rfl, (HK.out.below.setCell (p := ⟨w.heap.size, 0, none⟩) (Nat.le_refl _) _).setCell (p := ⟨w.heap.size, 1, none⟩) (Nat.le_refl _) _⟩
end Go.Proofs.Ytfnklfpcmgjfjaa
