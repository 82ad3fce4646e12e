/-
  l8First of the model: letter by letter the first text with which the least cost can be had. Used by the claims on chapter 8.
-/
import Derived.Test.YtdphjnbelggcfaaFstL
namespace Go.Proofs.Ytdphjnbelggcfaa
open Go.RowKit
set_option linter.unusedVariables false

/-- What the outer loop keeps, in memory. -/
structure FstK (w wr : World) (i : Nat) (outL left : List ByteArray) (ov lv : Value) : Prop where
  own : wr.ownsRow w.heap.size 9 1 ov i (outL.map Value.string)
  lrow : wr.ownsRow w.heap.size 9 1 lv left.length (left.map Value.string)
  ne : ∀ q, ov.ownBlock = some q → lv.ownBlock ≠ some q
  below : Below w.heap.size w wr
theorem FstK.step {w wr wr' : World} {i : Nat} {outL left : List ByteArray} {ov lv : Value} (h : FstK w wr i outL left ov lv) (hb : Below wr.heap.size wr wr') : FstK w wr' i outL left ov lv :=
  ⟨row_below h.own hb, row_below h.lrow hb, h.ne, h.below.trans (hb.mono h.below.size)⟩
theorem ne_rows {w : World} {b1 b2 n1 n2 : Nat} {v1 v2 : Value} {x1 x2 : List Value} {W : World} (h1 : W.ownsRow b1 9 1 v1 n1 x1) (h2 : w.ownsRow b2 9 1 v2 n2 x2) (hb : W.heap.size ≤ b2) : ∀ q, v1.ownBlock = some q → v2.ownBlock ≠ some q := fun q e e2 => by
  have := (h1.lt q e).2
  have := (h2.lt q e2).1
  omega
theorem kept_apart {V : World} {b n : Nat} {v1 v2 : Value} {x : List Value} (hr : V.ownsRow b 9 1 v2 n x) (hlt : ∀ q, v1.ownBlock = some q → q < b) : v2.ownBlock = none ∨ v2.ownBlock ≠ v1.ownBlock := by
  cases h : v2.ownBlock with
  | none => exact .inl rfl
  | some q =>
    right
    intro e
    have h1 := hlt q e.symm
    have h2 := (hr.lt q h).1
    omega
theorem cst_take {us : List Nat} {t : Nat → Nat} {i : Nat} (hi : i ≤ us.length) : cst (uAt (us.take i)) t (us.take i).length = cst (uAt us) t i := by
  rw [List.length_take, Nat.min_eq_left hi]
  refine cst_congr i fun k hk => ⟨?_, rfl⟩
  unfold uAt
  rw [List.getD_eq_getElem?_getD, List.getElem?_take_of_lt hk, ← List.getD_eq_getElem?_getD]
theorem bc_le {T us : List Nat} (hT : ∀ t ∈ T, t ≤ 19) (hu : ∀ u ∈ us, u ≤ 99) (h10 : us.length ≤ 10) : bc T us ≤ 18810 := by
  have key : ∀ (v T : List Nat), (∀ t ∈ T, t ≤ 19) → (∀ u ∈ v, u ≤ 99) → (v.zipWith (· * ·) T).sum ≤ 1881 * v.length := fun v => by
    induction v with
    | nil => intro T _ _; simp
    | cons x v ih =>
      intro T hT hv
      cases T with
      | nil => simp
      | cons t T =>
        have h1 := ih T (fun y hy => hT y (by simp [hy])) (fun y hy => hv y (by simp [hy]))
        have h2 : x * t ≤ 99 * 19 := Nat.mul_le_mul (hv x (by simp)) (hT t (by simp))
        simp only [List.zipWith_cons_cons, List.sum_cons, List.length_cons]
        omega
  have := key (dsc us) T hT (fun u h => hu u ((dsc_perm us).mem_iff.1 h))
  rw [dsc_len] at this
  unfold bc
  omega
theorem tL_le {L : List ByteArray} (h : ∀ y ∈ L, marksL (bl y) = true) : ∀ t ∈ tL L, t ≤ 19 := fun t ht => by
  obtain ⟨y, hy, rfl⟩ := List.mem_map.1 ht
  have := h y hy
  simp only [marksL, Bool.and_eq_true, decide_eq_true_eq] at this
  exact tml_le5 (by omega)
theorem sum3_wrap {x p y : Nat} (hx : x ≤ 40000) (hp : p ≤ 40000) (hy : y ≤ 40000) : (IntKind.i64.wrap ((x : Int) + (p : Int)) = (x : Int) + (p : Int)) ∧ (wrap64 ((x : Int) + (p : Int)) = (x : Int) + (p : Int)) ∧ (IntKind.i64.wrap ((x : Int) + (p : Int) + (y : Int)) = (x : Int) + (p : Int) + (y : Int)) ∧ (wrap64 ((x : Int) + (p : Int) + (y : Int)) = (x : Int) + (p : Int) + (y : Int)) :=
  ⟨IntWalk.i64_in _ (by omega), IntWalk.wrap64_in _ (by omega), IntWalk.i64_in _ (by omega), IntWalk.wrap64_in _ (by omega)⟩

theorem plus_oneF (n : Nat) (h : n ≤ 1000) : IntKind.i64.wrap ((n : Int) + 1) = (n : Int) + 1 ∧ wrap64 ((n : Int) + 1) = (n : Int) + 1 :=
  ⟨IntWalk.i64_in _ (by omega), IntWalk.wrap64_in _ (by omega)⟩
set_option maxHeartbeats 8000000 in
set_option maxRecDepth 100000 in
theorem sFirst_any (b o c : Nat) (L : List ByteArray) (g1 o1 c1 : Nat) (us : List Nat) (n1 n2 : Nat) (w : World) (hn1 : n1 = L.length) (hn2 : n2 = us.length) (hx : Src w (some ⟨b, o, none⟩) b o L) (hs : SrcI w (some ⟨g1, o1, none⟩) g1 o1 (zs us)) (h99 : ∀ u ∈ us, u ≤ 99) (h10 : us.length ≤ 10) (hle : us.length ≤ L.length) (hL : L.length ≤ 500) (hc1 : us.length ≤ c1) (hc1m : c1 ≤ maxLen) (hmk : ∀ y ∈ L, marksL (bl y) = true) (hsrt : (tL L).Pairwise (· ≤ ·)) :
    Calls Try.prog 110 #[.slice (some ⟨b, o, none⟩) n1 c, .slice (some ⟨g1, o1, none⟩) n2 c1] w fun e w' => ∃ v, e = .returned v ∧ w'.ownsRow w.heap.size 9 1 v n2 ((fstL L us).map Value.string) ∧ Below w.heap.size w w' := by
  obtain ⟨i0, hi, hz0, hz1, hz2⟩ := info_parts infoStr
  have HX := Lib.hid fun W (hb : Below w.heap.size w W) => hx.below hb
  have HS := Lib.hid fun W (hb : Below w.heap.size w W) => hs.below hb
  have FB := Lib.hid (sBest_any (some ⟨b, o, none⟩) b o c L (some ⟨g1, o1, none⟩) g1 o1 c1 us n1 n2 w hn1 hn2 hx hs h99 h10 hle (by omega))
  have HmB : Hid (∀ y ∈ bstL L us, marksL (bl y) = true) := Lib.hid fun y hy => by
    obtain ⟨j, hj, rfl⟩ := List.getElem_of_mem hy
    have hju : j < us.length := by rw [bstL_len] at hj; exact hj
    have e := bstL_rk L us j hju
    rw [List.getD_eq_getElem?_getD, List.getElem?_eq_getElem hj] at e
    have hr : rk us j < L.length := by have := usd_lt hju; rw [usd_rk] at this; omega
    rw [List.getD_eq_getElem?_getD, List.getElem?_eq_getElem hr] at e
    have e2 : (bstL L us)[j] = L[rk us j] := e
    rw [e2]
    exact hmk _ (List.getElem_mem hr)
  have FC := Lib.hid fun (B : Nat) (W : World) (hb : Below w.heap.size w W) (hr : RowT W B us.length (bstL L us)) => sCost_any (some ⟨B, 0, none⟩) B 0 n2 (bstL L us) (some ⟨g1, o1, none⟩) g1 o1 c1 us n2 n2 W (by rw [bstL_len]; exact hn2) hn2 hr.src (hs.below hb) HmB.out h99 h10 (by rw [bstL_len]; exact Nat.le_refl _) (by rw [bstL_len]; omega)
  obtain ⟨least, hleast⟩ : ∃ z, z = bc (tL L) us := ⟨_, rfl⟩
  rw [cost_bst hle, ← hleast] at FC
  have hl18 : least ≤ 18810 := by rw [hleast]; exact bc_le (tL_le hmk) h99 h10
  have FO := Lib.hid fun (W : World) (hb : Below w.heap.size w W) => ownS_any b o c L W (by omega) (hx.below hb).2
  rw [← hn1] at FO
  have HI0 := Lib.hid (FstI.start hsrt hmk (us := us))
  have HLe := Lib.hid hleast
  have HN := Lib.hid (And.intro hn1 (And.intro hn2 hle))
  have H99 := Lib.hid h99
  rw [← hn2] at h10 hc1
  unfold maxLen at hc1m
  have hn1L : n1 ≤ 500 := by omega
  clear hn1 hn2 hx hs h99 hle hL hmk hsrt hleast
  go_enter Try.func110, Try.ntmps110
  go_wp2_with fail
  refine FB.out.mono ?_
  rintro e w1 ⟨B1, rfl, hB1, hr1, hb⟩
  have HB1 := Lib.hid hb
  have FC1 := Lib.hid (FC.out B1 w1 hb hr1)
  clear hr1 hb
  go_wp2_with fail
  refine FC1.out.mono ?_
  rintro e w2 ⟨rfl, q2, hq2⟩
  have HB2 : Hid (Below w.heap.size w w2) := Lib.hid (by rw [hq2]; exact below_dr HB1.out q2)
  clear hq2
  have M0 : Hid ((w2.alloc (Obj.cells #[] 9)).ownsRow w.heap.size 9 1 (.slice (some ⟨w2.heap.size, 0, none⟩) 0 0) 0 (([] : List ByteArray).map Value.string)) := Lib.hid
    (World.ownsRow_made (base := w.heap.size) (e := 9) (size := 1) w2 #[] 0 HB2.out.size (by unfold maxLen; omega) rfl)
  have HB3 := Lib.hid (HB2.out.alloc HB2.out.size (.cells #[] 9))
  go_wp2_with fail
  refine (FO.out _ HB3.out).mono ?_
  rintro e w3 ⟨v3, rfl, hown3, _, hb⟩
  rw [HN.out.1, List.take_length] at hown3
  have HK0 : Hid (FstK w w3 0 [] L (.slice (some ⟨w2.heap.size, 0, none⟩) 0 0) v3) := Lib.hid
    ⟨row_below M0.out hb, own_base hown3 HB3.out.size, ne_rows M0.out hown3 (Nat.le_refl _), HB3.out.trans (hb.mono HB3.out.size)⟩
  clear hown3 hb
  go_wp2
  go_loopw [6, 7, 8] (fun s6 s7 iv wr => ∃ (i : Nat) (outL left : List ByteArray) (ov lv : Value), ov = s6 ∧ lv = s7 ∧ iv = .int .i64 i ∧ i ≤ n2 ∧ Hid (FstI L us i outL left) ∧ Hid (FstK w wr i outL left ov lv)) (fun _ _ iv _ => n2 - (intOf iv).toNat)
  case atStart => exact ⟨0, [], L, _, _, rfl, rfl, rfl, Nat.zero_le _, HI0, HK0⟩
  case round =>
    clear HK0 M0 HB3 HB2 HI0 FC1 HB1 FB FC FO
    obtain ⟨i, outL, left, ov, lv, rfl, rfl, rfl, hi2, HI, HK⟩ := hrel
    by_cases hlt : i < n2
    · have hiu : i < us.length := by rw [← HN.out.2.1]; exact hlt
      have HPk := Lib.hid (HI.out.pick hiu HN.out.2.2)
      have HNx := Lib.hid (HI.out.next hiu HN.out.2.2)
      obtain ⟨p, hp⟩ : ∃ p, p = pkF us i left := ⟨_, rfl⟩
      rw [← hp] at HPk HNx
      have hpl := HPk.out.1
      obtain ⟨gl, capl, hlv, hgl1, hgl2⟩ := HK.out.lrow.form (by omega)
      obtain ⟨ao, co, hov⟩ := row_form HK.out.own
      subst hlv
      subst hov
      have hlc : left.length ≤ capl := row_cap HK.out.lrow
      have hll := HI.out.ll
      have HLf : Hid (left.length + i = n1) := Lib.hid (by rw [HN.out.1]; exact hll)
      obtain ⟨W, hW⟩ : ∃ W : World, W = wr := ⟨_, rfl⟩
      rw [← hW] at HK
      have HBW0 : Hid (Below W.heap.size W wr) := Lib.hid (by rw [hW]; exact Below.refl _ _)
      clear hW hp hll
      go_wp2
      go_loopw [6, 7, 9] (fun s6 s7 kv wr2 => ∃ k : Nat, kv = .int .i64 k ∧ s6 = .slice ao i co ∧ s7 = .slice (some ⟨gl, 0, none⟩) left.length capl ∧ k ≤ p ∧ Hid (Below W.heap.size W wr2)) (fun _ _ kv _ => p + 1 - (intOf kv).toNat)
      case atStart => exact ⟨0, rfl, rfl, rfl, Nat.zero_le _, HBW0⟩
      case round =>
        clear HBW0
        obtain ⟨k, rfl, rfl, rfl, hkp, HBW⟩ := hrel
        have HK2 := Lib.hid (HK.out.step HBW.out)
        have hkl : k < left.length := by omega
        have k0 : (0 : Int) ≤ (k : Int) := by omega
        have k1 : (k : Int) < (left.length : Int) := by omega
        have k2 : (k : Int) + 1 ≤ (left.length : Int) := by omega
        have hll5 : left.length ≤ 500 := by have := HLf.out; omega
        have HSl : Hid (∀ W', Below wr.heap.size wr W' → Src W' (some ⟨gl, 0, none⟩) gl 0 left) := Lib.hid fun W' hb => by
          obtain ⟨a', g', c', e', hs', hg', _⟩ := src_of_own (row_below HK2.out.lrow hb)
          have h0 := (hg' (by omega)).2
          cases e'
          cases h0
          exact hs'
        have FO2 : Hid (∀ W', Below wr.heap.size wr W' → Calls Try.prog 131 #[.slice (some ⟨gl, 0, none⟩) k capl] W' fun e w' => ∃ v', e = .returned v' ∧ w'.ownsRow W'.heap.size 9 1 v' k ((left.take k).map Value.string) ∧ True ∧ Below W'.heap.size W' w') := Lib.hid fun W' hb => by
          have hl : (left.take k).length = k := by rw [List.length_take]; omega
          have h := ownS_any gl 0 capl (left.take k) W' (by omega) (fun j y hy => by
            have hj : j < k := by have := (List.getElem?_eq_some_iff.1 hy).1; omega
            rw [List.getElem?_take_of_lt hj] at hy
            exact (HSl.out W' hb).2 j y hy)
          rw [List.take_of_length_le (Nat.le_refl _), hl] at h
          exact h
        have HBd : Hid (Below wr.heap.size wr wr.drew) := Lib.hid (Below.refl wr.heap.size wr).drew
        have HDr : Hid (∀ W', Below wr.heap.size wr W' → ∀ (j : Nat) u, ((left.drop (k + 1)).map Value.string)[j]? = some u → W'.cell? ((⟨gl, k + 1, none⟩ : Addr).add j) = some u) := Lib.hid fun W' hb j u hu => by
          rw [List.getElem?_map, List.getElem?_drop] at hu
          cases hy : left[k + 1 + j]? with
          | none => rw [hy] at hu; cases hu
          | some y =>
            rw [hy] at hu
            cases hu
            have := (HSl.out W' hb).2 (k + 1 + j) y hy
            rw [Addr.add_lit]
            rwa [Nat.zero_add] at this
        have HDl : Hid (((left.drop (k + 1)).map Value.string).length = (left.length - (k + 1)) * 1) := Lib.hid (by rw [List.length_map, List.length_drop, Nat.mul_one])
        have HDo : Hid (∀ u ∈ (left.drop (k + 1)).map Value.string, u.oneCell' = true) := Lib.hid (by intro u hu; obtain ⟨y, _, rfl⟩ := List.mem_map.1 hu; rfl)
        have HEr : Hid ((left.eraseIdx k).map Value.string = (left.take k).map Value.string ++ (left.drop (k + 1)).map Value.string) := Lib.hid (by
          rw [List.eraseIdx_eq_take_drop_succ, List.map_append])
        have s5 : k + (left.length - (k + 1)) ≤ maxLen := by unfold maxLen; omega
        have s6 : (k + (left.length - (k + 1))) * 16 ≤ 140737488355328 := by omega
        have k3 : (0 : Int) ≤ (k : Int) + 1 := by omega
        have k4 : (k : Int) ≤ (capl : Int) := by omega
        have k5 : ((k : Int) + 1).toNat = k + 1 := by omega
        have kw : k ≤ 1000 := by omega
        have HLk : Hid (k + (left.length - (k + 1)) = left.length - 1) := Lib.hid (by omega)
        have HW1 := Lib.hid (plus_oneF k kw)
        by_cases hkc : k + 1 = capl
        · subst hkc
          have k6 : (k : Int) ≤ (k : Int) + 1 := by omega
          have HDz : Hid (((left.drop (k + 1)).map Value.string).length = 0 * 1) := Lib.hid (by rw [HDl.out]; omega)
          have s50 : k ≤ maxLen := by unfold maxLen; omega
          have s60 : k * 16 ≤ 140737488355328 := by omega
          have HLk1 : Hid (left.length - 1 = k) := Lib.hid (by omega)
          go_wp2
          obtain ⟨w1a, w1b⟩ := HW1.out
          go_region_held3 (fun w' => True) (exact trivial)
            ((first
              | (go_at_call 131; refine (FO2.out _ (by with_reducible exact HBd.out)).mono ?_; rintro e w4 ⟨v4, rfl, hown4, _, hb4⟩; have HO4 : Hid (w4.ownsRow wr.heap.size 9 1 v4 k ((left.take k).map Value.string)) := Lib.hid (own_base hown4 HBd.out.size); have HB4 : Hid (Below wr.heap.size wr w4) := Lib.hid (HBd.out.trans (hb4.mono HBd.out.size)); have HLt4 : Hid (∀ q, v4.ownBlock = some q → wr.heap.size ≤ q) := Lib.hid (fun q e => (HO4.out.lt q e).1); have hz4 : wr.heap.size ≤ w4.heap.size := HB4.out.size; have HDc := Lib.hid (HDr.out w4 HB4.out); clear hown4 hb4)
              | (refine step_append_free (by rfl) (.tmp 35) (.tmp 39) 28 (by rfl) wr.heap.size 9 i0 _ 1 16 Try.underlying28 hi hz0 hz1 hz2 rfl (by decide) v4 k ((left.take k).map Value.string) (by rfl) HO4.out ⟨gl, 0, none⟩ 0 0 ((left.drop (k + 1)).map Value.string) (by rfl) HDz.out (fun j u hu => by have h := (List.getElem?_eq_some_iff.1 hu).1; rw [HDz.out] at h; omega) HDo.out s50 s60 hz4 ?_; intro v5 w5 hown5 hgr5; have HO5 := Lib.hid hown5; have HB5 : Hid (Below wr.heap.size wr w5) := Lib.hid (HB4.out.grown hgr5 hz4 (fun q e => HLt4.out q e)); clear hown5 hgr5)
              | fail))
          all_goals (
            clear w1a w1b)
          have HRr : Hid (w5.ownsRow wr.heap.size 9 1 v5 (left.length - 1) ((left.eraseIdx k).map Value.string)) := Lib.hid (by
            have h := HO5.out
            rw [HEr.out]
            rw [HLk1.out]; exact h)
          obtain ⟨ar, gr, cr, hv5, hsr, _, hcr⟩ := src_of_own HRr.out
          subst hv5
          obtain ⟨rest, hrest⟩ : ∃ rest, rest = left.eraseIdx k := ⟨_, rfl⟩
          have HRe := Lib.hid hrest
          rw [← hrest] at HRr hsr
          have hrl : rest.length = left.length - 1 := by rw [hrest]; exact erase_len _ _ hkl
          obtain ⟨us', hus'⟩ : ∃ us', us' = us.drop (i + 1) := ⟨_, rfl⟩
          have hul : us'.length = n2 - (i + 1) := by rw [hus', List.length_drop, HN.out.2.1]
          have HW5 : Hid (Below W.heap.size W w5) := Lib.hid (HBW.out.trans (HB5.out.mono HBW.out.size))
          have HK5 := Lib.hid (HK.out.step HW5.out)
          have HSr := Lib.hid (fun W' (hb : Below w5.heap.size w5 W') => hsr.below hb)
          have hu99 : ∀ u ∈ us', u ≤ 99 := fun u hu => H99.out u (List.mem_of_mem_drop (by rw [hus'] at hu; exact hu))
          have hrm : ∀ y ∈ rest, marksL (bl y) = true := fun y hy => HI.out.ml y (List.mem_of_mem_eraseIdx (by rw [hrest] at hy; exact hy))
          have hbm : ∀ y ∈ bstL rest us', marksL (bl y) = true := fun y hy => by
            obtain ⟨j, hj, rfl⟩ := List.getElem_of_mem hy
            have hju : j < us'.length := by rw [bstL_len] at hj; exact hj
            have e := bstL_rk rest us' j hju
            rw [List.getD_eq_getElem?_getD, List.getElem?_eq_getElem hj] at e
            have hr : rk us' j < rest.length := by have := usd_lt hju; rw [usd_rk] at this; have := HLf.out; have := HN.out; omega
            rw [List.getD_eq_getElem?_getD, List.getElem?_eq_getElem hr] at e
            have e2 : (bstL rest us')[j] = rest[rk us' j] := e
            rw [e2]
            exact hrm _ (List.getElem_mem hr)
          have hur : us'.length ≤ rest.length := by have := HLf.out; have := HN.out; omega
          have HCm : Hid (k < p → bc (tL L) us < cst (uAt us) (tAt outL) i + uAt us i * tAt left k + bc (tL rest) us') := Lib.hid (fun h => by rw [hrest, hus']; exact HPk.out.2.1 k h)
          have HCe : Hid (k = p → cst (uAt us) (tAt outL) i + uAt us i * tAt left k + bc (tL rest) us' = bc (tL L) us) := Lib.hid (fun h => by rw [hrest, hus', h]; exact HPk.out.2.2)
          have HNk : Hid (k = p → FstI L us (i + 1) (outL ++ [left.getD k ⟨#[]⟩]) rest) := Lib.hid (fun h => by rw [hrest, h]; exact HNx.out)
          clear hrest hsr
          by_cases hci : c1 = i + 1
          · subst hci
            have hn2e : us'.length = 0 := by omega
            have FBr := Lib.hid (sBest_any ar gr 0 cr rest (some ⟨g1, o1, none⟩) g1 (o1 + (i + 1)) 0 us' (left.length - 1) 0 w5 hrl.symm hn2e.symm (HSr.out w5 (Below.refl _ _)) (by rw [hus']; exact srcI_drop (HS.out w5 HK5.out.below) (i + 1) (fun h => by have := HN.out; omega)) hu99 (by omega) hur (by omega))
            have FCr := Lib.hid fun (B : Nat) (W' : World) (hb : Below w5.heap.size w5 W') (hr : RowT W' B us'.length (bstL rest us')) => sCost_any (some ⟨B, 0, none⟩) B 0 0 (bstL rest us') (some ⟨g1, o1, none⟩) g1 (o1 + (i + 1)) 0 us' 0 0 W' (by rw [bstL_len]; exact hn2e.symm) hn2e.symm hr.src (by rw [hus']; exact srcI_drop (HS.out W' (HK5.out.below.trans (hb.mono HK5.out.below.size))) (i + 1) (fun h => by have := HN.out; omega)) hbm hu99 (by omega) (by rw [bstL_len]; exact Nat.le_refl _) (by rw [bstL_len]; omega)
            have m0 : (i : Int) ≤ (i : Int) + 1 := by omega
            rw [cost_bst hur] at FCr
            have HHr := Lib.hid hrm
            have HRl := Lib.hid hrl
            have HOlt : Hid (∀ q, (Value.slice ao i co).ownBlock = some q → q < wr.heap.size) := Lib.hid fun q e => Nat.lt_of_lt_of_le (HK.out.own.lt q e).2 HBW.out.size
            have hu10 : us'.length ≤ 10 := by omega
            have HHu := Lib.hid hu99
            clear hbm hul hu99 hrm hus' hrl
            go_wp2_with fail
            refine FBr.out.mono ?_
            rintro e w6 ⟨Bb, rfl, hBb, hrb, hb⟩
            have FC3 := Lib.hid (fun (W' : World) (hb' : Below w6.heap.size w6 W') => FCr.out Bb W' (hb.trans (hb'.mono hb.size)) (hrb.below hb'))
            have HB6 := Lib.hid hb
            have HR6 := Lib.hid (row_below HRr.out hb)
            have HW6 : Hid (Below W.heap.size W w6) := Lib.hid (HW5.out.trans (hb.mono HW5.out.size))
            have HK6 := Lib.hid (HK5.out.step hb)
            have HSl6 := Lib.hid (HSl.out w6 (HB5.out.trans (hb.mono HB5.out.size)))
            clear hb hrb hBb FCr FBr
            obtain ⟨ao', go, co', eo, hso, _, _⟩ := src_of_own HK6.out.own
            cases eo
            have hX0 := HI.out.cost
            have FC1 := Lib.hid fun (q : Nat) => sCost_any ao go 0 co outL (some ⟨g1, o1, none⟩) g1 o1 (i + 1) (us.take i) i i (w6.drewN q) HI.out.ol.symm (by rw [List.length_take]; omega) (hso.below (below_drewN w6 q)) (srcI_take (HS.out _ (HK6.out.below.trans ((below_drewN w6 q).mono HK6.out.below.size))) i) HI.out.mo (fun u hu => H99.out u (List.mem_of_mem_take hu)) (by rw [List.length_take]; omega) (by rw [List.length_take, HI.out.ol]; omega) (by rw [HI.out.ol]; omega)
            rw [cst_take (by omega)] at FC1
            have FC2 := Lib.hid fun (q : Nat) => FC3.out (w6.drewN q) (below_drewN w6 q)
            have FT := Lib.hid fun (W' : World) => sTime_any left[k] W' (by have := HI.out.ml _ (List.getElem_mem hkl); simp only [marksL, Bool.and_eq_true, decide_eq_true_eq, bl_len] at this; omega)
            have t19 : tml (bl left[k]) ≤ 19 := tml_le5 (by have := HI.out.ml _ (List.getElem_mem hkl); simp only [marksL, Bool.and_eq_true, decide_eq_true_eq] at this; omega)
            have hY : bc (tL rest) us' ≤ 18810 := bc_le (tL_le HHr.out) HHu.out (by omega)
            have d1 := zs_srcI (HS.out w6 HK6.out.below) i hiu
            have d2 := HSl6.out.2 k _ (List.getElem?_eq_getElem hkl)
            rw [Nat.zero_add] at d2
            have u99 := H99.out us[i] (List.getElem_mem hiu)
            have hgx : left.getD k ⟨#[]⟩ = left[k] := by rw [List.getD_eq_getElem?_getD, List.getElem?_eq_getElem hkl]; rfl
            rw [hgx] at HNk
            rw [uAt_eq hiu, tAt_eq hkl] at HCm HCe
            rw [HLe.out.symm] at HCm HCe hX0
            have hX : cst (uAt us) (tAt outL) i ≤ 18810 := by omega
            clear hX0 FC3 hso HHr HHu hgx
            generalize left[k] = xk at FT t19 d2 HNk HCm HCe
            generalize us[i] = ui at d1 u99 HCm HCe
            generalize tml (bl xk) = tk at FT t19 HCm HCe
            generalize cst (uAt us) (tAt outL) i = X at FC1 hX HCm HCe
            generalize bc (tL rest) us' = Y at FC2 hY HCm HCe
            obtain ⟨P, hP, hP2, hPi⟩ := mul_small u99 t19
            rw [← hP] at HCm HCe
            have y1 : P ≤ 40000 := by omega
            have y2 : X ≤ 40000 := by omega
            have y3 : Y ≤ 40000 := by omega
            have y4 : i ≤ 1000 := by omega
            have m1 : (0 : Int) ≤ (i : Int) := by omega
            have m2 : (i : Int) < (n2 : Int) := by omega
            have m3 : (i : Int) + 1 ≤ (n2 : Int) := by omega
            have m4 : (0 : Int) ≤ (i : Int) + 1 := by omega
            have m5 : ((i : Int) + 1).toNat = i + 1 := by omega
            have HWr := Lib.hid (And.intro (wrap_small y1) (And.intro (sum3_wrap y2 y1 y3) (plus_oneF i y4)))
            have HPs := Lib.hid hP
            clear hP hP2 u99 t19 y1 y2 y3 hX hY
            have HAr := Lib.hid (And.intro hkp (And.intro hlt (And.intro hpl hkl)))
            have HZs := Lib.hid (And.intro hn1L (And.intro hll5 h10))
            (try clear s5); (try clear s6); (try clear s50); (try clear s60); (try clear hn2e); clear hll5 hi2 h10 hn1L hl18 k2 k3 k4 k5 hur hu10 hlc
            by_cases hkp2 : k = p
            · have HEq := Lib.hid (HCe.out hkp2)
              have t1 : ((X : Int) + (P : Int) + (Y : Int) == (least : Int)) = true := by have := HEq.out; rw [beq_iff_eq]; omega
              have HNx2 := Lib.hid (HNk.out hkp2)
              clear hkp2 HCm HCe HNk HNx HPk hkp hpl hlt hkl
              go_wp2_with fail
              obtain ⟨⟨z1, z2⟩, ⟨z3, z4, z5, z6⟩, z7, z8⟩ := HWr.out
              go_quiet ((first | (go_at_call 132; with_reducible exact Calls.quiet_of (FC1.out _)) | (go_at_call 132; with_reducible exact Calls.quiet_of (FC2.out _)) | (go_at_call 134; exact Calls.quiet_of_same (FT.out _))))
              clear z1 z2 z3 z4 z5 z6 z7 z8
              obtain ⟨V, hV⟩ : ∃ V : World, V = w6.drewN nq := ⟨_, rfl⟩
              have HKV := Lib.hid (HK6.out.step (below_drewN w6 nq))
              have HRV := Lib.hid (row_below HR6.out (below_drewN w6 nq))
              have d2V : V.cell? ⟨gl, k, none⟩ = some (.string xk) := by rw [hV]; exact d2
              rw [← hV] at HKV HRV ⊢
              clear hV d2 d1
              have hzV : w.heap.size ≤ V.heap.size := HKV.out.below.size
              have q1 : i + 1 ≤ maxLen := by unfold maxLen; omega
              have q2 : (i + 1) * 16 ≤ 140737488355328 := by omega
              obtain ⟨hkp, hlt, hpl, hkl⟩ := HAr.out
              go_wp2_with (at_builtin; refine wpList_append_lies _ rfl _ _ 28 rfl w.heap.size 9 i0 (.string ByteArray.empty) 1 16 Try.underlying28 hi hz0 hz1 hz2 rfl (by decide) (.slice ao i co) i (outL.map Value.string) rfl (HKV.out.own.alloc _) ⟨V.heap.size, 0, none⟩ 1 1 [.string xk] rfl rfl (cell_one_newP V (.string xk) 9) (by simp [Value.oneCell']) (by decide) q1 q2 (Nat.le_trans hzV (below_alloc V _).size) (V.heap.size + 1) (by simp) ?_; intro gg capg w7 hown7 hgrow hat hgl7)
              have HK7 : Hid (FstK w w7 (i + 1) (outL ++ [xk]) rest (.slice (some ⟨gg, 0, none⟩) (i + 1) capg) (.slice ar (left.length - 1) cr)) := Lib.hid
                ⟨by rw [List.map_append]; exact hown7, by
                  rw [HRl.out]
                  exact own_base ((HRV.out.alloc _).kept hgrow (kept_apart HRV.out HOlt.out)) (by have := HK.out.below.size; have := HBW.out.size; omega), fun q e e2 => by
                  have h1 := HRV.out.lt q e2
                  have h2 : gg = q := by simpa [Value.ownBlock] using e
                  rcases hat with h3 | h3
                  · have := HOlt.out gg h3; omega
                  · omega, (HKV.out.below.alloc hzV _).grown hgrow (Nat.le_trans hzV (below_alloc V _).size) (fun q e => (HKV.out.own.lt q e).1)⟩
              have hi1 : i + 1 ≤ n2 := by omega
              clear hown7 hgrow hat hgl7
              go_wp2
              go_roundw
              case rel => exact ⟨i + 1, outL ++ [xk], rest, _, _, rfl, rfl, by go_num, hi1, HNx2, HK7⟩
              case measure => simp [intOf]; omega
            · have HLt := Lib.hid (HCm.out (by omega))
              have t1 : ((X : Int) + (P : Int) + (Y : Int) == (least : Int)) = false := by have := HLt.out; exact beq_false_of_ne (by omega)
              have hkp3 : Hid (k + 1 ≤ p) := Lib.hid (by omega)
              clear hkp2 HCm HCe HNk HNx HPk hkp hpl hlt hkl
              go_wp2_with fail
              obtain ⟨⟨z1, z2⟩, ⟨z3, z4, z5, z6⟩, z7, z8⟩ := HWr.out
              go_quiet ((first | (go_at_call 132; with_reducible exact Calls.quiet_of (FC1.out _)) | (go_at_call 132; with_reducible exact Calls.quiet_of (FC2.out _)) | (go_at_call 134; exact Calls.quiet_of_same (FT.out _))))
              clear z1 z2 z3 z4 z5 z6 z7 z8
              have HW7 : Hid (Below W.heap.size W (w6.drewN nq)) := Lib.hid (below_dr HW6.out nq)
              go_wp2
              go_roundw
              case rel => exact ⟨k + 1, by go_num, rfl, rfl, hkp3.out, HW7⟩
              case measure => have := hkp3.out; simp [intOf]; omega
          · have hci2 : ¬ i + 1 = c1 := fun e => hci e.symm
            have FBr := Lib.hid (sBest_any ar gr 0 cr rest (some ⟨g1, o1 + (i + 1), none⟩) g1 (o1 + (i + 1)) (c1 - (i + 1)) us' (left.length - 1) (n2 - (i + 1)) w5 hrl.symm hul.symm (HSr.out w5 (Below.refl _ _)) (by rw [hus']; exact srcI_drop (HS.out w5 HK5.out.below) (i + 1) (fun _ => rfl)) hu99 (by omega) hur (by omega))
            have FCr := Lib.hid fun (B : Nat) (W' : World) (hb : Below w5.heap.size w5 W') (hr : RowT W' B us'.length (bstL rest us')) => sCost_any (some ⟨B, 0, none⟩) B 0 (n2 - (i + 1)) (bstL rest us') (some ⟨g1, o1 + (i + 1), none⟩) g1 (o1 + (i + 1)) (c1 - (i + 1)) us' (n2 - (i + 1)) (n2 - (i + 1)) W' (by rw [bstL_len]; exact hul.symm) hul.symm hr.src (by rw [hus']; exact srcI_drop (HS.out W' (HK5.out.below.trans (hb.mono HK5.out.below.size))) (i + 1) (fun _ => rfl)) hbm hu99 (by omega) (by rw [bstL_len]; exact Nat.le_refl _) (by rw [bstL_len]; omega)
            rw [cost_bst hur] at FCr
            have HHr := Lib.hid hrm
            have HRl := Lib.hid hrl
            have HOlt : Hid (∀ q, (Value.slice ao i co).ownBlock = some q → q < wr.heap.size) := Lib.hid fun q e => Nat.lt_of_lt_of_le (HK.out.own.lt q e).2 HBW.out.size
            have hu10 : us'.length ≤ 10 := by omega
            have HHu := Lib.hid hu99
            clear hbm hul hu99 hrm hus' hrl
            go_wp2_with fail
            refine FBr.out.mono ?_
            rintro e w6 ⟨Bb, rfl, hBb, hrb, hb⟩
            have FC3 := Lib.hid (fun (W' : World) (hb' : Below w6.heap.size w6 W') => FCr.out Bb W' (hb.trans (hb'.mono hb.size)) (hrb.below hb'))
            have HB6 := Lib.hid hb
            have HR6 := Lib.hid (row_below HRr.out hb)
            have HW6 : Hid (Below W.heap.size W w6) := Lib.hid (HW5.out.trans (hb.mono HW5.out.size))
            have HK6 := Lib.hid (HK5.out.step hb)
            have HSl6 := Lib.hid (HSl.out w6 (HB5.out.trans (hb.mono HB5.out.size)))
            clear hb hrb hBb FCr FBr
            obtain ⟨ao', go, co', eo, hso, _, _⟩ := src_of_own HK6.out.own
            cases eo
            have hX0 := HI.out.cost
            have FC1 := Lib.hid fun (q : Nat) => sCost_any ao go 0 co outL (some ⟨g1, o1, none⟩) g1 o1 (c1) (us.take i) i i (w6.drewN q) HI.out.ol.symm (by rw [List.length_take]; omega) (hso.below (below_drewN w6 q)) (srcI_take (HS.out _ (HK6.out.below.trans ((below_drewN w6 q).mono HK6.out.below.size))) i) HI.out.mo (fun u hu => H99.out u (List.mem_of_mem_take hu)) (by rw [List.length_take]; omega) (by rw [List.length_take, HI.out.ol]; omega) (by rw [HI.out.ol]; omega)
            rw [cst_take (by omega)] at FC1
            have FC2 := Lib.hid fun (q : Nat) => FC3.out (w6.drewN q) (below_drewN w6 q)
            have FT := Lib.hid fun (W' : World) => sTime_any left[k] W' (by have := HI.out.ml _ (List.getElem_mem hkl); simp only [marksL, Bool.and_eq_true, decide_eq_true_eq, bl_len] at this; omega)
            have t19 : tml (bl left[k]) ≤ 19 := tml_le5 (by have := HI.out.ml _ (List.getElem_mem hkl); simp only [marksL, Bool.and_eq_true, decide_eq_true_eq] at this; omega)
            have hY : bc (tL rest) us' ≤ 18810 := bc_le (tL_le HHr.out) HHu.out (by omega)
            have d1 := zs_srcI (HS.out w6 HK6.out.below) i hiu
            have d2 := HSl6.out.2 k _ (List.getElem?_eq_getElem hkl)
            rw [Nat.zero_add] at d2
            have u99 := H99.out us[i] (List.getElem_mem hiu)
            have hgx : left.getD k ⟨#[]⟩ = left[k] := by rw [List.getD_eq_getElem?_getD, List.getElem?_eq_getElem hkl]; rfl
            rw [hgx] at HNk
            rw [uAt_eq hiu, tAt_eq hkl] at HCm HCe
            rw [HLe.out.symm] at HCm HCe hX0
            have hX : cst (uAt us) (tAt outL) i ≤ 18810 := by omega
            clear hX0 FC3 hso HHr HHu hgx
            generalize left[k] = xk at FT t19 d2 HNk HCm HCe
            generalize us[i] = ui at d1 u99 HCm HCe
            generalize tml (bl xk) = tk at FT t19 HCm HCe
            generalize cst (uAt us) (tAt outL) i = X at FC1 hX HCm HCe
            generalize bc (tL rest) us' = Y at FC2 hY HCm HCe
            obtain ⟨P, hP, hP2, hPi⟩ := mul_small u99 t19
            rw [← hP] at HCm HCe
            have y1 : P ≤ 40000 := by omega
            have y2 : X ≤ 40000 := by omega
            have y3 : Y ≤ 40000 := by omega
            have y4 : i ≤ 1000 := by omega
            have m1 : (0 : Int) ≤ (i : Int) := by omega
            have m2 : (i : Int) < (n2 : Int) := by omega
            have m3 : (i : Int) + 1 ≤ (n2 : Int) := by omega
            have m4 : (0 : Int) ≤ (i : Int) + 1 := by omega
            have m5 : ((i : Int) + 1).toNat = i + 1 := by omega
            have m6 : (i : Int) ≤ (c1 : Int) := by omega
            have HWr := Lib.hid (And.intro (wrap_small y1) (And.intro (sum3_wrap y2 y1 y3) (plus_oneF i y4)))
            have HPs := Lib.hid hP
            clear hP hP2 u99 t19 y1 y2 y3 hX hY
            have HAr := Lib.hid (And.intro hkp (And.intro hlt (And.intro hpl hkl)))
            have HZs := Lib.hid (And.intro hn1L (And.intro hll5 h10))
            (try clear s5); (try clear s6); (try clear s50); (try clear s60); (try clear hn2e); clear hll5 hi2 h10 hn1L hl18 k2 k3 k4 k5 hur hu10 hlc
            clear hc1 hc1m
            by_cases hkp2 : k = p
            · have HEq := Lib.hid (HCe.out hkp2)
              have t1 : ((X : Int) + (P : Int) + (Y : Int) == (least : Int)) = true := by have := HEq.out; rw [beq_iff_eq]; omega
              have HNx2 := Lib.hid (HNk.out hkp2)
              clear hkp2 HCm HCe HNk HNx HPk hkp hpl hlt hkl
              go_wp2_with fail
              obtain ⟨⟨z1, z2⟩, ⟨z3, z4, z5, z6⟩, z7, z8⟩ := HWr.out
              go_quiet ((first | (go_at_call 132; with_reducible exact Calls.quiet_of (FC1.out _)) | (go_at_call 132; with_reducible exact Calls.quiet_of (FC2.out _)) | (go_at_call 134; exact Calls.quiet_of_same (FT.out _))))
              clear z1 z2 z3 z4 z5 z6 z7 z8
              obtain ⟨V, hV⟩ : ∃ V : World, V = w6.drewN nq := ⟨_, rfl⟩
              have HKV := Lib.hid (HK6.out.step (below_drewN w6 nq))
              have HRV := Lib.hid (row_below HR6.out (below_drewN w6 nq))
              have d2V : V.cell? ⟨gl, k, none⟩ = some (.string xk) := by rw [hV]; exact d2
              rw [← hV] at HKV HRV ⊢
              clear hV d2 d1
              have hzV : w.heap.size ≤ V.heap.size := HKV.out.below.size
              have q1 : i + 1 ≤ maxLen := by unfold maxLen; omega
              have q2 : (i + 1) * 16 ≤ 140737488355328 := by omega
              obtain ⟨hkp, hlt, hpl, hkl⟩ := HAr.out
              go_wp2_with (at_builtin; refine wpList_append_lies _ rfl _ _ 28 rfl w.heap.size 9 i0 (.string ByteArray.empty) 1 16 Try.underlying28 hi hz0 hz1 hz2 rfl (by decide) (.slice ao i co) i (outL.map Value.string) rfl (HKV.out.own.alloc _) ⟨V.heap.size, 0, none⟩ 1 1 [.string xk] rfl rfl (cell_one_newP V (.string xk) 9) (by simp [Value.oneCell']) (by decide) q1 q2 (Nat.le_trans hzV (below_alloc V _).size) (V.heap.size + 1) (by simp) ?_; intro gg capg w7 hown7 hgrow hat hgl7)
              have HK7 : Hid (FstK w w7 (i + 1) (outL ++ [xk]) rest (.slice (some ⟨gg, 0, none⟩) (i + 1) capg) (.slice ar (left.length - 1) cr)) := Lib.hid
                ⟨by rw [List.map_append]; exact hown7, by
                  rw [HRl.out]
                  exact own_base ((HRV.out.alloc _).kept hgrow (kept_apart HRV.out HOlt.out)) (by have := HK.out.below.size; have := HBW.out.size; omega), fun q e e2 => by
                  have h1 := HRV.out.lt q e2
                  have h2 : gg = q := by simpa [Value.ownBlock] using e
                  rcases hat with h3 | h3
                  · have := HOlt.out gg h3; omega
                  · omega, (HKV.out.below.alloc hzV _).grown hgrow (Nat.le_trans hzV (below_alloc V _).size) (fun q e => (HKV.out.own.lt q e).1)⟩
              have hi1 : i + 1 ≤ n2 := by omega
              clear hown7 hgrow hat hgl7
              go_wp2
              go_roundw
              case rel => exact ⟨i + 1, outL ++ [xk], rest, _, _, rfl, rfl, by go_num, hi1, HNx2, HK7⟩
              case measure => simp [intOf]; omega
            · have HLt := Lib.hid (HCm.out (by omega))
              have t1 : ((X : Int) + (P : Int) + (Y : Int) == (least : Int)) = false := by have := HLt.out; exact beq_false_of_ne (by omega)
              have hkp3 : Hid (k + 1 ≤ p) := Lib.hid (by omega)
              clear hkp2 HCm HCe HNk HNx HPk hkp hpl hlt hkl
              go_wp2_with fail
              obtain ⟨⟨z1, z2⟩, ⟨z3, z4, z5, z6⟩, z7, z8⟩ := HWr.out
              go_quiet ((first | (go_at_call 132; with_reducible exact Calls.quiet_of (FC1.out _)) | (go_at_call 132; with_reducible exact Calls.quiet_of (FC2.out _)) | (go_at_call 134; exact Calls.quiet_of_same (FT.out _))))
              clear z1 z2 z3 z4 z5 z6 z7 z8
              have HW7 : Hid (Below W.heap.size W (w6.drewN nq)) := Lib.hid (below_dr HW6.out nq)
              go_wp2
              go_roundw
              case rel => exact ⟨k + 1, by go_num, rfl, rfl, hkp3.out, HW7⟩
              case measure => have := hkp3.out; simp [intOf]; omega
        · have hkc2 : ¬ capl = k + 1 := fun e => hkc e.symm
          go_wp2
          obtain ⟨w1a, w1b⟩ := HW1.out
          go_region_held3 (fun w' => True) (exact trivial)
            ((first
              | (go_at_call 131; refine (FO2.out _ (by with_reducible exact HBd.out)).mono ?_; rintro e w4 ⟨v4, rfl, hown4, _, hb4⟩; have HO4 : Hid (w4.ownsRow wr.heap.size 9 1 v4 k ((left.take k).map Value.string)) := Lib.hid (own_base hown4 HBd.out.size); have HB4 : Hid (Below wr.heap.size wr w4) := Lib.hid (HBd.out.trans (hb4.mono HBd.out.size)); have HLt4 : Hid (∀ q, v4.ownBlock = some q → wr.heap.size ≤ q) := Lib.hid (fun q e => (HO4.out.lt q e).1); have hz4 : wr.heap.size ≤ w4.heap.size := HB4.out.size; have HDc := Lib.hid (HDr.out w4 HB4.out); clear hown4 hb4)
              | (refine step_append_free (by rfl) (.tmp 35) (.tmp 39) 28 (by rfl) wr.heap.size 9 i0 _ 1 16 Try.underlying28 hi hz0 hz1 hz2 rfl (by decide) v4 k ((left.take k).map Value.string) (by rfl) HO4.out ⟨gl, k + 1, none⟩ (left.length - (k + 1)) (capl - (k + 1)) ((left.drop (k + 1)).map Value.string) (by rfl) HDl.out HDc.out HDo.out s5 s6 hz4 ?_; intro v5 w5 hown5 hgr5; have HO5 := Lib.hid hown5; have HB5 : Hid (Below wr.heap.size wr w5) := Lib.hid (HB4.out.grown hgr5 hz4 (fun q e => HLt4.out q e)); clear hown5 hgr5)
              | fail))
          all_goals (
            clear w1a w1b)
          have HRr : Hid (w5.ownsRow wr.heap.size 9 1 v5 (left.length - 1) ((left.eraseIdx k).map Value.string)) := Lib.hid (by
            have h := HO5.out
            rw [HEr.out]
            rw [HLk.out] at h; exact h)
          obtain ⟨ar, gr, cr, hv5, hsr, _, hcr⟩ := src_of_own HRr.out
          subst hv5
          obtain ⟨rest, hrest⟩ : ∃ rest, rest = left.eraseIdx k := ⟨_, rfl⟩
          have HRe := Lib.hid hrest
          rw [← hrest] at HRr hsr
          have hrl : rest.length = left.length - 1 := by rw [hrest]; exact erase_len _ _ hkl
          obtain ⟨us', hus'⟩ : ∃ us', us' = us.drop (i + 1) := ⟨_, rfl⟩
          have hul : us'.length = n2 - (i + 1) := by rw [hus', List.length_drop, HN.out.2.1]
          have HW5 : Hid (Below W.heap.size W w5) := Lib.hid (HBW.out.trans (HB5.out.mono HBW.out.size))
          have HK5 := Lib.hid (HK.out.step HW5.out)
          have HSr := Lib.hid (fun W' (hb : Below w5.heap.size w5 W') => hsr.below hb)
          have hu99 : ∀ u ∈ us', u ≤ 99 := fun u hu => H99.out u (List.mem_of_mem_drop (by rw [hus'] at hu; exact hu))
          have hrm : ∀ y ∈ rest, marksL (bl y) = true := fun y hy => HI.out.ml y (List.mem_of_mem_eraseIdx (by rw [hrest] at hy; exact hy))
          have hbm : ∀ y ∈ bstL rest us', marksL (bl y) = true := fun y hy => by
            obtain ⟨j, hj, rfl⟩ := List.getElem_of_mem hy
            have hju : j < us'.length := by rw [bstL_len] at hj; exact hj
            have e := bstL_rk rest us' j hju
            rw [List.getD_eq_getElem?_getD, List.getElem?_eq_getElem hj] at e
            have hr : rk us' j < rest.length := by have := usd_lt hju; rw [usd_rk] at this; have := HLf.out; have := HN.out; omega
            rw [List.getD_eq_getElem?_getD, List.getElem?_eq_getElem hr] at e
            have e2 : (bstL rest us')[j] = rest[rk us' j] := e
            rw [e2]
            exact hrm _ (List.getElem_mem hr)
          have hur : us'.length ≤ rest.length := by have := HLf.out; have := HN.out; omega
          have HCm : Hid (k < p → bc (tL L) us < cst (uAt us) (tAt outL) i + uAt us i * tAt left k + bc (tL rest) us') := Lib.hid (fun h => by rw [hrest, hus']; exact HPk.out.2.1 k h)
          have HCe : Hid (k = p → cst (uAt us) (tAt outL) i + uAt us i * tAt left k + bc (tL rest) us' = bc (tL L) us) := Lib.hid (fun h => by rw [hrest, hus', h]; exact HPk.out.2.2)
          have HNk : Hid (k = p → FstI L us (i + 1) (outL ++ [left.getD k ⟨#[]⟩]) rest) := Lib.hid (fun h => by rw [hrest, h]; exact HNx.out)
          clear hrest hsr
          by_cases hci : c1 = i + 1
          · subst hci
            have hn2e : us'.length = 0 := by omega
            have FBr := Lib.hid (sBest_any ar gr 0 cr rest (some ⟨g1, o1, none⟩) g1 (o1 + (i + 1)) 0 us' (left.length - 1) 0 w5 hrl.symm hn2e.symm (HSr.out w5 (Below.refl _ _)) (by rw [hus']; exact srcI_drop (HS.out w5 HK5.out.below) (i + 1) (fun h => by have := HN.out; omega)) hu99 (by omega) hur (by omega))
            have FCr := Lib.hid fun (B : Nat) (W' : World) (hb : Below w5.heap.size w5 W') (hr : RowT W' B us'.length (bstL rest us')) => sCost_any (some ⟨B, 0, none⟩) B 0 0 (bstL rest us') (some ⟨g1, o1, none⟩) g1 (o1 + (i + 1)) 0 us' 0 0 W' (by rw [bstL_len]; exact hn2e.symm) hn2e.symm hr.src (by rw [hus']; exact srcI_drop (HS.out W' (HK5.out.below.trans (hb.mono HK5.out.below.size))) (i + 1) (fun h => by have := HN.out; omega)) hbm hu99 (by omega) (by rw [bstL_len]; exact Nat.le_refl _) (by rw [bstL_len]; omega)
            have m0 : (i : Int) ≤ (i : Int) + 1 := by omega
            rw [cost_bst hur] at FCr
            have HHr := Lib.hid hrm
            have HRl := Lib.hid hrl
            have HOlt : Hid (∀ q, (Value.slice ao i co).ownBlock = some q → q < wr.heap.size) := Lib.hid fun q e => Nat.lt_of_lt_of_le (HK.out.own.lt q e).2 HBW.out.size
            have hu10 : us'.length ≤ 10 := by omega
            have HHu := Lib.hid hu99
            clear hbm hul hu99 hrm hus' hrl
            go_wp2_with fail
            refine FBr.out.mono ?_
            rintro e w6 ⟨Bb, rfl, hBb, hrb, hb⟩
            have FC3 := Lib.hid (fun (W' : World) (hb' : Below w6.heap.size w6 W') => FCr.out Bb W' (hb.trans (hb'.mono hb.size)) (hrb.below hb'))
            have HB6 := Lib.hid hb
            have HR6 := Lib.hid (row_below HRr.out hb)
            have HW6 : Hid (Below W.heap.size W w6) := Lib.hid (HW5.out.trans (hb.mono HW5.out.size))
            have HK6 := Lib.hid (HK5.out.step hb)
            have HSl6 := Lib.hid (HSl.out w6 (HB5.out.trans (hb.mono HB5.out.size)))
            clear hb hrb hBb FCr FBr
            obtain ⟨ao', go, co', eo, hso, _, _⟩ := src_of_own HK6.out.own
            cases eo
            have hX0 := HI.out.cost
            have FC1 := Lib.hid fun (q : Nat) => sCost_any ao go 0 co outL (some ⟨g1, o1, none⟩) g1 o1 (i + 1) (us.take i) i i (w6.drewN q) HI.out.ol.symm (by rw [List.length_take]; omega) (hso.below (below_drewN w6 q)) (srcI_take (HS.out _ (HK6.out.below.trans ((below_drewN w6 q).mono HK6.out.below.size))) i) HI.out.mo (fun u hu => H99.out u (List.mem_of_mem_take hu)) (by rw [List.length_take]; omega) (by rw [List.length_take, HI.out.ol]; omega) (by rw [HI.out.ol]; omega)
            rw [cst_take (by omega)] at FC1
            have FC2 := Lib.hid fun (q : Nat) => FC3.out (w6.drewN q) (below_drewN w6 q)
            have FT := Lib.hid fun (W' : World) => sTime_any left[k] W' (by have := HI.out.ml _ (List.getElem_mem hkl); simp only [marksL, Bool.and_eq_true, decide_eq_true_eq, bl_len] at this; omega)
            have t19 : tml (bl left[k]) ≤ 19 := tml_le5 (by have := HI.out.ml _ (List.getElem_mem hkl); simp only [marksL, Bool.and_eq_true, decide_eq_true_eq] at this; omega)
            have hY : bc (tL rest) us' ≤ 18810 := bc_le (tL_le HHr.out) HHu.out (by omega)
            have d1 := zs_srcI (HS.out w6 HK6.out.below) i hiu
            have d2 := HSl6.out.2 k _ (List.getElem?_eq_getElem hkl)
            rw [Nat.zero_add] at d2
            have u99 := H99.out us[i] (List.getElem_mem hiu)
            have hgx : left.getD k ⟨#[]⟩ = left[k] := by rw [List.getD_eq_getElem?_getD, List.getElem?_eq_getElem hkl]; rfl
            rw [hgx] at HNk
            rw [uAt_eq hiu, tAt_eq hkl] at HCm HCe
            rw [HLe.out.symm] at HCm HCe hX0
            have hX : cst (uAt us) (tAt outL) i ≤ 18810 := by omega
            clear hX0 FC3 hso HHr HHu hgx
            generalize left[k] = xk at FT t19 d2 HNk HCm HCe
            generalize us[i] = ui at d1 u99 HCm HCe
            generalize tml (bl xk) = tk at FT t19 HCm HCe
            generalize cst (uAt us) (tAt outL) i = X at FC1 hX HCm HCe
            generalize bc (tL rest) us' = Y at FC2 hY HCm HCe
            obtain ⟨P, hP, hP2, hPi⟩ := mul_small u99 t19
            rw [← hP] at HCm HCe
            have y1 : P ≤ 40000 := by omega
            have y2 : X ≤ 40000 := by omega
            have y3 : Y ≤ 40000 := by omega
            have y4 : i ≤ 1000 := by omega
            have m1 : (0 : Int) ≤ (i : Int) := by omega
            have m2 : (i : Int) < (n2 : Int) := by omega
            have m3 : (i : Int) + 1 ≤ (n2 : Int) := by omega
            have m4 : (0 : Int) ≤ (i : Int) + 1 := by omega
            have m5 : ((i : Int) + 1).toNat = i + 1 := by omega
            have HWr := Lib.hid (And.intro (wrap_small y1) (And.intro (sum3_wrap y2 y1 y3) (plus_oneF i y4)))
            have HPs := Lib.hid hP
            clear hP hP2 u99 t19 y1 y2 y3 hX hY
            have HAr := Lib.hid (And.intro hkp (And.intro hlt (And.intro hpl hkl)))
            have HZs := Lib.hid (And.intro hn1L (And.intro hll5 h10))
            (try clear s5); (try clear s6); (try clear s50); (try clear s60); (try clear hn2e); clear hll5 hi2 h10 hn1L hl18 k2 k3 k4 k5 hur hu10 hlc
            by_cases hkp2 : k = p
            · have HEq := Lib.hid (HCe.out hkp2)
              have t1 : ((X : Int) + (P : Int) + (Y : Int) == (least : Int)) = true := by have := HEq.out; rw [beq_iff_eq]; omega
              have HNx2 := Lib.hid (HNk.out hkp2)
              clear hkp2 HCm HCe HNk HNx HPk hkp hpl hlt hkl
              go_wp2_with fail
              obtain ⟨⟨z1, z2⟩, ⟨z3, z4, z5, z6⟩, z7, z8⟩ := HWr.out
              go_quiet ((first | (go_at_call 132; with_reducible exact Calls.quiet_of (FC1.out _)) | (go_at_call 132; with_reducible exact Calls.quiet_of (FC2.out _)) | (go_at_call 134; exact Calls.quiet_of_same (FT.out _))))
              clear z1 z2 z3 z4 z5 z6 z7 z8
              obtain ⟨V, hV⟩ : ∃ V : World, V = w6.drewN nq := ⟨_, rfl⟩
              have HKV := Lib.hid (HK6.out.step (below_drewN w6 nq))
              have HRV := Lib.hid (row_below HR6.out (below_drewN w6 nq))
              have d2V : V.cell? ⟨gl, k, none⟩ = some (.string xk) := by rw [hV]; exact d2
              rw [← hV] at HKV HRV ⊢
              clear hV d2 d1
              have hzV : w.heap.size ≤ V.heap.size := HKV.out.below.size
              have q1 : i + 1 ≤ maxLen := by unfold maxLen; omega
              have q2 : (i + 1) * 16 ≤ 140737488355328 := by omega
              obtain ⟨hkp, hlt, hpl, hkl⟩ := HAr.out
              go_wp2_with (at_builtin; refine wpList_append_lies _ rfl _ _ 28 rfl w.heap.size 9 i0 (.string ByteArray.empty) 1 16 Try.underlying28 hi hz0 hz1 hz2 rfl (by decide) (.slice ao i co) i (outL.map Value.string) rfl (HKV.out.own.alloc _) ⟨V.heap.size, 0, none⟩ 1 1 [.string xk] rfl rfl (cell_one_newP V (.string xk) 9) (by simp [Value.oneCell']) (by decide) q1 q2 (Nat.le_trans hzV (below_alloc V _).size) (V.heap.size + 1) (by simp) ?_; intro gg capg w7 hown7 hgrow hat hgl7)
              have HK7 : Hid (FstK w w7 (i + 1) (outL ++ [xk]) rest (.slice (some ⟨gg, 0, none⟩) (i + 1) capg) (.slice ar (left.length - 1) cr)) := Lib.hid
                ⟨by rw [List.map_append]; exact hown7, by
                  rw [HRl.out]
                  exact own_base ((HRV.out.alloc _).kept hgrow (kept_apart HRV.out HOlt.out)) (by have := HK.out.below.size; have := HBW.out.size; omega), fun q e e2 => by
                  have h1 := HRV.out.lt q e2
                  have h2 : gg = q := by simpa [Value.ownBlock] using e
                  rcases hat with h3 | h3
                  · have := HOlt.out gg h3; omega
                  · omega, (HKV.out.below.alloc hzV _).grown hgrow (Nat.le_trans hzV (below_alloc V _).size) (fun q e => (HKV.out.own.lt q e).1)⟩
              have hi1 : i + 1 ≤ n2 := by omega
              clear hown7 hgrow hat hgl7
              go_wp2
              go_roundw
              case rel => exact ⟨i + 1, outL ++ [xk], rest, _, _, rfl, rfl, by go_num, hi1, HNx2, HK7⟩
              case measure => simp [intOf]; omega
            · have HLt := Lib.hid (HCm.out (by omega))
              have t1 : ((X : Int) + (P : Int) + (Y : Int) == (least : Int)) = false := by have := HLt.out; exact beq_false_of_ne (by omega)
              have hkp3 : Hid (k + 1 ≤ p) := Lib.hid (by omega)
              clear hkp2 HCm HCe HNk HNx HPk hkp hpl hlt hkl
              go_wp2_with fail
              obtain ⟨⟨z1, z2⟩, ⟨z3, z4, z5, z6⟩, z7, z8⟩ := HWr.out
              go_quiet ((first | (go_at_call 132; with_reducible exact Calls.quiet_of (FC1.out _)) | (go_at_call 132; with_reducible exact Calls.quiet_of (FC2.out _)) | (go_at_call 134; exact Calls.quiet_of_same (FT.out _))))
              clear z1 z2 z3 z4 z5 z6 z7 z8
              have HW7 : Hid (Below W.heap.size W (w6.drewN nq)) := Lib.hid (below_dr HW6.out nq)
              go_wp2
              go_roundw
              case rel => exact ⟨k + 1, by go_num, rfl, rfl, hkp3.out, HW7⟩
              case measure => have := hkp3.out; simp [intOf]; omega
          · have hci2 : ¬ i + 1 = c1 := fun e => hci e.symm
            have FBr := Lib.hid (sBest_any ar gr 0 cr rest (some ⟨g1, o1 + (i + 1), none⟩) g1 (o1 + (i + 1)) (c1 - (i + 1)) us' (left.length - 1) (n2 - (i + 1)) w5 hrl.symm hul.symm (HSr.out w5 (Below.refl _ _)) (by rw [hus']; exact srcI_drop (HS.out w5 HK5.out.below) (i + 1) (fun _ => rfl)) hu99 (by omega) hur (by omega))
            have FCr := Lib.hid fun (B : Nat) (W' : World) (hb : Below w5.heap.size w5 W') (hr : RowT W' B us'.length (bstL rest us')) => sCost_any (some ⟨B, 0, none⟩) B 0 (n2 - (i + 1)) (bstL rest us') (some ⟨g1, o1 + (i + 1), none⟩) g1 (o1 + (i + 1)) (c1 - (i + 1)) us' (n2 - (i + 1)) (n2 - (i + 1)) W' (by rw [bstL_len]; exact hul.symm) hul.symm hr.src (by rw [hus']; exact srcI_drop (HS.out W' (HK5.out.below.trans (hb.mono HK5.out.below.size))) (i + 1) (fun _ => rfl)) hbm hu99 (by omega) (by rw [bstL_len]; exact Nat.le_refl _) (by rw [bstL_len]; omega)
            rw [cost_bst hur] at FCr
            have HHr := Lib.hid hrm
            have HRl := Lib.hid hrl
            have HOlt : Hid (∀ q, (Value.slice ao i co).ownBlock = some q → q < wr.heap.size) := Lib.hid fun q e => Nat.lt_of_lt_of_le (HK.out.own.lt q e).2 HBW.out.size
            have hu10 : us'.length ≤ 10 := by omega
            have HHu := Lib.hid hu99
            clear hbm hul hu99 hrm hus' hrl
            go_wp2_with fail
            refine FBr.out.mono ?_
            rintro e w6 ⟨Bb, rfl, hBb, hrb, hb⟩
            have FC3 := Lib.hid (fun (W' : World) (hb' : Below w6.heap.size w6 W') => FCr.out Bb W' (hb.trans (hb'.mono hb.size)) (hrb.below hb'))
            have HB6 := Lib.hid hb
            have HR6 := Lib.hid (row_below HRr.out hb)
            have HW6 : Hid (Below W.heap.size W w6) := Lib.hid (HW5.out.trans (hb.mono HW5.out.size))
            have HK6 := Lib.hid (HK5.out.step hb)
            have HSl6 := Lib.hid (HSl.out w6 (HB5.out.trans (hb.mono HB5.out.size)))
            clear hb hrb hBb FCr FBr
            obtain ⟨ao', go, co', eo, hso, _, _⟩ := src_of_own HK6.out.own
            cases eo
            have hX0 := HI.out.cost
            have FC1 := Lib.hid fun (q : Nat) => sCost_any ao go 0 co outL (some ⟨g1, o1, none⟩) g1 o1 (c1) (us.take i) i i (w6.drewN q) HI.out.ol.symm (by rw [List.length_take]; omega) (hso.below (below_drewN w6 q)) (srcI_take (HS.out _ (HK6.out.below.trans ((below_drewN w6 q).mono HK6.out.below.size))) i) HI.out.mo (fun u hu => H99.out u (List.mem_of_mem_take hu)) (by rw [List.length_take]; omega) (by rw [List.length_take, HI.out.ol]; omega) (by rw [HI.out.ol]; omega)
            rw [cst_take (by omega)] at FC1
            have FC2 := Lib.hid fun (q : Nat) => FC3.out (w6.drewN q) (below_drewN w6 q)
            have FT := Lib.hid fun (W' : World) => sTime_any left[k] W' (by have := HI.out.ml _ (List.getElem_mem hkl); simp only [marksL, Bool.and_eq_true, decide_eq_true_eq, bl_len] at this; omega)
            have t19 : tml (bl left[k]) ≤ 19 := tml_le5 (by have := HI.out.ml _ (List.getElem_mem hkl); simp only [marksL, Bool.and_eq_true, decide_eq_true_eq] at this; omega)
            have hY : bc (tL rest) us' ≤ 18810 := bc_le (tL_le HHr.out) HHu.out (by omega)
            have d1 := zs_srcI (HS.out w6 HK6.out.below) i hiu
            have d2 := HSl6.out.2 k _ (List.getElem?_eq_getElem hkl)
            rw [Nat.zero_add] at d2
            have u99 := H99.out us[i] (List.getElem_mem hiu)
            have hgx : left.getD k ⟨#[]⟩ = left[k] := by rw [List.getD_eq_getElem?_getD, List.getElem?_eq_getElem hkl]; rfl
            rw [hgx] at HNk
            rw [uAt_eq hiu, tAt_eq hkl] at HCm HCe
            rw [HLe.out.symm] at HCm HCe hX0
            have hX : cst (uAt us) (tAt outL) i ≤ 18810 := by omega
            clear hX0 FC3 hso HHr HHu hgx
            generalize left[k] = xk at FT t19 d2 HNk HCm HCe
            generalize us[i] = ui at d1 u99 HCm HCe
            generalize tml (bl xk) = tk at FT t19 HCm HCe
            generalize cst (uAt us) (tAt outL) i = X at FC1 hX HCm HCe
            generalize bc (tL rest) us' = Y at FC2 hY HCm HCe
            obtain ⟨P, hP, hP2, hPi⟩ := mul_small u99 t19
            rw [← hP] at HCm HCe
            have y1 : P ≤ 40000 := by omega
            have y2 : X ≤ 40000 := by omega
            have y3 : Y ≤ 40000 := by omega
            have y4 : i ≤ 1000 := by omega
            have m1 : (0 : Int) ≤ (i : Int) := by omega
            have m2 : (i : Int) < (n2 : Int) := by omega
            have m3 : (i : Int) + 1 ≤ (n2 : Int) := by omega
            have m4 : (0 : Int) ≤ (i : Int) + 1 := by omega
            have m5 : ((i : Int) + 1).toNat = i + 1 := by omega
            have m6 : (i : Int) ≤ (c1 : Int) := by omega
            have HWr := Lib.hid (And.intro (wrap_small y1) (And.intro (sum3_wrap y2 y1 y3) (plus_oneF i y4)))
            have HPs := Lib.hid hP
            clear hP hP2 u99 t19 y1 y2 y3 hX hY
            have HAr := Lib.hid (And.intro hkp (And.intro hlt (And.intro hpl hkl)))
            have HZs := Lib.hid (And.intro hn1L (And.intro hll5 h10))
            (try clear s5); (try clear s6); (try clear s50); (try clear s60); (try clear hn2e); clear hll5 hi2 h10 hn1L hl18 k2 k3 k4 k5 hur hu10 hlc
            clear hc1 hc1m
            by_cases hkp2 : k = p
            · have HEq := Lib.hid (HCe.out hkp2)
              have t1 : ((X : Int) + (P : Int) + (Y : Int) == (least : Int)) = true := by have := HEq.out; rw [beq_iff_eq]; omega
              have HNx2 := Lib.hid (HNk.out hkp2)
              clear hkp2 HCm HCe HNk HNx HPk hkp hpl hlt hkl
              go_wp2_with fail
              obtain ⟨⟨z1, z2⟩, ⟨z3, z4, z5, z6⟩, z7, z8⟩ := HWr.out
              go_quiet ((first | (go_at_call 132; with_reducible exact Calls.quiet_of (FC1.out _)) | (go_at_call 132; with_reducible exact Calls.quiet_of (FC2.out _)) | (go_at_call 134; exact Calls.quiet_of_same (FT.out _))))
              clear z1 z2 z3 z4 z5 z6 z7 z8
              obtain ⟨V, hV⟩ : ∃ V : World, V = w6.drewN nq := ⟨_, rfl⟩
              have HKV := Lib.hid (HK6.out.step (below_drewN w6 nq))
              have HRV := Lib.hid (row_below HR6.out (below_drewN w6 nq))
              have d2V : V.cell? ⟨gl, k, none⟩ = some (.string xk) := by rw [hV]; exact d2
              rw [← hV] at HKV HRV ⊢
              clear hV d2 d1
              have hzV : w.heap.size ≤ V.heap.size := HKV.out.below.size
              have q1 : i + 1 ≤ maxLen := by unfold maxLen; omega
              have q2 : (i + 1) * 16 ≤ 140737488355328 := by omega
              obtain ⟨hkp, hlt, hpl, hkl⟩ := HAr.out
              go_wp2_with (at_builtin; refine wpList_append_lies _ rfl _ _ 28 rfl w.heap.size 9 i0 (.string ByteArray.empty) 1 16 Try.underlying28 hi hz0 hz1 hz2 rfl (by decide) (.slice ao i co) i (outL.map Value.string) rfl (HKV.out.own.alloc _) ⟨V.heap.size, 0, none⟩ 1 1 [.string xk] rfl rfl (cell_one_newP V (.string xk) 9) (by simp [Value.oneCell']) (by decide) q1 q2 (Nat.le_trans hzV (below_alloc V _).size) (V.heap.size + 1) (by simp) ?_; intro gg capg w7 hown7 hgrow hat hgl7)
              have HK7 : Hid (FstK w w7 (i + 1) (outL ++ [xk]) rest (.slice (some ⟨gg, 0, none⟩) (i + 1) capg) (.slice ar (left.length - 1) cr)) := Lib.hid
                ⟨by rw [List.map_append]; exact hown7, by
                  rw [HRl.out]
                  exact own_base ((HRV.out.alloc _).kept hgrow (kept_apart HRV.out HOlt.out)) (by have := HK.out.below.size; have := HBW.out.size; omega), fun q e e2 => by
                  have h1 := HRV.out.lt q e2
                  have h2 : gg = q := by simpa [Value.ownBlock] using e
                  rcases hat with h3 | h3
                  · have := HOlt.out gg h3; omega
                  · omega, (HKV.out.below.alloc hzV _).grown hgrow (Nat.le_trans hzV (below_alloc V _).size) (fun q e => (HKV.out.own.lt q e).1)⟩
              have hi1 : i + 1 ≤ n2 := by omega
              clear hown7 hgrow hat hgl7
              go_wp2
              go_roundw
              case rel => exact ⟨i + 1, outL ++ [xk], rest, _, _, rfl, rfl, by go_num, hi1, HNx2, HK7⟩
              case measure => simp [intOf]; omega
            · have HLt := Lib.hid (HCm.out (by omega))
              have t1 : ((X : Int) + (P : Int) + (Y : Int) == (least : Int)) = false := by have := HLt.out; exact beq_false_of_ne (by omega)
              have hkp3 : Hid (k + 1 ≤ p) := Lib.hid (by omega)
              clear hkp2 HCm HCe HNk HNx HPk hkp hpl hlt hkl
              go_wp2_with fail
              obtain ⟨⟨z1, z2⟩, ⟨z3, z4, z5, z6⟩, z7, z8⟩ := HWr.out
              go_quiet ((first | (go_at_call 132; with_reducible exact Calls.quiet_of (FC1.out _)) | (go_at_call 132; with_reducible exact Calls.quiet_of (FC2.out _)) | (go_at_call 134; exact Calls.quiet_of_same (FT.out _))))
              clear z1 z2 z3 z4 z5 z6 z7 z8
              have HW7 : Hid (Below W.heap.size W (w6.drewN nq)) := Lib.hid (below_dr HW6.out nq)
              go_wp2
              go_roundw
              case rel => exact ⟨k + 1, by go_num, rfl, rfl, hkp3.out, HW7⟩
              case measure => have := hkp3.out; simp [intOf]; omega
    · obtain rfl : i = n2 := by omega
      have HF : Hid (wr.ownsRow w.heap.size 9 1 ov i ((fstL L us).map Value.string)) := Lib.hid (by
        have h := HI.out
        have h2 := HK.out.own
        rw [HN.out.2.1] at h h2 ⊢
        rw [h.done] at h2
        exact h2)
      go_wp2
      go_ret
      exact ⟨ov, rfl, HF.out, HK.out.below⟩
end Go.Proofs.Ytdphjnbelggcfaa
