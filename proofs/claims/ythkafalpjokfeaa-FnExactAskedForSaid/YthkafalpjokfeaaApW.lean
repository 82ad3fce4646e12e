/-
  placesFor of the program: the places that are asked for. Used by the claims on chapter 11.
-/
import Derived.Test.YthkafalpjokfeaaAfW
import Derived.Deep.RegionHeldLaw
namespace Go.Proofs.Ythkafalpjokfeaa
open Go.RowKit Go.Shelf Go.Maps Go.WideMaps
set_option linter.unusedVariables false

theorem behL_all (xs : List ByteArray) (k : Nat) : behL xs ⟨#[]⟩ k = List.range k := by
  unfold behL
  rw [List.filter_eq_self]
  intro j _
  rfl
theorem lt_all {xs : List ByteArray} (ht : tableB xs = true) : Lt xs (List.range xs.length) := by
  have h1 := ((tableB_iff xs).1 ht).1.1
  refine ⟨ht, List.ne_nil_of_mem (a := 0) (List.mem_range.2 (by omega)), fun i hi => List.mem_range.1 hi, List.pairwise_lt_range⟩
theorem askedF_short (xs : List ByteArray) (x : ByteArray) (f : Nat) {m : List Nat} (h : m.length ≤ 1) : askedF xs x f m = [] := by
  cases f with
  | zero => rfl
  | succ f => rw [askedF, if_pos h]
theorem askedF_fuel (xs : List ByteArray) (x : ByteArray) : ∀ (g f : Nat) (m : List Nat), m.length ≤ g → m.length ≤ f → Lt xs m → (∃ i ∈ m, atL xs i = x) → askedF xs x f m = askedF xs x g m := by
  intro g
  induction g with
  | zero => intro f m hg hf hm _; exact absurd (List.length_eq_zero_iff.1 (by omega)) hm.ne
  | succ g ih =>
    intro f m hg hf hm hi
    by_cases h1 : m.length ≤ 1
    · rw [askedF_short xs x f h1, askedF_short xs x (g + 1) h1]
    · obtain ⟨f, rfl⟩ : ∃ f', f = f' + 1 := ⟨f - 1, by omega⟩
      obtain ⟨_, _, hv⟩ := ask_spec hm.nodup hm.dif (by omega)
      obtain ⟨i, him, hix⟩ := hi
      have hp : i ∈ partK xs m (ask xs m).2 (ansB x (ask xs m).2) := partK_mem.2 ⟨him, by rw [hix]⟩
      have hl := part_lt (q := ansB x (ask xs m).2) hv
      rw [askedF, askedF, if_neg h1, if_neg h1, ih f _ (by omega) (by omega) (hm.part (List.ne_nil_of_mem hp)) ⟨i, hp, hix⟩]
/-- The places that are asked for a letter out of some. -/
def asked (xs : List ByteArray) (x : ByteArray) (m : List Nat) : List Nat := askedF xs x m.length m
theorem asked_short (xs : List ByteArray) (x : ByteArray) {m : List Nat} (h : m.length ≤ 1) : asked xs x m = [] := askedF_short xs x _ h
theorem asked_long {xs : List ByteArray} {m : List Nat} {i : Nat} (hm : Lt xs m) (hi : i ∈ m) (h2 : 2 ≤ m.length) :
    asked xs (atL xs i) m = (ask xs m).2 :: asked xs (atL xs i) (partK xs m (ask xs m).2 (ansB (atL xs i) (ask xs m).2)) := by
  obtain ⟨_, _, hv⟩ := ask_spec hm.nodup hm.dif h2
  have hp : i ∈ partK xs m (ask xs m).2 (ansB (atL xs i) (ask xs m).2) := partK_mem.2 ⟨hi, rfl⟩
  have hl := part_lt (q := ansB (atL xs i) (ask xs m).2) hv
  obtain ⟨f, hf⟩ : ∃ f, m.length = f + 1 := ⟨m.length - 1, by omega⟩
  unfold asked
  rw [hf, askedF, if_neg (by omega), askedF_fuel xs _ _ f _ (Nat.le_refl _) (by omega) (hm.part (List.ne_nil_of_mem hp)) ⟨i, hp, rfl⟩]
theorem asked_le (xs : List ByteArray) (x : ByteArray) (m : List Nat) : (asked xs x m).length ≤ m.length := askedF_le xs x _ m
theorem asked_part {xs : List ByteArray} {m : List Nat} {i : Nat} (hm : Lt xs m) (hi : i ∈ m) (h2 : 2 ≤ m.length) :
    Lt xs (partK xs m (ask xs m).2 (ansB (atL xs i) (ask xs m).2)) ∧ i ∈ partK xs m (ask xs m).2 (ansB (atL xs i) (ask xs m).2) ∧ (partK xs m (ask xs m).2 (ansB (atL xs i) (ask xs m).2)).length < m.length ∧ (ask xs m).2 < 5 := by
  obtain ⟨_, h5, hv⟩ := ask_spec hm.nodup hm.dif h2
  have hp : i ∈ partK xs m (ask xs m).2 (ansB (atL xs i) (ask xs m).2) := partK_mem.2 ⟨hi, rfl⟩
  exact ⟨hm.part (List.ne_nil_of_mem hp), hp, part_lt hv, h5⟩
/-- Places in memory of their own, and the map of depths behind them. -/
def PlacesOut (xs : List ByteArray) (M n : Nat) (ps : List Nat) (W : World) (e : Ending) (W' : World) : Prop :=
  ∃ a c, e = .returned (.slice a ps.length c) ∧ W'.ownsRow W.heap.size 3 1 (.slice a ps.length c) ps.length (ints ps) ∧ W.grownBy W' (some M) ∧ ∃ n', Dm xs M n' W' ∧ n' ≤ n + 10 * 1099511627776
/-- What lies in memory between two questions. -/
structure Pf (a : Option Addr) (c : Nat) (xs : List ByteArray) (M nn : Nat) (w : World) (ps : List Nat) (pv : Value) (m : List Nat) (la : Option Addr) (lg : Nat) (W : World) : Prop where
  t : W.cell? ⟨w.heap.size, 0, none⟩ = some (.slice a xs.length c)
  mp : W.cell? ⟨w.heap.size, 1, none⟩ = some (.map (some M))
  row : W.ownsRow (w.heap.size + 1) 3 1 pv ps.length (ints ps)
  left : SrcV W la lg (ints m)
  apart : 0 < m.length → pv.ownBlock ≠ some lg
  dm : ∃ n', Dm xs M n' W ∧ n' ≤ nn
  gr : w.grownBy W (some M)
  sz : w.heap.size + 1 ≤ W.heap.size
section
variable {a : Option Addr} {c : Nat} {xs : List ByteArray} {M nn : Nat} {w : World} {ps : List Nat} {pv : Value} {m : List Nat} {la : Option Addr} {lg : Nat} {W W' : World}
theorem Pf.asked {nn' : Nat} (h : Pf a c xs M nn w ps pv m la lg W) (hg : W.grownBy W' (some M)) (hd : ∃ n', Dm xs M n' W' ∧ n' ≤ nn') (hM : M < w.heap.size) : Pf a c xs M nn' w ps pv m la lg W' := by
  obtain ⟨n0, hd0, _⟩ := h.dm
  have hne : ∀ i, w.heap.size ≤ i → some i ≠ some M := fun i hi e => by injection e; omega
  have hc : ∀ (i j : Nat) v, w.heap.size ≤ i → W.cell? ⟨i, j, none⟩ = some v → W'.cell? ⟨i, j, none⟩ = some v := fun i j v hi hv => (World.cell?_of_block (hg.block i (World.block_lt_of_cell? _ _ hv) (hne i hi))).trans hv
  refine ⟨hc _ _ _ (Nat.le_refl _) h.t, hc _ _ _ (Nat.le_refl _) h.mp, h.row.kept hg ?_, srcV_grown h.left hd0.isMap hg, h.apart, hd, grown_trans_some h.gr hg, Nat.le_trans h.sz hg.size⟩
  cases hq : pv.ownBlock with
  | none => exact .inl rfl
  | some q => exact .inr (fun e => by have := (ownBlock_geB h.row hq).1; injection e; omega)
theorem Pf.below (h : Pf a c xs M nn w ps pv m la lg W) (hb : Below W.heap.size W W') : Pf a c xs M nn w ps pv m la lg W' := by
  obtain ⟨n0, hd0, hn0⟩ := h.dm
  exact ⟨cell_belowB hb h.t, cell_belowB hb h.mp, row_below h.row hb, h.left.below hb, h.apart, ⟨n0, hd0.below hb, hn0⟩, grown_belowQ h.gr hb, Nat.le_trans h.sz hb.size⟩
end
/-! ### The walk -/
theorem run_ix0 (x y z : Value) (w : World) : (Instr.index 49 (.agg #[x, y, z]) (.int .i64 0)).run Try.prog w = .ok x w := by
  have u3 := Try.underlying25
  have a3 := Try.isAgg25
  have z3 := Try.sizeOf25
  simp [Instr.index, run_underlying Try.underlying49, asIntOf]
  go_simp
theorem run_ix1 (x y z : Value) (w : World) : (Instr.index 49 (.agg #[x, y, z]) (.int .i64 1)).run Try.prog w = .ok y w := by
  have u3 := Try.underlying25
  have a3 := Try.isAgg25
  have z3 := Try.sizeOf25
  simp [Instr.index, run_underlying Try.underlying49, asIntOf]
  go_simp
theorem run_ix2 (x y z : Value) (w : World) : (Instr.index 49 (.agg #[x, y, z]) (.int .i64 2)).run Try.prog w = .ok z w := by
  have u3 := Try.underlying25
  have a3 := Try.isAgg25
  have z3 := Try.sizeOf25
  simp [Instr.index, run_underlying Try.underlying49, asIntOf]
  go_simp
section
variable {a : Option Addr} {c : Nat} {xs : List ByteArray} {M nn : Nat} {w : World} {ps : List Nat} {pv : Value} {m : List Nat} {la : Option Addr} {lg : Nat} {W W' : World}
theorem Pf.put (h : Pf a c xs M nn w ps pv m la lg W) (hM : M < w.heap.size) (ob : Obj) (v' : Value) (p : Nat) (hg : (W.alloc ob).grownBy W' pv.ownBlock) (hown : W'.ownsRow (w.heap.size + 1) 3 1 v' (ps ++ [p]).length (ints (ps ++ [p]))) (hat : pv.ownBlock = v'.ownBlock ∨ v'.ownBlock = some (W.heap.size + 1)) : Pf a c xs M nn w (ps ++ [p]) v' m la lg W' := by
  have hb := h.below (below_alloc W ob)
  have hrow : ∀ r, pv.ownBlock = some r → w.heap.size + 1 ≤ r := fun r e => (ownBlock_geB h.row e).1
  have hne : ∀ i, i ≤ w.heap.size → some i ≠ pv.ownBlock := fun i hi e => by have := hrow i e.symm; omega
  obtain ⟨n0, hd0, hn0⟩ := hb.dm
  refine ⟨(World.cell?_of_block (hg.block _ (World.block_lt_of_cell? _ _ hb.t) (hne _ (Nat.le_refl _)))).trans hb.t, (World.cell?_of_block (hg.block _ (World.block_lt_of_cell? _ _ hb.mp) (hne _ (Nat.le_refl _)))).trans hb.mp, hown, ⟨hb.left.1, fun k v hv => ?_⟩, fun h0 => ?_, ⟨n0, hd0.kept hg (hne _ (by omega)), hn0⟩, grown_row hb.gr hg (fun r e => by have := hrow r e; omega), Nat.le_trans hb.sz hg.size⟩
  · have hk := hb.left.2 k v hv
    have hk0 : 0 < m.length := by
      have := (List.getElem?_eq_some_iff.1 hv).1
      rw [ints_len] at this; omega
    exact (World.cell?_of_block (a := ⟨lg, k, none⟩) (hg.block lg (World.block_lt_of_cell? _ _ hk) (fun e => h.apart hk0 e.symm))).trans hk
  · rcases hat with e | e
    · rw [← e]; exact h.apart h0
    · rw [e]
      intro e2
      have h1 := srcV_lt h.left (by rw [ints_len]; exact h0)
      injection e2
      omega
/-- The letters that are left. -/
theorem Pf.next {F : Nat → List Nat} {sv : Nat → Value} (h : Pf a c xs M nn w ps pv m la lg W) (hb : Below W.heap.size W W') (hR : Trw W' W.heap.size F sv) (q : Nat) : ∃ la' lg' lc', sv q = .slice la' (F q).length lc' ∧ Pf a c xs M nn w ps pv (F q) la' lg' W' := by
  obtain ⟨la', lg', lc', e, hs, hge, _⟩ := seq_of_row (hR.row q)
  have h2 := h.below hb
  refine ⟨la', lg', lc', e, h2.t, h2.mp, h2.row, hs, fun h0 e2 => ?_, h2.dm, h2.gr, h2.sz⟩
  have h3 := (ownBlock_geB h.row e2).2
  have h4 := hge (by rw [ints_len]; exact h0)
  omega
end
def lenS : Value → Nat
  | .slice _ n _ => n
  | _ => 0
set_option maxHeartbeats 16000000 in
set_option maxRecDepth 8000 in
theorem placesFor_any (a : Option Addr) (b o c : Nat) (xs : List ByteArray) (M i n : Nat) (w : World) (ht : tableB xs = true) (hi : i < xs.length) (h : ListIn w a b o xs) (hd : Dm xs M n w) (hn : n + 10 * 1099511627776 ≤ lim) :
    Calls Try.prog 93 #[.agg #[.slice a xs.length c, .map (some M)], .int .i64 (i : Int)] w (PlacesOut xs M n (asked xs (atL xs i) (List.range xs.length)) w) := by
  have hxl := h.len
  have hn10 := ((tableB_iff xs).1 ht).1.2
  have hMw := hd.lt
  obtain ⟨i0, hi', hz0, hz1, hz2⟩ := infoL_parts infoIL
  have hx := atL_eq (List.getElem?_eq_getElem hi)
  have h5 : (atL xs i).size ≤ 5 := (lt_all ht).five i (List.mem_range.2 hi)
  obtain rfl := h.src.1 (by omega)
  have HLi := Lib.hid fun W hg => list_grown (W := W) h hd.isMap hg
  have HBh := Lib.hid fun W hb => beh_any (some ⟨b, o, none⟩) b o c xs ⟨#[]⟩ W (h.below (w' := W) hb) hn10 (by show (0 : Nat) ≤ _; omega)
  have HD0 := Lib.hid hd
  have b1 := below_alloc w (.cells #[.slice (some ⟨b, o, none⟩) xs.length c, .map (some M)] 96)
  have b2 := b1.alloc (by simp) (Obj.cells #[] 3)
  have e0 : (w.alloc (.cells #[.slice (some ⟨b, o, none⟩) xs.length c, .map (some M)] 96)).heap.size = w.heap.size + 1 := by simp
  have c0 : ∀ j, (w.alloc (.cells #[.slice (some ⟨b, o, none⟩) xs.length c, .map (some M)] 96)).cell? ⟨w.heap.size, j, none⟩ = #[Value.slice (some ⟨b, o, none⟩) xs.length c, .map (some M)][j]? := fun j => World.cell?_alloc_new _ _ _ _
  have k0 : ((w.alloc (.cells #[.slice (some ⟨b, o, none⟩) xs.length c, .map (some M)] 96)).alloc (Obj.cells #[] 3)).cell? ⟨w.heap.size, 0, none⟩ = some (.slice (some ⟨b, o, none⟩) xs.length c) := keep_cell _ _ (c0 0)
  have k1 : ((w.alloc (.cells #[.slice (some ⟨b, o, none⟩) xs.length c, .map (some M)] 96)).alloc (Obj.cells #[] 3)).cell? ⟨w.heap.size, 1, none⟩ = some (.map (some M)) := keep_cell _ _ (c0 1)
  have hr0 : ((w.alloc (.cells #[.slice (some ⟨b, o, none⟩) xs.length c, .map (some M)] 96)).alloc (Obj.cells #[] 3)).ownsRow (w.heap.size + 1) 3 1 (.slice (some ⟨w.heap.size + 1, 0, none⟩) 0 0) 0 (ints []) := by
    have := row_emptyB (w.alloc (.cells #[.slice (some ⟨b, o, none⟩) xs.length c, .map (some M)] 96)) (w.heap.size + 1) (by simp)
    rw [e0] at this
    exact this
  have HR0 := Lib.hid hr0
  have HB0 := Lib.hid b2
  have HZ0 : Hid (w.heap.size + 2 ≤ ((w.alloc (.cells #[.slice (some ⟨b, o, none⟩) xs.length c, .map (some M)] 96)).alloc (Obj.cells #[] 3)).heap.size) := Lib.hid (by simp)
  have HT := Lib.hid ht
  have HX := Lib.hid hx
  have HI := Lib.hid hi
  have HN := Lib.hid hn
  have HTx := Lib.hid fun W hb => (h.below (w' := W) hb).src.2 i _ (List.getElem?_eq_getElem hi)
  rw [behL_all] at HBh
  have HTot : Hid (asked xs (atL xs i) (List.range xs.length) = asked xs (atL xs i) (List.range xs.length)) := Lib.hid rfl
  clear h hd hn ht hx b1 b2 e0 c0 hr0
  have j0 : (0 : Int) ≤ (i : Int) := by omega
  have j1 : (i : Int) < (xs.length : Int) := by omega
  go_enter Try.func93, Try.ntmps93
  go_wp2_with fail
  generalize (w.alloc (.cells #[.slice (some ⟨b, o, none⟩) xs.length c, .map (some M)] 96)).alloc (Obj.cells #[] 3) = W0 at *
  refine (HBh.out _ HB0.out).mono ?_
  rintro e w1 ⟨la0, lc0, rfl, hrow, hb⟩
  obtain ⟨la1, lg1, lc1, e1, hs1, hge1, _⟩ := seq_of_row hrow
  injection e1 with e2 e3 e4
  subst e2
  subst e4
  clear e3
  have HPf0 : Hid (Pf (some ⟨b, o, none⟩) c xs M (n + 0 * 1099511627776) w [] (.slice (some ⟨w.heap.size + 1, 0, none⟩) 0 0) (List.range xs.length) la0 lg1 w1) := Lib.hid (by
    refine ⟨cell_belowB hb k0, cell_belowB hb k1, row_below HR0.out hb, hs1, fun h0 e => ?_, ⟨n, (HD0.out.below HB0.out).below hb, by omega⟩, grown_of_below (HB0.out.trans (hb.mono HB0.out.size)), by have := HZ0.out; have := hb.size; omega⟩
    have h1 := hge1 (by rw [ints_len]; exact h0)
    have h2 : w.heap.size + 1 = lg1 := by simpa [Value.ownBlock] using e
    have h3 := HZ0.out
    omega)
  clear hb hrow hs1 hge1 k0 k1
  go_wp2
  go_loopw [5, 6] (fun pv lv wr => ∃ (ps m : List Nat) (la av : Option Addr) (lg lc capv : Nat), lv = .slice la m.length lc ∧ pv = .slice av ps.length capv ∧ ps.length + m.length ≤ 10 ∧ Hid (Pf (some ⟨b, o, none⟩) c xs M (n + ps.length * 1099511627776) w ps (.slice av ps.length capv) m la lg wr) ∧ Hid (Lt xs m) ∧ Hid (i ∈ m) ∧ Hid (ps ++ asked xs (atL xs i) m = asked xs (atL xs i) (List.range xs.length))) (fun _ lv _ => lenS lv)
  case atStart => exact ⟨[], List.range xs.length, la0, some ⟨w.heap.size + 1, 0, none⟩, lg1, lc0, 0, by rw [List.length_range], rfl, by rw [List.length_range]; simpa using hn10, HPf0, Lib.hid (lt_all HT.out), Lib.hid (List.mem_range.2 HI.out), Lib.hid rfl⟩
  case round =>
    obtain ⟨ps, m, la, av, lg, lc, capv, rfl, rfl, hlen, HPf, HLt, HMem, HAsk⟩ := hrel
    by_cases hl : 1 < m.length
    · have hl2 : (1 : Int) < (m.length : Int) := by omega
      have k0 := HPf.out.t
      have k1 := HPf.out.mp
      obtain ⟨n1, hd1, hn1⟩ := HPf.out.dm
      have hpow : 15 * 16 ^ (m.length - 1) ≤ 1099511627776 := by
        have h1 : 16 ^ (m.length - 1) ≤ 16 ^ 9 := Nat.pow_le_pow_right (by omega) (by omega)
        have h3 : (16 : Nat) ^ 9 = 68719476736 := by decide
        omega
      have G := Lib.hid (bestAsk_any (some ⟨b, o, none⟩) b o c xs M m HLt.out (by omega) (fun l' hl' _ => depthOf_any _ b o c xs M l'.length l' (Nat.le_refl _) hl') la lg lc n1 wr (HLi.out wr HPf.out.gr) HPf.out.left hd1 (by have := HN.out; omega))
      have HAl := Lib.hid (asked_long HLt.out HMem.out (by omega))
      have HAp := Lib.hid (asked_part HLt.out HMem.out (by omega))
      have hp5 := HAp.out.2.2.2
      generalize (ask xs m).1 = d at G
      generalize (ask xs m).2 = p at G HAl HAp hp5
      have HNn := Lib.hid hn1
      have HPw := Lib.hid hpow
      clear hd1 hn1 hpow
      go_wp2_with fail
      refine (G.out).mono ?_
      rintro e w2 ⟨rfl, hg, n2, hd2, hn2⟩
      have HPf2 : Hid (Pf (some ⟨b, o, none⟩) c xs M (n + (ps.length + 1) * 1099511627776) w ps (.slice av ps.length capv) m la lg w2) := Lib.hid (HPf.out.asked hg ⟨n2, hd2, by have := HNn.out; have := HPw.out; omega⟩ hMw)
      have HO2 := Lib.hid HPf2.out.row
      have hsz2 := HPf2.out.sz
      clear hg hd2 hn2 k0 k1
      go_wp2_with (first | (at_builtin; refine wpList_append_lies _ rfl _ _ 25 rfl (w.heap.size + 1) 3 i0 (.int .i64 0) 1 8 Try.underlying25 hi' hz0 hz1 hz2 rfl (by decide) (.slice av ps.length capv) ps.length (ints ps) rfl (HO2.out.alloc _) ⟨w2.heap.size, 0, none⟩ 1 1 [.int .i64 (p : Int)] rfl rfl (cell_one_newB _ _ _) (by simp [Value.oneCell']) (by omega) (by unfold maxLen; omega) (by omega) (by simp; omega) (w2.heap.size + 1) (by simp) ?_; intro gg capg w4 hown4 hgrow4 hat4 hglt4) | fail)
      have HPf4 : Hid (Pf (some ⟨b, o, none⟩) c xs M (n + (ps.length + 1) * 1099511627776) w (ps ++ [p]) (.slice (some ⟨gg, 0, none⟩) (ps.length + 1) capg) m la lg w4) := Lib.hid (HPf2.out.put hMw _ _ p hgrow4 (by rw [ints_snoc]; simpa using hown4) (by
        rcases hat4 with h9 | h9
        · exact .inl h9
        · exact .inr (by rw [h9]; rfl)))
      have HPf5 := Lib.hid (HPf4.out.below (Below.refl _ w4).drew)
      have HL5 := Lib.hid ((HLi.out w4 HPf4.out.gr).below (Below.refl _ w4).drew)
      have HPb := Lib.hid (partBy_any (some ⟨b, o, none⟩) b o c xs la lg lc m p w4.drew HL5.out HPf5.out.left HLt.out.lt HLt.out.five HLt.out.len (by omega))
      have v4 := HPf4.out.t
      have y4 : w4.cell? ⟨b, o + i, none⟩ = some (.string (atL xs i)) := by
        rw [HX.out]
        exact (HLi.out w4 HPf4.out.gr).src.2 i _ (List.getElem?_eq_getElem HI.out)
      have HAn := Lib.hid fun W => answerOf_any (atL xs i) p W h5 (by omega)
      have hq3 := ansB_lt (atL xs i) p
      clear hown4 hgrow4 hat4 hglt4
      rcases (show ansB (atL xs i) p = 0 ∨ ansB (atL xs i) p = 1 ∨ ansB (atL xs i) p = 2 by omega) with hq | hq | hq
      · have HQ := Lib.hid hq
        have HPt : Hid (partK xs m p 0 = partK xs m p (ansB (atL xs i) p)) := Lib.hid (by rw [hq])
        rw [hq] at HAn
        clear hq
        go_wp2
        go_region_held3 (fun w' => w'.cell? ⟨w.heap.size, 0, none⟩ = some (.slice (some ⟨b, o, none⟩) xs.length c) ∧ w'.cell? ⟨b, o + i, none⟩ = some (.string (atL xs i)))
          (first
            | with_reducible exact ⟨v5, y5⟩
            | exact ⟨v4, y4⟩
            | fail)
          ((first
            | (go_at_call 87; refine (HPb.out).mono ?_; rintro e w5 ⟨sv, rfl, hR5, hb5⟩; have ix := run_ix0 (sv 0) (sv 1) (sv 2) w5; have HR5 := Lib.hid hR5; have HB5 := Lib.hid hb5; have v5 := cell_belowB (W := w4.drew) hb5 v4; have y5 := cell_belowB (W := w4.drew) hb5 y4)
            | (go_at_call 84; refine (HAn.out _).mono ?_; rintro e w6 ⟨rfl, hww⟩; obtain rfl := hww.symm)
            | fail))
        all_goals (
          obtain ⟨la', lg', lc', hsv, hP⟩ := HPf5.out.next HB5.out HR5.out 0
          have HP5 := Lib.hid hP
          have HLn := Lib.hid HPt.out
          have hlt5 : (partK xs m p 0).length < m.length := by rw [HPt.out]; exact HAp.out.2.2.1
          rw [hsv]
          clear hsv hP hR5 hb5 v5 y5 v4 y4
          have HAs2 : Hid ((ps ++ [p]) ++ asked xs (atL xs i) (partK xs m p 0) = asked xs (atL xs i) (List.range xs.length)) := Lib.hid (by
            rw [← HAsk.out, HAl.out, HPt.out]; simp)
          have HL2 : Hid (Lt xs (partK xs m p 0)) := Lib.hid (by rw [HPt.out]; exact HAp.out.1)
          have HM2 : Hid (i ∈ partK xs m p 0) := Lib.hid (by rw [HPt.out]; exact HAp.out.2.1)
          generalize partK xs m p 0 = m2 at *
          go_wp2
          go_roundw
          case rel => exact ⟨ps ++ [p], m2, la', some ⟨gg, 0, none⟩, lg', lc', capg, rfl, by rw [List.length_append]; rfl, by rw [List.length_append]; simp; omega, by rw [List.length_append]; exact HP5, HL2, HM2, HAs2⟩
          case measure => simp [lenS]; omega)
      · have HQ := Lib.hid hq
        have HPt : Hid (partK xs m p 1 = partK xs m p (ansB (atL xs i) p)) := Lib.hid (by rw [hq])
        rw [hq] at HAn
        clear hq
        go_wp2
        go_region_held3 (fun w' => w'.cell? ⟨w.heap.size, 0, none⟩ = some (.slice (some ⟨b, o, none⟩) xs.length c) ∧ w'.cell? ⟨b, o + i, none⟩ = some (.string (atL xs i)))
          (first
            | with_reducible exact ⟨v5, y5⟩
            | exact ⟨v4, y4⟩
            | fail)
          ((first
            | (go_at_call 87; refine (HPb.out).mono ?_; rintro e w5 ⟨sv, rfl, hR5, hb5⟩; have ix := run_ix1 (sv 0) (sv 1) (sv 2) w5; have HR5 := Lib.hid hR5; have HB5 := Lib.hid hb5; have v5 := cell_belowB (W := w4.drew) hb5 v4; have y5 := cell_belowB (W := w4.drew) hb5 y4)
            | (go_at_call 84; refine (HAn.out _).mono ?_; rintro e w6 ⟨rfl, hww⟩; obtain rfl := hww.symm)
            | fail))
        all_goals (
          obtain ⟨la', lg', lc', hsv, hP⟩ := HPf5.out.next HB5.out HR5.out 1
          have HP5 := Lib.hid hP
          have HLn := Lib.hid HPt.out
          have hlt5 : (partK xs m p 1).length < m.length := by rw [HPt.out]; exact HAp.out.2.2.1
          rw [hsv]
          clear hsv hP hR5 hb5 v5 y5 v4 y4
          have HAs2 : Hid ((ps ++ [p]) ++ asked xs (atL xs i) (partK xs m p 1) = asked xs (atL xs i) (List.range xs.length)) := Lib.hid (by
            rw [← HAsk.out, HAl.out, HPt.out]; simp)
          have HL2 : Hid (Lt xs (partK xs m p 1)) := Lib.hid (by rw [HPt.out]; exact HAp.out.1)
          have HM2 : Hid (i ∈ partK xs m p 1) := Lib.hid (by rw [HPt.out]; exact HAp.out.2.1)
          generalize partK xs m p 1 = m2 at *
          go_wp2
          go_roundw
          case rel => exact ⟨ps ++ [p], m2, la', some ⟨gg, 0, none⟩, lg', lc', capg, rfl, by rw [List.length_append]; rfl, by rw [List.length_append]; simp; omega, by rw [List.length_append]; exact HP5, HL2, HM2, HAs2⟩
          case measure => simp [lenS]; omega)
      · have HQ := Lib.hid hq
        have HPt : Hid (partK xs m p 2 = partK xs m p (ansB (atL xs i) p)) := Lib.hid (by rw [hq])
        rw [hq] at HAn
        clear hq
        go_wp2
        go_region_held3 (fun w' => w'.cell? ⟨w.heap.size, 0, none⟩ = some (.slice (some ⟨b, o, none⟩) xs.length c) ∧ w'.cell? ⟨b, o + i, none⟩ = some (.string (atL xs i)))
          (first
            | with_reducible exact ⟨v5, y5⟩
            | exact ⟨v4, y4⟩
            | fail)
          ((first
            | (go_at_call 87; refine (HPb.out).mono ?_; rintro e w5 ⟨sv, rfl, hR5, hb5⟩; have ix := run_ix2 (sv 0) (sv 1) (sv 2) w5; have HR5 := Lib.hid hR5; have HB5 := Lib.hid hb5; have v5 := cell_belowB (W := w4.drew) hb5 v4; have y5 := cell_belowB (W := w4.drew) hb5 y4)
            | (go_at_call 84; refine (HAn.out _).mono ?_; rintro e w6 ⟨rfl, hww⟩; obtain rfl := hww.symm)
            | fail))
        all_goals (
          obtain ⟨la', lg', lc', hsv, hP⟩ := HPf5.out.next HB5.out HR5.out 2
          have HP5 := Lib.hid hP
          have HLn := Lib.hid HPt.out
          have hlt5 : (partK xs m p 2).length < m.length := by rw [HPt.out]; exact HAp.out.2.2.1
          rw [hsv]
          clear hsv hP hR5 hb5 v5 y5 v4 y4
          have HAs2 : Hid ((ps ++ [p]) ++ asked xs (atL xs i) (partK xs m p 2) = asked xs (atL xs i) (List.range xs.length)) := Lib.hid (by
            rw [← HAsk.out, HAl.out, HPt.out]; simp)
          have HL2 : Hid (Lt xs (partK xs m p 2)) := Lib.hid (by rw [HPt.out]; exact HAp.out.1)
          have HM2 : Hid (i ∈ partK xs m p 2) := Lib.hid (by rw [HPt.out]; exact HAp.out.2.1)
          generalize partK xs m p 2 = m2 at *
          go_wp2
          go_roundw
          case rel => exact ⟨ps ++ [p], m2, la', some ⟨gg, 0, none⟩, lg', lc', capg, rfl, by rw [List.length_append]; rfl, by rw [List.length_append]; simp; omega, by rw [List.length_append]; exact HP5, HL2, HM2, HAs2⟩
          case measure => simp [lenS]; omega)
    · have hl2 : ¬ (1 : Int) < (m.length : Int) := by omega
      have HE : Hid (ps = asked xs (atL xs i) (List.range xs.length)) := Lib.hid (by rw [← HAsk.out, asked_short xs _ (by omega), List.append_nil])
      have hpl : ps.length ≤ 10 := by omega
      go_wp2
      go_ret
      rw [← HE.out]
      exact ⟨av, capv, rfl, row_monoB HPf.out.row (Nat.le_succ _), HPf.out.gr, by
        obtain ⟨n1, h1, h2⟩ := HPf.out.dm
        exact ⟨n1, h1, Nat.le_trans h2 (Nat.add_le_add_left (Nat.mul_le_mul_right _ hpl) n)⟩⟩
end Go.Proofs.Ythkafalpjokfeaa
