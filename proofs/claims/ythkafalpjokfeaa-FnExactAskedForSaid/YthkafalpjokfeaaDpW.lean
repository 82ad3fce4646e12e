/-
  bestAsk and depthOf of the program, by the number of letters. Used by the claims on chapter 11.
-/
import Derived.Test.YthkafalpjokfeaaDpL
namespace Go.Proofs.Ythkafalpjokfeaa
open Go.RowKit Go.Shelf Go.Maps Go.WideMaps
set_option linter.unusedVariables false

attribute [local go_sem] Oper.semAt_some

theorem questions_any (a : Option Addr) (b c : Nat) (n : Nat) (a1 : Option Addr) (c1 k : Nat) (w : World) :
    Calls Try.prog 116 #[.agg #[.slice a n c], .slice a1 k c1] w fun e w' => e = .returned (.func (.func 131) #[] #[.pointer (some ⟨w.heap.size, 0, none⟩), .pointer (some ⟨w.heap.size + 1, 0, none⟩)]) ∧ w' = (w.alloc (.cells #[.slice a n c] 29)).alloc (.cells #[.slice a1 k c1] 25) := by
  go_enter Try.func116, Try.ntmps116
  go_wp2
  go_ret
  exact ⟨by simp, rfl⟩

/-- What asking answers, and what it leaves: memory but for the map's block is as it was, and the map holds depths. -/
def AskOut (xs : List ByteArray) (M n k : Nat) (v : Value) (W : World) (e : Ending) (W' : World) : Prop :=
  e = .returned v ∧ W.grownBy W' (some M) ∧ ∃ n', Dm xs M n' W' ∧ n' ≤ n + k
def lim : Nat := 1000000000000000

theorem grown_row {w W W' : World} {M : Nat} {row : Option Nat} (h : w.grownBy W (some M)) (hg : W.grownBy W' row) (hrow : ∀ r, row = some r → w.heap.size ≤ r) : w.grownBy W' (some M) :=
  ⟨hg.os.trans h.os, hg.tape.trans h.tape, hg.output.trans h.output, Nat.le_trans h.size hg.size, fun i hi hne => (hg.block i (Nat.lt_of_lt_of_le hi h.size) (fun e => by have := hrow i e.symm; omega)).trans (h.block i hi hne)⟩
theorem grown_belowQ {w W W' : World} {M : Nat} (h : w.grownBy W (some M)) (hb : Below W.heap.size W W') : w.grownBy W' (some M) :=
  grown_trans_some h (grown_of_below hb)

/-- What lies in memory while questions are asked. -/
structure Qs (a : Option Addr) (c : Nat) (xs : List ByteArray) (a1 : Option Addr) (c1 : Nat) (m : List Nat) (M n0 : Nat) (w : World) (bd : Nat × Nat) (nn : Nat) (W : World) : Prop where
  t : W.cell? ⟨n0, 0, none⟩ = some (.slice a xs.length c)
  mp : W.cell? ⟨n0, 1, none⟩ = some (.map (some M))
  best : Boxed W (n0 + 1) 3 (.int .i64 (bd.2 : Int))
  dpt : Boxed W (n0 + 2) 3 (.int .i64 (bd.1 : Int))
  k1 : W.cell? ⟨n0 + 3, 0, none⟩ = some (.slice a xs.length c)
  k2 : W.cell? ⟨n0 + 4, 0, none⟩ = some (.slice a1 m.length c1)
  dm : ∃ n', Dm xs M n' W ∧ n' ≤ nn
  gr : w.grownBy W (some M)
section
variable {a : Option Addr} {c : Nat} {xs : List ByteArray} {a1 : Option Addr} {c1 : Nat} {m : List Nat} {M n0 : Nat} {w : World} {bd : Nat × Nat} {nn : Nat} {W W' : World}
theorem list_grown {b o : Nat} (h : ListIn w a b o xs) (hM : ∃ o : Obj, w.heap[M]? = some o ∧ o.isCells = false) (hg : w.grownBy W (some M)) : ListIn W a b o xs :=
  ⟨⟨h.src.1, fun k v hv => cell_kept (h.src.2 k v hv) hg (fun r e => by injection e with e; subst e; exact hM)⟩, h.len, h.texts⟩
theorem srcV_grown {g : Nat} {vs : List Value} (h : SrcV w a g vs) (hM : ∃ o : Obj, w.heap[M]? = some o ∧ o.isCells = false) (hg : w.grownBy W (some M)) : SrcV W a g vs :=
  ⟨h.1, fun k v hv => cell_kept (h.2 k v hv) hg (fun r e => by injection e with e; subst e; exact hM)⟩
theorem Qs.more {nn' : Nat} (h : Qs a c xs a1 c1 m M n0 w bd nn W) (hle : nn ≤ nn') : Qs a c xs a1 c1 m M n0 w bd nn' W := by
  obtain ⟨n', hd, hn'⟩ := h.dm
  exact ⟨h.t, h.mp, h.best, h.dpt, h.k1, h.k2, ⟨n', hd, Nat.le_trans hn' hle⟩, h.gr⟩
theorem Qs.kept {row : Option Nat} (h : Qs a c xs a1 c1 m M n0 w bd nn W) (hg : W.grownBy W' row) (hrow : ∀ r, row = some r → n0 + 5 ≤ r) (hn : w.heap.size ≤ n0) (hM : M < n0) : Qs a c xs a1 c1 m M n0 w bd nn W' := by
  have hne : ∀ i, i < n0 + 5 → some i ≠ row := fun i hi e => by have := hrow i e.symm; omega
  have hc : ∀ (i j : Nat) v, i < n0 + 5 → W.cell? ⟨i, j, none⟩ = some v → W'.cell? ⟨i, j, none⟩ = some v := fun i j v hi hv => (World.cell?_of_block (hg.block i (World.block_lt_of_cell? _ _ hv) (hne i hi))).trans hv
  obtain ⟨n', hd, hn'⟩ := h.dm
  exact ⟨hc _ _ _ (by omega) h.t, hc _ _ _ (by omega) h.mp, h.best.kept hg (hne _ (by omega)), h.dpt.kept hg (hne _ (by omega)), hc _ _ _ (by omega) h.k1, hc _ _ _ (by omega) h.k2, ⟨n', hd.kept hg (hne _ (by omega)), hn'⟩, grown_row h.gr hg (fun r e => by have := hrow r e; omega)⟩
theorem Qs.below (h : Qs a c xs a1 c1 m M n0 w bd nn W) (hb : Below W.heap.size W W') (hn : w.heap.size ≤ n0) (hM : M < n0) : Qs a c xs a1 c1 m M n0 w bd nn W' :=
  h.kept (row := none) ⟨hb.os, hb.tape, hb.output, hb.size, fun i hi _ => hb.block i hi⟩ (fun r e => by cases e) hn hM
/-- A call that asked. -/
theorem Qs.asked {k : Nat} (h : Qs a c xs a1 c1 m M n0 w bd nn W) (hg : W.grownBy W' (some M)) (hd : ∃ n', Dm xs M n' W' ∧ n' ≤ nn + k) (hM : M < n0) : Qs a c xs a1 c1 m M n0 w bd (nn + k) W' := by
  have hne : ∀ i, n0 ≤ i → some i ≠ some M := fun i hi e => by injection e; omega
  have hc : ∀ (i j : Nat) v, n0 ≤ i → W.cell? ⟨i, j, none⟩ = some v → W'.cell? ⟨i, j, none⟩ = some v := fun i j v hi hv => (World.cell?_of_block (hg.block i (World.block_lt_of_cell? _ _ hv) (hne i hi))).trans hv
  exact ⟨hc _ _ _ (by omega) h.t, hc _ _ _ (by omega) h.mp, h.best.kept hg (hne _ (by omega)), h.dpt.kept hg (hne _ (by omega)), hc _ _ _ (by omega) h.k1, hc _ _ _ (by omega) h.k2, hd, grown_trans_some h.gr hg⟩
/-- A better place. -/
theorem Qs.put (p d : Nat) (h : Qs a c xs a1 c1 m M n0 w bd nn W) (hn : w.heap.size ≤ n0) (hM : M < n0) : Qs a c xs a1 c1 m M n0 w (d, p) nn ((W.setCell ⟨n0 + 1, 0, none⟩ (.int .i64 (p : Int))).setCell ⟨n0 + 2, 0, none⟩ (.int .i64 (d : Int))) := by
  have g1 := grownBy_setCell' W (n0 + 1) (.int .i64 (p : Int))
  have g2 := grownBy_setCell' (W.setCell ⟨n0 + 1, 0, none⟩ (.int .i64 (p : Int))) (n0 + 2) (.int .i64 (d : Int))
  have hc : ∀ (i j : Nat) v, i ≠ n0 + 1 → i ≠ n0 + 2 → W.cell? ⟨i, j, none⟩ = some v → ((W.setCell ⟨n0 + 1, 0, none⟩ (.int .i64 (p : Int))).setCell ⟨n0 + 2, 0, none⟩ (.int .i64 (d : Int))).cell? ⟨i, j, none⟩ = some v := fun i j v h1 h2 hv =>
    (World.cell?_setCell_other _ _ _ _ (by intro e; injection e with e; exact h2 e.symm)).trans ((World.cell?_setCell_other _ _ _ _ (by intro e; injection e with e; exact h1 e.symm)).trans hv)
  obtain ⟨n', hd, hn'⟩ := h.dm
  exact ⟨hc _ _ _ (by omega) (by omega) h.t, hc _ _ _ (by omega) (by omega) h.mp, (h.best.set _).kept g2 (fun e => by injection e; omega), (h.dpt.kept g1 (fun e => by injection e; omega)).set _, hc _ _ _ (by omega) (by omega) h.k1, hc _ _ _ (by omega) (by omega) h.k2,
    ⟨n', (hd.kept g1 (fun e => by injection e; omega)).kept g2 (fun e => by injection e; omega), hn'⟩, grown_row (grown_row h.gr g1 (fun r e => by injection e; omega)) g2 (fun r e => by injection e; omega)⟩
end
/-- The contract of depthOf at letters. -/
def DepAt (a : Option Addr) (b o c : Nat) (xs : List ByteArray) (M : Nat) (m : List Nat) : Prop :=
  ∀ (a1 : Option Addr) (g1 c1 n : Nat) (W : World), ListIn W a b o xs → SrcV W a1 g1 (ints m) → Dm xs M n W → n + 16 ^ m.length ≤ lim →
    Calls Try.prog 90 #[.agg #[.slice a xs.length c, .map (some M)], .slice a1 m.length c1] W (AskOut xs M n (16 ^ m.length) (.int .i64 ((dep xs m : Nat) : Int)) W)

set_option maxRecDepth 100000 in
set_option maxHeartbeats 8000000 in
theorem bestAsk_any (a : Option Addr) (b o c : Nat) (xs : List ByteArray) (M : Nat) (m : List Nat) (hm : Lt xs m) (h2 : 2 ≤ m.length) (ih : ∀ l, Lt xs l → l.length < m.length → DepAt a b o c xs M l)
    (a1 : Option Addr) (g1 c1 n : Nat) (w : World) (h : ListIn w a b o xs) (hs : SrcV w a1 g1 (ints m)) (hd : Dm xs M n w) (hn : n + 15 * 16 ^ (m.length - 1) ≤ lim) :
    Calls Try.prog 91 #[.agg #[.slice a xs.length c, .map (some M)], .slice a1 m.length c1] w (AskOut xs M n (15 * 16 ^ (m.length - 1)) (.tuple #[.int .i64 ((ask xs m).2 : Int), .int .i64 ((ask xs m).1 : Int)]) w) := by
  refine (callsIn_wide (n := 10)).1 ?_
  have hmo : Try.prog.follows .mixedOrders = true := by kernel_rfl
  have hfn : ∀ f, Fence.wide.fn f := fun _ => trivial
  have hd1 : (1 : Nat) ≤ 10 := by omega
  refine callsIn_of_wp_marks Try.func91 rfl trivial ?_ rfl
  simp only [Try.ntmps91, List.size_toArray, List.length_cons, List.length_nil, Nat.reduceAdd, Nat.reduceSub, Array.replicate_succ, Array.replicate_zero, List.push_toArray, List.append_toArray, List.nil_append, List.cons_append]
  have HQ := Lib.hid fun W => (callsIn_wide (n := 9)).2 (questions_any a b c xs.length a1 c1 m.length W)
  have hs3 : (((w.alloc (.cells #[.slice a xs.length c, .map (some M)] 96)).alloc (.cells #[.int .i64 0] 3)).alloc (.cells #[.int .i64 (m.length : Int)] 3)).heap.size = w.heap.size + 3 := by simp
  have hq0 : Qs a c xs a1 c1 m M w.heap.size w (askTo xs (dep xs) m 0) n (((((w.alloc (.cells #[.slice a xs.length c, .map (some M)] 96)).alloc (.cells #[.int .i64 0] 3)).alloc (.cells #[.int .i64 (m.length : Int)] 3)).alloc (.cells #[.slice a xs.length c] 29)).alloc (.cells #[.slice a1 m.length c1] 25)) := by
    have z1 : (w.alloc (.cells #[.slice a xs.length c, .map (some M)] 96)).heap.size = w.heap.size + 1 := by simp
    have z2 : ((w.alloc (.cells #[.slice a xs.length c, .map (some M)] 96)).alloc (.cells #[.int .i64 0] 3)).heap.size = w.heap.size + 2 := by simp
    have z4 : ((((w.alloc (.cells #[.slice a xs.length c, .map (some M)] 96)).alloc (.cells #[.int .i64 0] 3)).alloc (.cells #[.int .i64 (m.length : Int)] 3)).alloc (.cells #[.slice a xs.length c] 29)).heap.size = w.heap.size + 4 := by simp
    have b1 := below_alloc w (.cells #[.slice a xs.length c, .map (some M)] 96)
    have b2 := b1.alloc (by simp) (.cells #[.int .i64 0] 3)
    have b3 := b2.alloc (by simp; omega) (.cells #[.int .i64 (m.length : Int)] 3)
    have b4 := b3.alloc (by simp; omega) (.cells #[.slice a xs.length c] 29)
    have b5 := b4.alloc (by simp; omega) (.cells #[.slice a1 m.length c1] 25)
    have c0 : ∀ j, (w.alloc (.cells #[.slice a xs.length c, .map (some M)] 96)).cell? ⟨w.heap.size, j, none⟩ = #[Value.slice a xs.length c, .map (some M)][j]? := fun j => World.cell?_alloc_new _ _ _ _
    refine ⟨?_, ?_, ?_, ?_, ?_, ?_, ⟨n, hd.below b5, Nat.le_refl _⟩, grown_of_below b5⟩
    · exact keep_cell _ _ (keep_cell _ _ (keep_cell _ _ (keep_cell _ _ (c0 0))))
    · exact keep_cell _ _ (keep_cell _ _ (keep_cell _ _ (keep_cell _ _ (c0 1))))
    · have := Boxed.new (w.alloc (.cells #[.slice a xs.length c, .map (some M)] 96)) 3 (.int .i64 0)
      rw [z1] at this
      exact ((this.alloc _).alloc _).alloc _
    · have := Boxed.new ((w.alloc (.cells #[.slice a xs.length c, .map (some M)] 96)).alloc (.cells #[.int .i64 0] 3)) 3 (.int .i64 (m.length : Int))
      rw [z2] at this
      exact (this.alloc _).alloc _
    · have := cell_new (((w.alloc (.cells #[.slice a xs.length c, .map (some M)] 96)).alloc (.cells #[.int .i64 0] 3)).alloc (.cells #[.int .i64 (m.length : Int)] 3)) (.slice a xs.length c) 29
      rw [hs3] at this
      exact keep_cell _ _ this
    · have := cell_new ((((w.alloc (.cells #[.slice a xs.length c, .map (some M)] 96)).alloc (.cells #[.int .i64 0] 3)).alloc (.cells #[.int .i64 (m.length : Int)] 3)).alloc (.cells #[.slice a xs.length c] 29)) (.slice a1 m.length c1) 25
      rw [z4] at this
      exact this
  have hs5 : (((((w.alloc (.cells #[.slice a xs.length c, .map (some M)] 96)).alloc (.cells #[.int .i64 0] 3)).alloc (.cells #[.int .i64 (m.length : Int)] 3)).alloc (.cells #[.slice a xs.length c] 29)).alloc (.cells #[.slice a1 m.length c1] 25)).heap.size = w.heap.size + 5 := by simp
  have HQ0 := Lib.hid hq0
  have HS5 := Lib.hid hs5
  have hMw := hd.lt
  have HLi := Lib.hid fun W hg => list_grown (W := W) h hd.isMap hg
  have HSr := Lib.hid fun W hg => srcV_grown (W := W) hs hd.isMap hg
  have HMi := Lib.hid hd.isMap
  clear hq0 hs5 h hs hd
  gi_wp2_with fail
  generalize ((w.alloc (.cells #[.slice a xs.length c, .map (some M)] 96)).alloc (.cells #[.int .i64 0] 3)).alloc (.cells #[.int .i64 (m.length : Int)] 3) = W3 at *
  refine (HQ.out W3).mono ?_
  rintro e W5 ⟨rfl, rfl⟩
  rw [hs3]
  generalize (W3.alloc (.cells #[.slice a xs.length c] 29)).alloc (.cells #[.slice a1 m.length c1] 25) = W5 at *
  clear hs3 HQ
  gi_wp2
  obtain ⟨E, hE⟩ : ∃ E, E = 16 ^ (m.length - 1) := ⟨_, rfl⟩
  have HE := Lib.hid hE
  rw [← hE] at hn ⊢
  clear hE
  have hs5 := HS5.out
  refine range_two (xs := xs) (m := m) hd1 (gf := 131) (lb := #[.pointer (some ⟨w.heap.size + 3, 0, none⟩), .pointer (some ⟨w.heap.size + 4, 0, none⟩)]) rfl (enters_of Try.func131 (by kernel_rfl) rfl)
    (questions_tells a b o c xs a1 g1 c1 m (w.heap.size + 3) (w.heap.size + 4) hm.ne hm.lt hm.five hm.len 9 (by omega) W5)
    (fun k W => Qs a c xs a1 c1 m M w.heap.size w (askTo xs (dep xs) m k) (n + 3 * k * E) W) (fun _ => False) ?own ?ownx ?hk ?hg ?hv ?h0
    (fun k gg => { tmps := #[.agg #[.slice a xs.length c, .map (some M)], .slice a1 m.length c1, .pointer (some ⟨w.heap.size, 0, none⟩), undef, .int .i64 0, .int .i64 0, .pointer (some ⟨w.heap.size + 1, 0, none⟩), .pointer (some ⟨w.heap.size + 1 + 1, 0, none⟩), .int .i64 (k : Int), .slice (some ⟨gg, 0, none⟩) (prts xs m k).length 3, undef, undef, undef, .slice a1 m.length c1, .int .i64 (m.length : Int), .pointer (some ⟨w.heap.size, 0, none⟩), .agg #[.slice a xs.length c], .slice a1 m.length c1, .func (.func 131) #[] #[.pointer (some ⟨w.heap.size + 3, 0, none⟩), .pointer (some ⟨w.heap.size + 3 + 1, 0, none⟩)], .int .i64 (k : Int), .slice (some ⟨gg, 0, none⟩) (prts xs m k).length 3, undef, undef, undef, undef, undef, undef, undef, undef, undef, undef, undef, undef, undef, undef, undef, undef, undef, undef, undef, undef, undef], defers := [] })
    ?assign ?body ?done ?stop
  case own =>
    intro k X Y row hQ hg hrow
    exact hQ.kept hg (fun r e => by have := (hrow r e).1; omega) (Nat.le_refl _) hMw
  case ownx => exact fun _ _ _ _ h _ _ => h
  case hk =>
    intro k W hQ
    exact ⟨hQ.k1, hQ.k2, HLi.out W hQ.gr, HSr.out W hQ.gr⟩
  case hg =>
    intro k W W' hQ hb
    exact hQ.below hb (Nat.le_refl _) hMw
  case hv =>
    intro k W hQ hv
    have e : askTo xs (dep xs) m (k + 1) = askTo xs (dep xs) m k := by rw [askTo, if_pos hv]
    rw [e]
    exact hQ.more (by
      have : 3 * k * E ≤ 3 * (k + 1) * E := Nat.mul_le_mul_right _ (by omega)
      omega)
  case h0 =>
    have := HQ0.out
    rwa [Nat.mul_zero, Nat.zero_mul, Nat.add_zero]
  case assign =>
    intro l k gg W K hK
    gi_wp2
    exact hK
  case stop => exact fun _ _ _ h _ => h.elim
  case body =>
    rintro l k gg W hk5 hQ hv hlies
    have hx : 1 ≤ 10 - 1 - 1 := by omega
    have HQ := Lib.hid hQ
    have HLs := Lib.hid hlies
    have HP := Lib.hid fun (j : Nat) (hj : j < (prts xs m k).length) => And.intro (hm.prt (List.getElem_mem hj)) (prt_lt hv (List.getElem_mem hj))
    have HD10 := Lib.hid (dmax_le xs (prts xs m k) (fun l hl => by have := prt_lt hv hl; have := hm.len; omega))
    have HDs := Lib.hid (dmax_succ xs (prts xs m k))
    have HW := Lib.hid (dmax_worst xs m k)
    have hp3 := (prts_len (xs := xs) (p := k) hm.ne).2.2
    have HA : Hid (askTo xs (dep xs) m (k + 1) = if 1 + worst xs (dep xs) m k < (askTo xs (dep xs) m k).1 then (1 + worst xs (dep xs) m k, k) else askTo xs (dep xs) m k) := Lib.hid (by rw [askTo, if_neg (by rw [hv]; simp)])
    have HA10 : Hid ((askTo xs (dep xs) m k).1 ≤ 10) := Lib.hid (by have := askTo_le xs (dep xs) m k; have := hm.len; omega)
    have HEk : Hid (n + 3 * k * E + 3 * E = n + 3 * (k + 1) * E) := Lib.hid (by
      have : 3 * (k + 1) * E = 3 * k * E + 3 * E := by rw [Nat.mul_add, Nat.add_mul]
      omega)
    have HEl : Hid (n + 3 * k * E + 3 * E ≤ lim) := Lib.hid (by
      have h1 : 3 * (k + 1) * E ≤ 15 * E := Nat.mul_le_mul_right _ (by omega)
      have h2 := HEk.out
      omega)
    have HIh := Lib.hid fun l h1 h2 => ih l h1 h2
    have HMl : Hid (∀ j (hj : j < (prts xs m k).length), 16 ^ (prts xs m k)[j].length ≤ E) := Lib.hid fun j hj => by
      rw [HE.out]
      have := (HP.out j hj).2
      exact Nat.pow_le_pow_right (by omega) (by omega)
    generalize prts xs m k = ps at *
    clear hQ hlies hv
    gi_wp2
    gi_loopw [10, 23] (fun s v wr => ∃ (j z : Nat), v = .int .i64 (j : Int) ∧ j ≤ ps.length ∧ s = .int .i64 (z : Int) ∧ z ≤ 10 ∧ Hid (z = dmax xs ps j) ∧ Hid (Qs a c xs a1 c1 m M w.heap.size w (askTo xs (dep xs) m k) (n + 3 * k * E + j * E) wr) ∧ Hid (Lies wr gg ps) ∧ Hid (KeepsFrom W5.heap.size W wr)) (fun _ v _ => ps.length - (intOf v).toNat)
    case atStart => exact ⟨0, 0, rfl, Nat.zero_le _, rfl, by omega, Lib.hid rfl, by rw [Nat.zero_mul, Nat.add_zero]; exact HQ, HLs, Lib.hid (KeepsFrom.refl _ _)⟩
    case round =>
      obtain ⟨j, z, rfl, hj, rfl, hz, HZ, HQj, HLj, HKj⟩ := hrel
      have k01 := HQj.out.t
      have k02 := HQj.out.mp
      have hsw := (Array.getElem?_eq_some_iff.1 HQj.out.dpt).1
      by_cases hjl : j < ps.length
      · obtain ⟨av, gj, cv, hcell, hsrc⟩ := HLj.out j hjl
        obtain ⟨n', hd', hn'⟩ := HQj.out.dm
        have hle := HMl.out j hjl
        have hb1 : (j + 1) * E ≤ 3 * E := Nat.mul_le_mul_right _ (by omega)
        have hb2 : (j + 1) * E = j * E + E := Nat.succ_mul _ _
        have G := Lib.hid (CallsIn.inRound l ((callsIn_wide (n := 10 - 1 - 1 - 1)).2 (HIh.out ps[j] (HP.out j hjl).1 (HP.out j hjl).2 av gj cv n' wr (HLi.out wr HQj.out.gr) hsrc hd' (by have := HEl.out; omega))))
        have HDj := Lib.hid (HDs.out j hjl)
        have HDl := Lib.hid (HD10.out (j + 1))
        rw [← HZ.out] at HDj
        have HMp := Lib.hid hd'.isMap
        have HB2 := Lib.hid hb2
        have HBn := Lib.hid hn'
        have HBl := Lib.hid hle
        have hd10 : dep xs ps[j] ≤ 10 := by
          have h1 := HDl.out
          rw [HDj.out] at h1
          omega
        generalize ps[j] = lj at hcell G HDj hle HBl hd10
        have HDw := Lib.hid HDj.out
        generalize dep xs lj = d at G HDj hd10 HDw
        clear hsrc hb1 hb2 hle hn' hd'
        have j0 : (0 : Int) ≤ (j : Int) := by omega
        have j1 : (j : Int) < (ps.length : Int) := by omega
        gi_wp2_with fail
        refine (G.out).mono ?_
        rintro e w2 ⟨rfl, hg, hdm⟩
        have HQ2 : Hid (Qs a c xs a1 c1 m M w.heap.size w (askTo xs (dep xs) m k) (n + 3 * k * E + (j + 1) * E) w2) := Lib.hid ((HQj.out.asked (k := 16 ^ lj.length) hg (by
          obtain ⟨n2, h1, h2⟩ := hdm
          exact ⟨n2, h1, by have := HBn.out; omega⟩) hMw).more (by have := HB2.out; have := HBl.out; omega))
        have HL2 := Lib.hid (HLj.out.kept hg (fun r e => by injection e with e; subst e; exact HMp.out))
        have HK2 := Lib.hid (HKj.out.trans (KeepsFrom.of_grownBy (B := W5.heap.size) hg (fun r e => by injection e with e; omega)))
        clear hg hdm k01 k02 hcell
        by_cases hzd : z ≤ d
        · have HN : Hid (d = dmax xs ps (j + 1)) := Lib.hid (by rw [HDw.out]; omega)
          have hm1 : max (z : Int) (d : Int) = (d : Int) := by omega
          gi_wp2
          go_roundw
          case rel => exact ⟨j + 1, d, by first | rfl | go_num, by omega, by first | rfl | (congr 1), hd10, HN, HQ2, HL2, HK2⟩
          case measure => simp [intOf]; omega
        · have HN : Hid (z = dmax xs ps (j + 1)) := Lib.hid (by rw [HDw.out]; omega)
          have hm1 : max (z : Int) (d : Int) = (z : Int) := by omega
          gi_wp2
          go_roundw
          case rel => exact ⟨j + 1, z, by first | rfl | go_num, by omega, by first | rfl | (congr 1), hz, HN, HQ2, HL2, HK2⟩
          case measure => simp [intOf]; omega
      · obtain rfl : j = ps.length := by omega
        have HZw : Hid (z = worst xs (dep xs) m k) := Lib.hid (by rw [HZ.out, HW.out])
        have HQe : Hid (Qs a c xs a1 c1 m M w.heap.size w (askTo xs (dep xs) m k) (n + 3 * (k + 1) * E) wr) := Lib.hid (HQj.out.more (by
          have h1 := HEk.out
          have h2 : ps.length * E ≤ 3 * E := Nat.mul_le_mul_right _ hp3
          omega))
        rw [← HZw.out] at HA
        have hA10 := HA10.out
        have c6 := HQe.out.best.cell
        have f6 := HQe.out.best.frozen
        have c7 : wr.cell? ⟨w.heap.size + 1 + 1, 0, none⟩ = _ := HQe.out.dpt.cell
        have f7 : wr.frozen? ⟨w.heap.size + 1 + 1, 0, none⟩ = _ := HQe.out.dpt.frozen
        generalize askTo xs (dep xs) m k = bd at HQe HA hA10 c6 c7
        clear HQj HLj HA10
        by_cases hlt : 1 + z < bd.1
        · have HA2 : Hid (askTo xs (dep xs) m (k + 1) = (1 + z, k)) := Lib.hid (by rw [HA.out, if_pos hlt])
          have hl2 : (1 : Int) + (z : Int) < (bd.1 : Int) := by omega
          gi_wp2
          refine ⟨HKj.out.trans (((KeepsOthers.setCell _ _ _).trans (KeepsOthers.setCell _ _ _)).from _), ?_⟩
          rw [HA2.out]
          have := HQe.out.put k (1 + z) (Nat.le_refl _) hMw
          rwa [Int.natCast_add] at this
        · have HA2 : Hid (askTo xs (dep xs) m (k + 1) = bd) := Lib.hid (by rw [HA.out, if_neg hlt])
          have hl2 : ¬ (1 : Int) + (z : Int) < (bd.1 : Int) := by omega
          gi_wp2
          refine ⟨by first | exact HKj.out | (rw [← hs5]; exact HKj.out), ?_⟩
          rw [HA2.out]
          exact HQe.out
  case done =>
    rintro D W hD hQ hK
    have hx : 1 ≤ 10 := by omega
    have c6 := hQ.best.cell
    have c7 : W.cell? ⟨w.heap.size + 1 + 1, 0, none⟩ = _ := hQ.dpt.cell
    have HQ := Lib.hid hQ
    gi_wp2
    gi_region
    all_goals (
      gi_wp2
      refine ⟨by simp, .inl ⟨_, _, rfl, run_takeDeferred hK, ?_⟩⟩
      have hgd : w.grownBy W.drew (some M) := ⟨HQ.out.gr.os, HQ.out.gr.tape, HQ.out.gr.output, HQ.out.gr.size, HQ.out.gr.block⟩
      obtain ⟨n', hd', hn'⟩ := HQ.out.dm
      have hdd : Dm xs M n' W.drew := by
        obtain ⟨D', e1, e2⟩ := hd'
        exact ⟨D', e1.drew, e2⟩
      refine ⟨_, results_tmp2 rfl _ _ _, rfl, grown_row hgd (grownBy_putObj' _ D _) (fun r e => by injection e with e; have := hs5; omega), n', hdd.kept (grownBy_putObj' _ D _) (fun e => by injection e with e; have := hs5; omega), ?_⟩
      have hEE := HE.out
      omega)

theorem wpList_lookup_int_any {H : Type} {P : Program} (w : World) {ops : Array Oper} {rest : List Oper} {o : Oper} {a : Act} {Q : Exit → Act → World → Prop} (hg : o.guard = none) (m x : Operand) (t : TypeId) (hop : o.op = Op.lookup t m x true)
    (k e : TypeId) (q : IntKind) (K : Keyed P k) (ht : P.underlying t = some (.map k e)) (he : P.underlying e = some (.int q)) (hz : (zeroValue e).run P w = .ok (.int q 0) w) (b n : Nat) (D : DataW H)
    (hm : a.eval m = .map (some b)) (hown : w.ownsMap P k (plainElem P e) b n D) (key : Value) (kl : Lit) (hx : a.eval x = key) (hkey : keyOf P k key = some kl) (qb : Bool) (hq : Maps.has D kl = qb)
    (hK : ∀ c0, D.atKey kl (.lit (.int q 0)) = .lit (.int q c0) → wpList P ops Q rest (a.put o.dst (.tuple #[.int q c0, .bool qb])) w) :
    wpList P ops Q (o :: rest) a w :=
  wpList_lookup_own_ok_int w hg m x t hop k e q K ht he hz b n D hm hown key kl hx hkey (fun c hc _ => by
    rw [hq]; exact hK c hc)
theorem infoI0 (w : World) : (zeroValue 3).run Try.prog w = .ok (.int .i64 0) w := by kernel_rfl
theorem int_und : Try.prog.underlying 3 = some (.int .i64) := Try.underlying3
set_option maxRecDepth 100000 in
set_option maxHeartbeats 8000000 in
theorem depthOf_any (a : Option Addr) (b o c : Nat) (xs : List ByteArray) (M : Nat) : ∀ (k : Nat) (m : List Nat), m.length ≤ k → Lt xs m → DepAt a b o c xs M m := by
  intro k
  induction k with
  | zero => intro m h hm; exact absurd (List.length_eq_zero_iff.1 (by omega)) hm.ne
  | succ k ihk =>
    intro m hmk hm a1 g1 c1 n w h hs hd hn
    have hml := hm.len
    by_cases h1 : m.length = 1
    · have HD : Hid (dep xs m = 0) := Lib.hid (dep_short xs (by omega))
      have HB := Lib.hid (below_alloc w (.cells #[.slice a xs.length c, .map (some M)] 96))
      have HDm := Lib.hid hd
      have h2 : ((m.length : Int) == 1) = true := by rw [h1]; rfl
      rw [HD.out]
      clear h hs hd
      go_enter Try.func90, Try.ntmps90
      go_wp2
      go_ret
      exact ⟨rfl, grown_of_below HB.out, n, HDm.out.below HB.out, Nat.le_add_right _ _⟩
    · have h2 : 2 ≤ m.length := by
        have := List.length_pos_iff.2 hm.ne
        omega
      have h3 : ((m.length : Int) == 1) = false := beq_false_of_ne (by omega)
      have HDp := Lib.hid (dep_long xs h2)
      have hE : 16 ^ m.length = 16 * 16 ^ (m.length - 1) := by
        obtain ⟨q, hq⟩ : ∃ q, m.length = q + 1 := ⟨m.length - 1, by omega⟩
        rw [hq, Nat.add_sub_cancel, Nat.pow_succ, Nat.mul_comm]
      have hE1 : 0 < 16 ^ (m.length - 1) := Nat.pow_pos (by omega)
      have hn2 : n + 15 * 16 ^ (m.length - 1) ≤ lim := by omega
      have HE := Lib.hid (And.intro hE (And.intro hE1 hn))
      clear hE hE1 hn
      have HSet := Lib.hid fun W (hb : Below w.heap.size w W) => setOf_any a1 g1 c1 m W (hs.below hb) (fun i hi => Nat.lt_of_lt_of_le (hm.lt i hi) hm.ten) hml
      have HBs := Lib.hid fun W (hb : Below w.heap.size w W) => bestAsk_any a b o c xs M m hm h2 (fun l hl hlt => ihk l (by omega) hl) a1 g1 c1 n W (h.below hb) (hs.below hb) (hd.below hb) hn2
      have HDm := Lib.hid fun W (hb : Below w.heap.size w W) => hd.below hb
      have HKy := Lib.hid (keyT_of (inB m))
      have HB0 := Lib.hid (below_alloc w (.cells #[.slice a xs.length c, .map (some M)] 96))
      have c0 : (w.alloc (.cells #[.slice a xs.length c, .map (some M)] 96)).cell? ⟨w.heap.size, 0, none⟩ = some (.slice a xs.length c) := World.cell?_alloc_new _ _ _ _
      have c1' : (w.alloc (.cells #[.slice a xs.length c, .map (some M)] 96)).cell? ⟨w.heap.size, 1, none⟩ = some (.map (some M)) := World.cell?_alloc_new _ _ _ _
      have HC := Lib.hid (And.intro c0 c1')
      have hMw := hd.lt
      have HL := Lib.hid hm
      clear h hs hd c0 c1'
      go_enter Try.func90, Try.ntmps90
      go_wp2_with fail
      refine (HSet.out _ HB0.out).mono ?_
      rintro e w1 ⟨rfl, hb⟩
      have HB1 := Lib.hid ((HB0.out.trans (hb.mono HB0.out.size)).alloc (Nat.le_trans HB0.out.size hb.size) (.cells (ten (inB m)) 122))
      have hT := ten_new w1 (inB m)
      have k0 := keep_cell w1 (.cells (ten (inB m)) 122) (cell_belowB hb HC.out.1)
      have k1 := keep_cell w1 (.cells (ten (inB m)) 122) (cell_belowB hb HC.out.2)
      obtain ⟨D, hown, hgood⟩ := HDm.out _ HB1.out
      have HG := Lib.hid (hgood m HL.out)
      have HGa := Lib.hid hgood
      have HO := Lib.hid hown
      have l0 := load_ten hT
      have HT := Lib.hid hT
      clear hb hgood hown hT
      cases hq : Maps.has D (keyT (inB m)) with
      | true =>
        have HV := Lib.hid (HG.out hq)
        have HQt := Lib.hid hq
        clear hq
        go_wp2_with (first
          | (at_lookup; refine wpList_lookup_int_any _ rfl _ _ 94 rfl 122 3 .i64 lawT Try.underlying94 int_und (infoI0 _) M n D rfl HO.out _ _ rfl HKy.out true HQt.out ?_; intro c0 hc0)
          | go_in)
        have HC0 : Hid (c0 = ((dep xs m : Nat) : Int)) := Lib.hid (by
          have := hc0.symm.trans HV.out
          injection this with this
          injection this)
        clear hc0
        go_wp2
        go_ret
        exact ⟨by rw [HC0.out]; rfl, grown_of_below HB1.out, n, ⟨D, HO.out, HGa.out⟩, Nat.le_add_right _ _⟩
      | false =>
        have HQt := Lib.hid hq
        have hz1 : w.heap.size ≤ w1.heap.size := by
          have := HB1.out.cell (p := ⟨w.heap.size, 0, none⟩)
          have h8 := World.block_lt_of_cell? _ _ k0
          have h9 : (w1.alloc (.cells (ten (inB m)) 122)).heap.size = w1.heap.size + 1 := by simp
          simp only at h8
          omega
        clear hq
        go_wp2_with (first
          | (at_lookup; refine wpList_lookup_int_any _ rfl _ _ 94 rfl 122 3 .i64 lawT Try.underlying94 int_und (infoI0 _) M n D rfl HO.out _ _ rfl HKy.out false HQt.out ?_; intro c0 hc0)
          | fail)
        clear hc0
        refine (HBs.out _ HB1.out).mono ?_
        rintro e w3 ⟨rfl, hg, n', ⟨D', hown', hgood'⟩, hn'⟩
        have hneM : ∀ i, w.heap.size ≤ i → some i ≠ some M := fun i hi e => by injection e; omega
        have k3 : w3.cell? ⟨w.heap.size, 1, none⟩ = some (.map (some M)) := (World.cell?_of_block (hg.block w.heap.size (World.block_lt_of_cell? _ _ k1) (hneM _ (Nat.le_refl _)))).trans k1
        have HT3 : Hid (Ten w3 w1.heap.size (inB m)) := Lib.hid ((hg.block w1.heap.size (by simp) (hneM _ hz1)).trans HT.out)
        have t0 := HT3.out.cell 0 (by omega)
        have t1 := HT3.out.cell 1 (by omega)
        have t2 := HT3.out.cell 2 (by omega)
        have t3 := HT3.out.cell 3 (by omega)
        have t4 := HT3.out.cell 4 (by omega)
        have t5 := HT3.out.cell 5 (by omega)
        have t6 := HT3.out.cell 6 (by omega)
        have t7 := HT3.out.cell 7 (by omega)
        have t8 := HT3.out.cell 8 (by omega)
        have t9 := HT3.out.cell 9 (by omega)
        have HO3 := Lib.hid hown'
        have HG3 := Lib.hid hgood'
        have HN3 := Lib.hid hn'
        have HR3 := Lib.hid hg
        have hlm : n' < maxLen := by
          have h8 := HE.out.1
          have h9 := HE.out.2.2
          unfold lim at h9
          unfold maxLen
          omega
        have hd10 : (ask xs m).1 ≤ 10 := by
          have := askTo_le xs (dep xs) m 5
          unfold ask
          omega
        generalize (ask xs m).1 = d at HDp hd10
        generalize (ask xs m).2 = pl
        have HVal : Hid (plainElem (H := Value) Try.prog 3 (.int .i64 (d : Int)) = some (.lit (.int .i64 (d : Int)), [])) := Lib.hid (plainElem_int int_und (WalkArith.wf_i64 (by omega)))
        clear hown' hgood' hn' hg k0 l0
        go_wp2_with (first
          | (at_mapUpdate; refine wpList_mapUpdate_own _ rfl _ _ _ 94 rfl 122 3 lawT Try.underlying94 _ M n' _ rfl HO3.out hlm _ _ _ rfl rfl HKy.out _ [] HVal.out ?_; intro w4 hown4 hgrow4)
          | go_in)
        have HO4 := Lib.hid hown4
        have HR4 := Lib.hid hgrow4
        clear hown4 hgrow4
        clear t0 t1 t2 t3 t4 t5 t6 t7 t8 t9
        go_wp2
        go_ret
        refine ⟨by rw [HDp.out]; rfl, grown_trans_some (grown_trans_some (grown_of_below HB1.out) HR3.out) HR4.out, n' + 1, ⟨_, HO4.out, fun m' hm' hhas => ?_⟩, by have h8 := HE.out.1; have h9 := HE.out.2.1; have h10 := HN3.out; omega⟩
        by_cases e1 : m' = m
        · subst e1
          rw [atKey_put_same HO3.out.isMap (keyT_ok _), HDp.out]
        · have hne : keyT (inB m') ≠ keyT (inB m) := fun e => e1 (inB_inj hm'.up HL.out.up (fun i hi => Nat.lt_of_lt_of_le (hm'.lt i hi) hm'.ten) (fun i hi => Nat.lt_of_lt_of_le (HL.out.lt i hi) HL.out.ten) (keyT_inj e))
          rw [has_put_other hne] at hhas
          rw [atKey_put_other hne]
          exact HG3.out m' hm' hhas
end Go.Proofs.Ythkafalpjokfeaa
