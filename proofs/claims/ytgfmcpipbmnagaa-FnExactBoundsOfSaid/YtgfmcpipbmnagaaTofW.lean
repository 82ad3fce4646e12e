/-
  TraceOf, the program's and the model's. Used by the claim on TraceOf.
-/
import Derived.Test.YtgfmcpipbmnagaaExS
import Derived.Test.YtgfmcpipbmnagaaSigB
import Derived.Test.YtgfmcpipbmnagaaTwoW
import Derived.Laws.OwnMore
namespace Go.Proofs.Ytgfmcpipbmnagaa
open Go.RowKit
set_option linter.unusedVariables false

theorem isSig_f (s : ByteArray) (B : Bool) (h : (pieces (bl s)).isSome = B) (hs : s.size ≤ 1048576) : Hid (∀ W, Calls Try.prog 52 #[.string s] W fun e W' => e = .returned (.bool B) ∧ Below W.heap.size W W') := fun W => by
  rw [← h]; exact isSignal_any s W hs
theorem sSig_f (s : ByteArray) (B : Bool) (h : (pieces (bl s)).isSome = B) (hs : s.size ≤ 1048576) : Hid (∀ W, Calls Try.prog 49 #[.string s] W fun e W' => e = .returned (.bool B) ∧ Below W.heap.size W W') := fun W => by
  rw [← h]; exact sSignal_any s W hs
theorem empty_yes {s : ByteArray} (h : s.size = 0) : s.toList.isEmpty = true := by
  have hE : bl s = [] := List.length_eq_zero_iff.1 (by rw [bl_len]; exact h)
  rw [ByteArray.toList_eq]
  show (bl s).isEmpty = true
  rw [hE]; rfl
theorem empty_no {s : ByteArray} (h : s.size ≠ 0) : s.toList.isEmpty = false := by
  rw [ByteArray.toList_eq]
  show (bl s).isEmpty = false
  cases hE : bl s with
  | nil => exact absurd (by rw [← bl_len, hE]; rfl) h
  | cons _ _ => rfl
theorem row_apart2 {w : World} {b1 b2 : Nat} {e1 e2 : TypeId} {s1 s2 : Nat} {v1 v2 : Value} {n1 n2 : Nat} {x1 x2 : List Value} (h1 : w.ownsRow b1 e1 s1 v1 n1 x1) (h2 : w.ownsRow b2 e2 s2 v2 n2 x2) (hne : e1 ≠ e2) : v1.ownBlock = none ∨ v1.ownBlock ≠ v2.ownBlock := row_apart h1 h2 hne
theorem sTraceOf_no1 (s : ByteArray) (x : Int) (w : World) (hs : s.size ≤ 1048576) (h1 : (pieces (bl s)).isSome = false) :
    Calls Try.prog 18 #[.string s, .int .i64 x] w (SeqOut (ints []) ([] : List Nat).length false w) := by
  have F1 := sSig_f s false h1 hs
  clear h1
  go_enter Try.func18, Try.ntmps18
  go_wp2_with fail
  refine (F1.out _).mono ?_
  rintro e w1 ⟨rfl, hb⟩
  have HB : Hid (Below w.heap.size w w1) := Lib.hid (by first | exact hb | exact (below_alloc w _).trans (hb.mono (below_alloc w _).size))
  clear hb
  go_wp2
  (first | go_ret | go_ret2)
  exact seq_no _ _ (by first | exact HB.out | exact HB.out.alloc HB.out.size _)
theorem sTraceOf_no2 (s : ByteArray) (x : Int) (w : World) (hs : s.size ≤ 1048576) (h1 : (pieces (bl s)).isSome = true) (h2 : s.size = 0) :
    Calls Try.prog 18 #[.string s, .int .i64 x] w (SeqOut (ints []) ([] : List Nat).length false w) := by
  have F1 := sSig_f s true h1 hs
  have he := empty_yes h2
  clear h1 h2
  go_enter Try.func18, Try.ntmps18
  go_wp2_with fail
  refine (F1.out _).mono ?_
  rintro e w1 ⟨rfl, hb⟩
  have HB : Hid (Below w.heap.size w w1) := Lib.hid (by first | exact hb | exact (below_alloc w _).trans (hb.mono (below_alloc w _).size))
  clear hb
  go_wp2
  (first | go_ret | go_ret2)
  exact seq_no _ _ (by first | exact HB.out | exact HB.out.alloc HB.out.size _)
theorem sTraceOf_no3 (s : ByteArray) (x : Int) (w : World) (hs : s.size ≤ 1048576) (h1 : (pieces (bl s)).isSome = true) (h2 : s.size ≠ 0) (h3 : okUnit x = false) :
    Calls Try.prog 18 #[.string s, .int .i64 x] w (SeqOut (ints []) ([] : List Nat).length false w) := by
  have F1 := sSig_f s true h1 hs
  have he := empty_no h2
  have F3 := sUnit_f x false h3
  clear h1 h2 h3
  go_enter Try.func18, Try.ntmps18
  go_wp2_with fail
  refine (F1.out _).mono ?_
  rintro e w1 ⟨rfl, hb⟩
  have HB : Hid (Below w.heap.size w w1) := Lib.hid (by first | exact hb | exact (below_alloc w _).trans (hb.mono (below_alloc w _).size))
  clear hb
  go_wp2_with fail
  refine (F3.out _).mono ?_
  rintro e w3 ⟨rfl, hww⟩
  obtain rfl := hww.symm
  go_wp2
  (first | go_ret | go_ret2)
  exact seq_no _ _ (by first | exact HB.out | exact HB.out.alloc HB.out.size _)
theorem traceOf_no1 (s : ByteArray) (x : Int) (w : World) (hs : s.size ≤ 1048576) (h1 : (pieces (bl s)).isSome = false) :
    Calls Try.prog 19 #[.string s, .int .i64 x] w (SeqOut (ints []) ([] : List Nat).length false w) := by
  have F1 := isSig_f s false h1 hs
  clear h1
  go_enter Try.func19, Try.ntmps19
  go_wp2_with fail
  refine (F1.out _).mono ?_
  rintro e w1 ⟨rfl, hb⟩
  have HB : Hid (Below w.heap.size w w1) := Lib.hid (by first | exact hb | exact (below_alloc w _).trans (hb.mono (below_alloc w _).size))
  clear hb
  go_wp2
  (first | go_ret | go_ret2)
  exact seq_no _ _ (by first | exact HB.out | exact HB.out.alloc HB.out.size _)
theorem traceOf_no2 (s : ByteArray) (x : Int) (w : World) (hs : s.size ≤ 1048576) (h1 : (pieces (bl s)).isSome = true) (h2 : s.size = 0) :
    Calls Try.prog 19 #[.string s, .int .i64 x] w (SeqOut (ints []) ([] : List Nat).length false w) := by
  have F1 := isSig_f s true h1 hs
  have he := empty_yes h2
  clear h1 h2
  go_enter Try.func19, Try.ntmps19
  go_wp2_with fail
  refine (F1.out _).mono ?_
  rintro e w1 ⟨rfl, hb⟩
  have HB : Hid (Below w.heap.size w w1) := Lib.hid (by first | exact hb | exact (below_alloc w _).trans (hb.mono (below_alloc w _).size))
  clear hb
  go_wp2
  (first | go_ret | go_ret2)
  exact seq_no _ _ (by first | exact HB.out | exact HB.out.alloc HB.out.size _)
theorem traceOf_no3 (s : ByteArray) (x : Int) (w : World) (hs : s.size ≤ 1048576) (h1 : (pieces (bl s)).isSome = true) (h2 : s.size ≠ 0) (h3 : okUnit x = false) :
    Calls Try.prog 19 #[.string s, .int .i64 x] w (SeqOut (ints []) ([] : List Nat).length false w) := by
  have F1 := isSig_f s true h1 hs
  have he := empty_no h2
  have F3 := isUnit_f x false h3
  clear h1 h2 h3
  go_enter Try.func19, Try.ntmps19
  go_wp2_with fail
  refine (F1.out _).mono ?_
  rintro e w1 ⟨rfl, hb⟩
  have HB : Hid (Below w.heap.size w w1) := Lib.hid (by first | exact hb | exact (below_alloc w _).trans (hb.mono (below_alloc w _).size))
  clear hb
  go_wp2_with fail
  refine (F3.out _).mono ?_
  rintro e w3 ⟨rfl, hww⟩
  obtain rfl := hww.symm
  go_wp2
  (first | go_ret | go_ret2)
  exact seq_no _ _ (by first | exact HB.out | exact HB.out.alloc HB.out.size _)
/-- The exact lengths. -/
def trcL (l : Bs) (u : Nat) : List Nat := (rsL l).map fun p => p.2 * u
def trcTo (l : Bs) (u k : Nat) : List Nat := ((rsL l).take k).map fun p => p.2 * u
theorem trcTo_succ {l : Bs} {u k : Nat} (h : k < (rsL l).length) : trcTo l u (k + 1) = trcTo l u k ++ [(rsL l)[k].2 * u] := by
  unfold trcTo
  rw [List.take_add_one, List.getElem?_eq_getElem h, List.map_append]
  rfl
theorem trcTo_len {l : Bs} {u k : Nat} (h : k ≤ (rsL l).length) : (trcTo l u k).length = k := by simp [trcTo, Nat.min_eq_left h]
theorem trcTo_all (l : Bs) (u : Nat) : trcTo l u (rsL l).length = trcL l u := by unfold trcTo trcL; rw [List.take_length]
theorem rsL_len (s : ByteArray) (hs : s.size ≤ 72) : (rsL (bl s)).length ≤ 144 := by
  have := rsTo_len (bl s) (bl s).length
  rw [bl_len] at this
  unfold rsL; rw [bl_len]; omega
theorem rsL_at {l : Bs} {k : Nat} (h : k < (rsL l).length) : (rsL l)[k].2 ≤ 7 := (rsTo_time l l.length _ (List.getElem_mem h)).2
/-- The cells of a pair that lies in a row. -/
theorem pair_cells {w : World} {base : Nat} {v : Value} {l : List (Nat × Nat)} (h : w.ownsRow base 59 2 v l.length (prs l)) {k : Nat} (hk : k < l.length) : ∃ g c, v = .slice (some ⟨g, 0, none⟩) l.length c ∧ w.cell? ⟨g, k * 2, none⟩ = some (.int .i64 (l[k].1 : Int)) ∧ w.cell? ⟨g, k * 2 + 1, none⟩ = some (.int .i64 (l[k].2 : Int)) := by
  have h' := h
  rcases h.2 with ⟨_, h1⟩ | ⟨g, cap, cur, rfl, hg, hh, _⟩
  · omega
  · have e1 := (prs_at hk).1
    have e2 := (prs_at hk).2
    rw [Nat.mul_comm] at e1 e2
    exact ⟨g, cap, rfl, by rw [h'.cellAt _ (by omega)]; exact e1, by rw [h'.cellAt _ (by omega)]; exact e2⟩
set_option maxHeartbeats 8000000 in
set_option maxRecDepth 8000 in
theorem traceOf_yes (s : ByteArray) (u : Nat) (w : World) (ps : List Bs) (hps : pieces (bl s) = some ps) (h0 : s.size ≠ 0) (hu0 : 1 ≤ u) (hu : u ≤ 99) :
    Calls Try.prog 19 #[.string s, .int .i64 u] w (SeqOut (ints (trcL (bl s) u)) (trcL (bl s) u).length true w) := by
  obtain ⟨i0, hi, hz0, hz1, hz2⟩ := info_parts infoIntI
  have hs := sig_short hps
  have F1 := isSig_f s true (by rw [hps]; rfl) (by omega)
  have he := empty_no h0
  have F3 := isUnit_f (u : Int) true (okUnit_of u hu0 hu)
  have HR := Lib.hid fun w => runsSig_any s w ps hps
  have hrl := rsL_len s hs
  clear hps h0
  go_enter Try.func19, Try.ntmps19
  go_wp2_with fail
  refine (F1.out _).mono ?_
  rintro e w1 ⟨rfl, hb⟩
  have HB := Lib.hid hb
  clear hb
  go_wp2_with fail
  refine (F3.out _).mono ?_
  rintro e w3 ⟨rfl, hww⟩
  obtain rfl := hww.symm
  have M0 : Hid ((w1.alloc (Obj.cells #[] 3)).ownsRow w.heap.size 3 1 (.slice (some ⟨w1.heap.size, 0, none⟩) 0 0) 0 (ints [])) := Lib.hid (World.ownsRow_made (base := w.heap.size) w1 #[] 0 HB.out.size (by unfold maxLen; omega) rfl)
  go_wp2_with fail
  refine (HR.out _).mono ?_
  rintro e w4 ⟨rv, rfl, hrow, hb⟩
  have hsz1 : w.heap.size ≤ (w1.alloc (Obj.cells #[] 3)).heap.size := Nat.le_trans HB.out.size (below_alloc w1 _).size
  have HB4 : Hid (Below w.heap.size w w4) := Lib.hid ((HB.out.alloc HB.out.size _).trans (hb.mono hsz1))
  have HM4 := Lib.hid (row_below M0.out hb)
  have HRow := Lib.hid (row_mono hrow hsz1)
  obtain ⟨ra, rc, rfl⟩ := row_form hrow
  clear hb hrow hsz1
  go_wp2
  go_loopw [6, 25] (fun pv v wr => ∃ k : Nat, v = .int .i64 (k : Int) ∧ k ≤ (rsL (bl s)).length ∧ wr.ownsRow w.heap.size 3 1 pv k (ints (trcTo (bl s) u k)) ∧ Hid (wr.ownsRow w.heap.size 59 2 (.slice ra (rsL (bl s)).length rc) (rsL (bl s)).length (prs (rsL (bl s)))) ∧ Hid (Below w.heap.size w wr)) (fun _ v _ => (rsL (bl s)).length - (intOf v).toNat)
  case atStart => exact ⟨0, rfl, Nat.zero_le _, HM4.out, HRow, HB4⟩
  case round =>
    obtain ⟨k, rfl, hk, hown, HRw, HB5⟩ := hrel
    obtain ⟨av, capv, rfl⟩ := row_form hown
    by_cases hlt : k < (rsL (bl s)).length
    · obtain ⟨g, c, hv, d1, d2⟩ := pair_cells HRw.out hlt
      injection hv with hv1 _ hv3
      subst hv1 hv3
      have ht := rsL_at hlt
      have HN := Lib.hid (trcTo_succ (u := u) hlt)
      have HAp := Lib.hid (row_apart2 HRw.out hown (by decide))
      generalize (rsL (bl s))[k].1 = x at d1
      generalize (rsL (bl s))[k].2 = y at d2 ht HN
      obtain ⟨p, hp, hp2, p1, p2, p3⟩ := prod_facts y u ht hu
      rw [hp] at HN
      generalize trcTo (bl s) u k = tk at hown HN
      have HOl : Hid (∀ q, (Value.slice av k capv).ownBlock = some q → w.heap.size ≤ q ∧ q < wr.heap.size) := Lib.hid hown.lt
      obtain ⟨a1, a2⟩ := app_ints k 1 (by omega)
      have k0 : (0 : Int) ≤ (k : Int) := by omega
      have k1 : (k : Int) < ((rsL (bl s)).length : Int) := by omega
      have HKl : Hid (k + 1 ≤ (rsL (bl s)).length) := Lib.hid hlt
      have c1 := (two_new wr (x : Int) (y : Int)).cell0
      have c2 := (two_new wr (x : Int) (y : Int)).cell1
      have hown1 := hown.alloc (.cells #[.int .i64 (x : Int), .int .i64 (y : Int)] 59)
      have HB6 : Hid (Below w.heap.size w (wr.alloc (.cells #[.int .i64 (x : Int), .int .i64 (y : Int)] 59))) := Lib.hid (HB5.out.alloc HB5.out.size _)
      have hsz := HB6.out.size
      have HNw : Hid (∀ (j : Nat) v, [Value.int .i64 (p : Int)][j]? = some v → ((wr.alloc (.cells #[.int .i64 (x : Int), .int .i64 (y : Int)] 59)).alloc (.cells #[.int .i64 (p : Int)] 3)).cell? ((⟨wr.heap.size + 1, 0, none⟩ : Addr).add j) = some v) := Lib.hid fun j v hv => by
        have e0 : (wr.alloc (.cells #[.int .i64 (x : Int), .int .i64 (y : Int)] 59)).heap.size = wr.heap.size + 1 := by simp
        rw [← e0]; exact cell_one_new _ _ _ j v hv
      clear hp hown
      go_wp2_with (at_builtin; refine wpList_append_own _ rfl _ _ 22 rfl w.heap.size 3 i0 (.int .i64 0) 1 8 Try.underlying22 hi hz0 hz1 hz2 rfl (by decide) _ _ _ rfl (hown1.alloc _) ⟨wr.heap.size + 1, 0, none⟩ 1 1 [.int .i64 (p : Int)] rfl rfl HNw.out (by simp [Value.oneCell']) a1 a2 (Nat.le_trans hsz (below_alloc _ _).size) ?_; intro v6 w6 hownN hgrow _)
      have HW6 : Hid (w6.ownsRow w.heap.size 3 1 v6 (k + 1) (ints (trcTo (bl s) u (k + 1)))) := Lib.hid (by rw [HN.out, ints_snoc]; exact hownN)
      have HR6 : Hid (w6.ownsRow w.heap.size 59 2 (.slice (some ⟨g, 0, none⟩) (rsL (bl s)).length rc) (rsL (bl s)).length (prs (rsL (bl s)))) := Lib.hid (((HRw.out.alloc _).alloc _).kept hgrow HAp.out)
      have HB7 : Hid (Below w.heap.size w w6) := Lib.hid ((HB6.out.alloc HB6.out.size _).grown hgrow (Nat.le_trans HB6.out.size (below_alloc _ _).size) (fun q e => (HOl.out q e).1))
      clear hownN hgrow hown1 a1 a2 hsz p1 p2 p3 c1 c2 d1 d2
      go_wp2
      go_roundw
      case rel => exact ⟨k + 1, by go_num, HKl.out, HW6.out, HR6, HB7⟩
      case measure => simp [intOf]; omega
    · obtain rfl : k = (rsL (bl s)).length := by omega
      have hcl : (trcL (bl s) u).length = (rsL (bl s)).length := by simp [trcL]
      rw [trcTo_all, ← hcl] at hown
      obtain ⟨a', g', c', hv, hs', hg', ho'⟩ := seq_of_row hown
      injection hv with hv1 hv2 hv3
      subst hv1 hv3
      have HSq := Lib.hid (And.intro hs' (And.intro hg' ho'))
      have HCl := Lib.hid hcl
      clear hs' hg' ho' hown hcl
      go_wp2
      (first | go_ret | go_ret2)
      exact ⟨_, g', _, by rw [HCl.out]; rfl, HSq.out.1, HSq.out.2.1, HSq.out.2.2, HB5.out⟩
def mixTo (ex : List Nat) (u k : Nat) : List Nat := (ex.take k).map (· * u) ++ ex.drop k
theorem mixTo_len (ex : List Nat) (u k : Nat) (h : k ≤ ex.length) : (mixTo ex u k).length = ex.length := by simp [mixTo]; omega
theorem mixTo_at {ex : List Nat} {u k : Nat} (h : k < ex.length) : (mixTo ex u k)[k]? = some ex[k] := by
  unfold mixTo
  have hl : ((ex.take k).map (· * u)).length = k := by simp; omega
  rw [List.getElem?_append_right (by omega), hl, Nat.sub_self, List.getElem?_drop, Nat.add_zero]
  exact List.getElem?_eq_getElem h
theorem mixTo_set {ex : List Nat} {u k : Nat} (h : k < ex.length) : (ints (mixTo ex u k)).set k (.int .i64 ((ex[k] * u : Nat) : Int)) = ints (mixTo ex u (k + 1)) := by
  unfold mixTo
  have hl : (ints ((ex.take k).map (· * u))).length = k := by rw [ints_len]; simp; omega
  have e1 : ints ((ex.take k).map (· * u) ++ ex.drop k) = ints ((ex.take k).map (· * u)) ++ ints (ex.drop k) := by simp [ints]
  have e2 : ints (ex[k] :: ex.drop (k + 1)) = .int .i64 (ex[k] : Int) :: ints (ex.drop (k + 1)) := rfl
  have e3 : (ex.take (k + 1)).map (· * u) = (ex.take k).map (· * u) ++ [ex[k] * u] := by
    rw [List.take_add_one, List.getElem?_eq_getElem h, List.map_append]; rfl
  rw [e1, List.set_append_right _ _ (by omega), hl, Nat.sub_self, List.drop_eq_getElem_cons h, e2, List.set_cons_zero, e3]
  simp only [ints, List.map_append, List.map_cons, List.append_assoc, List.cons_append, List.nil_append]
theorem mixTo_end (ex : List Nat) (u : Nat) : mixTo ex u ex.length = ex.map (· * u) := by simp [mixTo]
theorem row_mix {w : World} {base : Nat} {v : Value} {ex : List Nat} {u k : Nat} (h : w.ownsRow base 3 1 v ex.length (ints (mixTo ex u k))) (hk : k < ex.length) :
    ∃ g cap, v = .slice (some ⟨g, 0, none⟩) ex.length cap ∧ base ≤ g ∧ w.cell? ⟨g, k, none⟩ = some (.int .i64 (ex[k] : Int)) ∧ w.frozen? ⟨g, k, none⟩ = false ∧ (w.setCell ⟨g, k, none⟩ (.int .i64 ((ex[k] * u : Nat) : Int))).ownsRow base 3 1 v ex.length (ints (mixTo ex u (k + 1))) := by
  have h' := h
  rcases h.2 with ⟨_, h1⟩ | ⟨g, cap, cur, rfl, hg, hh, _⟩
  · omega
  · refine ⟨g, cap, rfl, hg, ?_, by simp [World.frozen?, hh], ?_⟩
    · rw [h'.cellAt _ (by omega)]
      have := mixTo_at (u := u) hk
      simp only [ints, List.getElem?_map, this]
      rfl
    · have := (h'.stored k (.int .i64 ((ex[k] * u : Nat) : Int))).1
      rwa [mixTo_set hk] at this
set_option maxHeartbeats 8000000 in
set_option maxRecDepth 8000 in
theorem sTraceOf_yes (s : ByteArray) (u : Nat) (w : World) (ps : List Bs) (hps : pieces (bl s) = some ps) (h0 : s.size ≠ 0) (hu0 : 1 ≤ u) (hu : u ≤ 99) :
    Calls Try.prog 18 #[.string s, .int .i64 u] w (SeqOut (ints (trcL (bl s) u)) (trcL (bl s) u).length true w) := by
  have hs := sig_short hps
  have F1 := sSig_f s true (by rw [hps]; rfl) (by omega)
  have he := empty_no h0
  have F3 := sUnit_f (u : Int) true (okUnit_of u hu0 hu)
  have HR := Lib.hid fun w => exact_any s w ps hps
  have hel := exTo_len (bl s) s.size
  have HTm : Hid (∀ k (h : k < (exTo (bl s) s.size).length), (exTo (bl s) s.size)[k] ≤ 7) := Lib.hid fun k h => by
    obtain ⟨p, hp, e⟩ := List.mem_map.1 (List.getElem_mem h)
    rw [← e]; exact (rsTo_time _ _ p hp).2
  have HEq : Hid ((exTo (bl s) s.size).map (· * u) = trcL (bl s) u) := Lib.hid (by
    unfold exTo trcL rsL
    rw [List.map_map, bl_len]; rfl)
  clear hps h0
  generalize exTo (bl s) s.size = ex at HR hel HTm HEq
  go_enter Try.func18, Try.ntmps18
  go_wp2_with fail
  refine (F1.out _).mono ?_
  rintro e w1 ⟨rfl, hb⟩
  have HB := Lib.hid hb
  clear hb
  go_wp2_with fail
  refine (F3.out _).mono ?_
  rintro e w3 ⟨rfl, hww⟩
  obtain rfl := hww.symm
  go_wp2_with fail
  refine (HR.out _).mono ?_
  rintro e w4 ⟨rv, rfl, hrow, hb⟩
  have HB4 : Hid (Below w.heap.size w w4) := Lib.hid (HB.out.trans (hb.mono HB.out.size))
  have HRow : Hid (w4.ownsRow w.heap.size 3 1 rv ex.length (ints (mixTo ex u 0))) := Lib.hid (by
    have e : mixTo ex u 0 = ex := by simp [mixTo]
    rw [e]; exact row_mono hrow HB.out.size)
  obtain ⟨ra, rc, rfl⟩ := row_form hrow
  clear hb hrow
  go_wp2
  go_loopw [7] (fun v wr => ∃ k : Nat, v = .int .i64 (k : Int) ∧ k ≤ ex.length ∧ Hid (wr.ownsRow w.heap.size 3 1 (.slice ra ex.length rc) ex.length (ints (mixTo ex u k))) ∧ Hid (Below w.heap.size w wr)) (fun v _ => ex.length - (intOf v).toNat)
  case atStart => exact ⟨0, rfl, Nat.zero_le _, HRow, HB4⟩
  case round =>
    obtain ⟨k, rfl, hk, HRw, HB5⟩ := hrel
    by_cases hlt : k < ex.length
    · obtain ⟨g, cap, hv, hg, d1, f1, hst⟩ := row_mix HRw.out hlt
      injection hv with hv1 _ hv3
      subst hv1 hv3
      have ht := HTm.out k hlt
      have HSt := Lib.hid hst
      generalize ex[k] = y at d1 ht HSt
      obtain ⟨p, hp, hp2, p1, p2, p3⟩ := prod_facts y u ht hu
      rw [hp] at HSt
      have HBs : Hid (Below w.heap.size w (wr.setCell ⟨g, k, none⟩ (.int .i64 (p : Int)))) := Lib.hid (HB5.out.setCell (p := ⟨g, k, none⟩) hg _)
      have k0 : (0 : Int) ≤ (k : Int) := by omega
      have k1 : (k : Int) < (ex.length : Int) := by omega
      clear hp hst hg
      go_wp2
      go_roundw
      case rel => exact ⟨k + 1, by go_num, by omega, HSt, HBs⟩
      case measure => clear p1 p2 p3; simp [intOf]; omega
    · obtain rfl : k = ex.length := by omega
      have hcl : (trcL (bl s) u).length = ex.length := by rw [← HEq.out]; simp
      have hown := HRw.out
      rw [mixTo_end, HEq.out, ← hcl] at hown
      obtain ⟨a', g', c', hv, hs', hg', ho'⟩ := seq_of_row hown
      injection hv with hv1 hv2 hv3
      subst hv1 hv3
      have HSq := Lib.hid (And.intro hs' (And.intro hg' ho'))
      have HCl := Lib.hid hcl
      clear hs' hg' ho' hown hcl
      go_wp2
      (first | go_ret | go_ret2)
      exact ⟨_, g', _, by rw [HCl.out]; rfl, HSq.out.1, HSq.out.2.1, HSq.out.2.2, HB5.out⟩
theorem traceOf_both (s : ByteArray) (x : Int) (hs : s.size ≤ 1048576) (wx : (Lit.int .i64 x).wf = true) : ∃ (l : List Nat) (R1 : Bool), l.length ≤ 1048576 ∧
    Hid (∀ W, Calls Try.prog 18 #[.string s, .int .i64 x] W (SeqOut (ints l) l.length R1 W)) ∧
    Hid (∀ W, Calls Try.prog 19 #[.string s, .int .i64 x] W (SeqOut (ints l) l.length R1 W)) := by
  cases h : (pieces (bl s)).isSome
  · exact ⟨[], false, by simp, fun W => sTraceOf_no1 s x W hs h, fun W => traceOf_no1 s x W hs h⟩
  · by_cases h2 : s.size = 0
    · exact ⟨[], false, by simp, fun W => sTraceOf_no2 s x W hs h h2, fun W => traceOf_no2 s x W hs h h2⟩
    · cases h3 : okUnit x
      · exact ⟨[], false, by simp, fun W => sTraceOf_no3 s x W hs h h2 h3, fun W => traceOf_no3 s x W hs h h2 h3⟩
      · obtain ⟨ps, hps⟩ := Option.isSome_iff_exists.1 h
        obtain ⟨u, rfl, hu0, hu⟩ := okUnit_nat h3
        exact ⟨trcL (bl s) u, true, by have := rsL_len s (sig_short hps); simp only [trcL, List.length_map]; omega, fun W => sTraceOf_yes s u W ps hps h2 hu0 hu, fun W => traceOf_yes s u W ps hps h2 hu0 hu⟩
end Go.Proofs.Ytgfmcpipbmnagaa
