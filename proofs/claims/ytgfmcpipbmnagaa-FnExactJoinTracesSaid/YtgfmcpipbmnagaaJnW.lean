/-
  slices.Grow and slices.Concat of numbers, l1Own; JoinTraces. Used by the claim on JoinTraces.
-/
import Derived.Test.YtgfmcpipbmnagaaFilS
import Derived.Lib.AppendZeros
import Derived.Laws.Append
namespace Go.Proofs.Ytgfmcpipbmnagaa
open Go.RowKit
set_option linter.unusedVariables false

theorem app_facts1 (n k : Nat) (h : n + k ≤ 1048576) : n + k ≤ maxLen ∧ (n + k) * 8 ≤ 140737488355328 := by
  unfold maxLen; omega
theorem row_mono3 {w : World} {base base' : Nat} {e : TypeId} {size : Nat} {v : Value} {n : Nat} {xs : List Value} (h : w.ownsRow base e size v n xs) (hb : base' ≤ base) : w.ownsRow base' e size v n xs := by
  obtain ⟨h1, h2⟩ := h
  rcases h2 with h2 | ⟨g, cap, cur, e1, hg, rest⟩
  · exact ⟨h1, .inl h2⟩
  · exact ⟨h1, .inr ⟨g, cap, cur, e1, Nat.le_trans hb hg, rest⟩⟩
theorem intz_app (a b : List Int) : intz (a ++ b) = intz a ++ intz b := by simp [intz]
theorem news_at {w : World} {a : Option Addr} {g : Nat} {vs : List Value} (h : SrcV w a g vs) : ∀ (j : Nat) u, vs[j]? = some u → w.cell? ((⟨g, 0, none⟩ : Addr).add j) = some u := fun j u hu => by
  rw [Addr.add_lit, Nat.zero_add]; exact h.2 j u hu
theorem one_cells (l : List Int) : ∀ u ∈ intz l, u.oneCell' = true := fun u hu => by
  obtain ⟨x, _, rfl⟩ := List.mem_map.1 hu
  rfl
set_option maxHeartbeats 2000000 in
theorem own_any (a : Option Addr) (g c : Nat) (l : List Int) (w : World) (hs : SrcV w a g (intz l)) (h0 : 0 < l.length) (hl : l.length ≤ 100000) :
    Calls Try.prog 65 #[.slice a l.length c] w fun e w' => ∃ v, e = .returned v ∧ w'.ownsRow w.heap.size 3 1 v l.length (intz l) ∧ Below w.heap.size w w' := by
  obtain ⟨i0, hi, hz0, hz1, hz2⟩ := info_parts infoIntI
  obtain rfl := hs.1 (by rw [intz_len]; exact h0)
  have M0 : (w.alloc (Obj.cells #[] 3)).ownsRow w.heap.size 3 1 (.slice (some ⟨w.heap.size, 0, none⟩) 0 0) 0 [] := World.ownsRow_made (base := w.heap.size) w #[] 0 (Nat.le_refl _) (by unfold maxLen; omega) rfl
  have hs1 := hs.alloc (.cells #[] 3)
  obtain ⟨a1, a2⟩ := app_facts1 0 l.length (by omega)
  have hlen : (intz l).length = l.length * 1 := by rw [intz_len, Nat.mul_one]
  go_enter Try.func65, Try.ntmps65
  go_wp2_with (at_builtin; refine wpList_append_own _ rfl _ _ 22 rfl w.heap.size 3 i0 (.int .i64 0) 1 8 Try.underlying22 hi hz0 hz1 hz2 rfl (by decide) _ _ _ rfl M0 ⟨g, 0, none⟩ l.length c (intz l) rfl hlen (news_at hs1) (one_cells l) a1 a2 (below_alloc w _).size ?_; intro v' w7 hown' hgrow _)
  have HW7 : Hid (w7.ownsRow w.heap.size 3 1 v' l.length (intz l)) := Lib.hid (by rw [Nat.zero_add] at hown'; exact hown')
  have HB7 : Hid (Below w.heap.size w w7) := Lib.hid ((below_alloc w _).grown hgrow (below_alloc w _).size (fun q e => by cases e; exact Nat.le_refl _))
  clear hown' hgrow
  go_wp2
  (first | go_ret | go_ret2)
  exact ⟨_, rfl, HW7.out, HB7.out⟩
set_option maxHeartbeats 2000000 in
theorem grow_any (n : Nat) (w : World) (h0 : 0 < n) (hn : n ≤ 100000) :
    Calls Try.prog 78 #[.slice none 0 0, .int .i64 n] w fun e w' => ∃ v, e = .returned v ∧ w'.ownsRow w.heap.size 3 1 v 0 [] ∧ Below w.heap.size w w' := by
  obtain ⟨i0, hi, hz0, hz1, hz2⟩ := info_parts infoIntI
  have happ := Lib.run_append_nil_zeros (P := Try.prog) w 22 3 22 3 i0 (.int .i64 0) .i64 .i64 Try.underlying22 Try.underlying3 hi hz0 n h0 (by omega) (by omega) (by rw [hz2]; omega)
  generalize hcap : grownCap w n 0 3 = cap2 at happ
  have hcapge : n ≤ cap2 := by rw [← hcap]; exact grownCap_ge w _ 0 3
  have hcaple : cap2 ≤ maxLen := by rw [← hcap]; exact grownCap_le_maxLen w _ 0 3 (by unfold maxLen; omega)
  generalize hZ : (Builtin.zeroCells (Value.int .i64 0).cells n ++ Builtin.zeroCells (Value.int .i64 0).cells (cap2 - n)) = Z at happ
  have hZs : Z.size = cap2 := by rw [← hZ]; simp [size_zeroCells, Value.cells]; omega
  have HM : Hid ((w.drew.alloc (.cells Z 3)).ownsRow w.heap.size 3 1 (.slice (some ⟨w.heap.size, 0, none⟩) 0 cap2) 0 []) := Lib.hid (World.ownsRow_made (base := w.heap.size) w.drew Z cap2 (Nat.le_refl _) hcaple (by rw [hZs, Nat.mul_one]))
  have HB : Hid (Below w.heap.size w (w.drew.alloc (.cells Z 3))) := Lib.hid ((Below.refl w.heap.size w).drew.alloc (Nat.le_refl _) _)
  have n0 : ¬ (n : Int) < 0 := by omega
  have n1 : (0 : Int) < (n : Int) := by omega
  have n2 : wrap64 (n : Int) = (n : Int) := nat_wrap (by omega)
  clear hcap hZ hZs hz0 hz1 hz2 hi
  go_enter Try.func78, Try.ntmps78
  go_wp2_with (at_builtin; refine Lib.wpList_append_run _ rfl _ _ _ _ rfl _ _ rfl rfl _ _ happ ?_)
  go_wp2
  (first | go_ret | go_ret2)
  exact ⟨_, rfl, HM.out, HB.out⟩
end Go.Proofs.Ytgfmcpipbmnagaa
