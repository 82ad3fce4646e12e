/-
  l8Put of the model: marks are put to their place in the order of times. Used by the claims on chapter 8.
-/
import Derived.Test.YtdphjnbelggcfaaSwtS
import Derived.Test.YtdphjnbelggcfaaBsfT
import Derived.Deep.RegionHeldLaw
namespace Go.Proofs.Ytdphjnbelggcfaa
open Go.RowKit
set_option linter.unusedVariables false

/-! ### An append of whatever number, in a region that draws its order -/
theorem step_append_free {P : Program} {w : World} {ops : Array Oper} {o : Oper} {a : Act} {K : Act → World → Prop} {Q : Exit → Act → World → Prop} {E : Prop} (hgd : o.guard = none) (s x : Operand) (t : TypeId)
    (ho : o.op = .call { callee := .builtin .append, args := #[s, x], argTypes := #[t, t] })
    (base : Nat) (e : TypeId) (i : TypeInfo) (z : Value) (size bytes : Nat) (ht : P.underlying t = some (.slice e)) (hi : P.info? e = some i) (hz : i.zero = some z)
    (hsize : i.size = size) (hby : i.bytes = bytes) (hzs : z.cells.size = size) (hsz : 0 < size)
    (v : Value) (n : Nat) (xs : List Value) (hs : a.eval s = v) (hown : w.ownsRow base e size v n xs)
    (ad : Addr) (m c : Nat) (news : List Value) (hx : a.eval x = .slice (some ad) m c) (hl : news.length = m * size) (hnews : ∀ j u, news[j]? = some u → w.cell? (ad.add j) = some u) (h1 : ∀ u ∈ news, u.oneCell' = true)
    (h63 : n + m ≤ maxLen) (hbytes : (n + m) * bytes ≤ 140737488355328) (hbase : base ≤ w.heap.size)
    (h : ∀ v' w', w'.ownsRow base e size v' (n + m) (xs ++ news) → w.grownBy w' v.ownBlock → K (a.put o.dst v') w') :
    if Region.wanted o (yielded ops a.tmps) = true then Oper.wp P o a w K Q else E := by
  have hw : Region.wanted o (yielded ops a.tmps) = true := by simp [Region.wanted, hgd]
  rw [if_pos hw]
  obtain ⟨v', w', hr, h2, h3, _, _⟩ := run_append_own_at (P := P) w base t o.type e i z size bytes ht hi hz hsize hby hzs hsz v n xs hown ad m c news hl hnews h1 h63 hbytes hbase
  unfold Oper.wp execOp
  simp only [ho, resolve, invoke, builtin, Sem.run_bind, Sem.run_pure, Result.andThen_ok, List.map_toArray, List.map_cons, List.map_nil, hs, hx, hr]
  exact h v' w' h2 h3

theorem cell_one_newP (w : World) (v : Value) (t : TypeId) : ∀ (j : Nat) u, [v][j]? = some u → (w.alloc (.cells #[v] t)).cell? ((⟨w.heap.size, 0, none⟩ : Addr).add j) = some u := fun j u hu => by
  rw [Addr.add_lit, World.cell?_alloc_new]
  match j, hu with
  | 0, hu => simpa using hu
  | j + 1, hu => simp at hu
theorem own_base {w : World} {base base' : Nat} {e : TypeId} {size : Nat} {v : Value} {n : Nat} {xs : List Value} (h : w.ownsRow base e size v n xs) (hb : base' ≤ base) : w.ownsRow base' e size v n xs := by
  refine ⟨h.1, ?_⟩
  rcases h.2 with h2 | ⟨g, cap, cur, h1, h2, h3⟩
  · exact .inl h2
  · exact .inr ⟨g, cap, cur, h1, Nat.le_trans hb h2, h3⟩
/-- The place of marks in the order of times. -/
def posB : List ByteArray → ByteArray → Nat
  | [], _ => 0
  | y :: L, x => if befL (bl y) (bl x) = true then posB L x + 1 else 0
def insB (L : List ByteArray) (x : ByteArray) : List ByteArray := L.take (posB L x) ++ x :: L.drop (posB L x)
theorem posB_le : ∀ (L : List ByteArray) (x : ByteArray), posB L x ≤ L.length
  | [], x => Nat.le_refl _
  | y :: L, x => by
    unfold posB
    split
    · have := posB_le L x; simp only [List.length_cons]; omega
    · exact Nat.zero_le _
theorem posB_eq : ∀ {L : List ByteArray} {x : ByteArray} {n : Nat}, n ≤ L.length → (∀ j (hj : j < L.length), j < n → befL (bl L[j]) (bl x) = true) → (∀ hn : n < L.length, befL (bl L[n]) (bl x) = false) → posB L x = n
  | [], x, n, hn, _, _ => by simp at hn; rw [hn]; rfl
  | y :: L, x, 0, hn, _, h2 => by
    have := h2 (by simp)
    simp only [List.getElem_cons_zero] at this
    simp [posB, this]
  | y :: L, x, n + 1, hn, h1, h2 => by
    have h0 := h1 0 (by simp) (by omega)
    simp only [List.getElem_cons_zero] at h0
    rw [posB, if_pos h0, posB_eq (L := L) (n := n) (by simpa using hn) (fun j hj hjn => h1 (j + 1) (by simpa using hj) (by omega)) (fun hn2 => h2 (by simpa using hn2))]
theorem insB_len (L : List ByteArray) (x : ByteArray) : (insB L x).length = L.length + 1 := by
  have := posB_le L x
  unfold insB
  rw [List.length_append, List.length_cons, List.length_take, List.length_drop]
  omega
theorem insB_mem {L : List ByteArray} {x y : ByteArray} (h : y ∈ insB L x) : y ∈ L ∨ y = x := by
  unfold insB at h
  rw [List.mem_append, List.mem_cons] at h
  rcases h with h | h | h
  · exact .inl (List.mem_of_mem_take h)
  · exact .inr h
  · exact .inl (List.mem_of_mem_drop h)

set_option maxHeartbeats 4000000 in
set_option maxRecDepth 20000 in
theorem sPut_any (b o c : Nat) (L : List ByteArray) (x : ByteArray) (n0 : Nat) (w : World) (hn0 : n0 = L.length) (hc : L.length ≤ c) (hcm : c ≤ maxLen) (hx : Src w (some ⟨b, o, none⟩) b o L) (hmk : ∀ y ∈ L, marksL (bl y) = true) (hxm : marksL (bl x) = true) (hL : L.length ≤ 500) :
    Calls Try.prog 109 #[.slice (some ⟨b, o, none⟩) n0 c, .string x] w fun e w' => ∃ v, e = .returned v ∧ w'.ownsRow w.heap.size 9 1 v (n0 + 1) ((insB L x).map Value.string) ∧ Below w.heap.size w w' := by
  have HS := Lib.hid fun W (hb : Below w.heap.size w W) => (hx.below hb).2
  have F := Lib.hid fun k (hk : k < L.length) W => sBefore_any L[k] x W (hmk _ (List.getElem_mem hk)) hxm
  have HN := Lib.hid hn0
  rw [← hn0] at hc hL
  unfold maxLen at hcm
  obtain ⟨i0, hi, hz0, hz1, hz2⟩ := info_parts infoStr
  clear hx hmk hxm hn0
  go_enter Try.func109, Try.ntmps109
  go_wp2
  go_loopw [5] (fun v wr => ∃ n : Nat, v = .int .i64 n ∧ n ≤ n0 ∧ Hid (∀ j (hj : j < L.length), j < n → befL (bl L[j]) (bl x) = true) ∧ Hid (∃ q, wr = w.drewN q)) (fun v _ => n0 - (intOf v).toNat)
  case atStart => exact ⟨0, rfl, Nat.zero_le _, Lib.hid fun j _ hj => absurd hj (by omega), Lib.hid ⟨0, rfl⟩⟩
  case round =>
    obtain ⟨n, rfl, hn, HJ, HQ⟩ := hrel
    have HBd : Hid (Below w.heap.size w wr) := Lib.hid (by obtain ⟨q, rfl⟩ := HQ.out; exact below_drewN _ _)
    by_cases hlt : n < n0
    · have hnl : n < L.length := by rw [← HN.out]; exact hlt
      have d1 := HS.out wr HBd.out n _ (List.getElem?_eq_getElem hnl)
      have Fk := Lib.hid (F.out n hnl)
      have HNx : Hid (befL (bl L[n]) (bl x) = true → ∀ j (hj : j < L.length), j < n + 1 → befL (bl L[j]) (bl x) = true) := Lib.hid fun h j hj hjn => by
        by_cases e : j = n
        · subst e; exact h
        · exact HJ.out j hj (by omega)
      have HEq : Hid (befL (bl L[n]) (bl x) = false → posB L x = n) := Lib.hid fun h => posB_eq (by omega) HJ.out (fun _ => h)
      have j0 : (0 : Int) ≤ (n : Int) := by omega
      have j1 : (n : Int) < (n0 : Int) := by omega
      cases hbf : befL (bl L[n]) (bl x)
      · have HP := Lib.hid (HEq.out hbf)
        rw [hbf] at Fk
        generalize L[n] = y at d1 Fk
        clear hbf HNx HEq
        go_wp2_with fail
        refine (Fk.out _).mono ?_
        rintro e w2 ⟨rfl, hq2⟩
        have HQ2 : Hid (∃ q, w2 = w.drewN q) := Lib.hid (by obtain ⟨q, rfl⟩ := HQ.out; obtain ⟨q2, rfl⟩ := hq2; exact ⟨q + q2, by rw [World.drewN_drewN]⟩)
        clear hq2
        go_wp2
        have HBd : Hid (Below w.heap.size w w2.drew) := Lib.hid (by obtain ⟨q, rfl⟩ := HQ2.out; exact (below_drewN w q).drew)
        have HLz : Hid (w2.drew.heap.size = w.heap.size) := Lib.hid (by obtain ⟨q, rfl⟩ := HQ2.out; rfl)
        have HBa : Hid (Below w.heap.size w (w2.alloc (.cells #[.string x] 9)).drew) := Lib.hid (by obtain ⟨q, rfl⟩ := HQ2.out; exact ((below_drewN w q).trans ((below_alloc _ _).mono (Nat.le_refl _))).drew)
        have HXa : Hid (∀ (j : Nat) u, [Value.string x][j]? = some u → (w2.alloc (.cells #[.string x] 9)).drew.cell? ((⟨w2.heap.size, 0, none⟩ : Addr).add j) = some u) := Lib.hid (cell_one_newP w2 (.string x) 9)
        have hnL : n ≤ L.length := by rw [← HN.out]; omega
        have FO : Hid (∀ W, Below w.heap.size w W → Calls Try.prog 131 #[.slice (some ⟨b, o, none⟩) n c] W fun e w' => ∃ v', e = .returned v' ∧ w'.ownsRow W.heap.size 9 1 v' n ((L.take n).map Value.string) ∧ True ∧ Below W.heap.size W w') := Lib.hid fun W hb => by
          have hl : (L.take n).length = n := by rw [List.length_take]; omega
          have h := ownS_any b o c (L.take n) W (by omega) (fun j y hy => by
            have hj : j < n := by have := (List.getElem?_eq_some_iff.1 hy).1; omega
            rw [List.getElem?_take_of_lt hj] at hy
            exact HS.out W hb j y hy)
          rw [List.take_of_length_le (Nat.le_refl _), hl] at h
          exact h
        have HIns : Hid ((insB L x).map Value.string = ((L.take n).map Value.string ++ [.string x]) ++ (L.drop n).map Value.string) := Lib.hid (by
          unfold insB
          rw [HP.out]; simp)
        have HDr : Hid (∀ W, Below w.heap.size w W → ∀ (j : Nat) u, ((L.drop n).map Value.string)[j]? = some u → W.cell? ((⟨b, o + n, none⟩ : Addr).add j) = some u) := Lib.hid fun W hb j u hu => by
          rw [List.getElem?_map, List.getElem?_drop] at hu
          cases hy : L[n + j]? with
          | none => rw [hy] at hu; cases hu
          | some y =>
            rw [hy] at hu
            cases hu
            rw [Addr.add_lit, Nat.add_assoc]
            exact HS.out W hb (n + j) y hy
        have HDl : Hid (((L.drop n).map Value.string).length = (n0 - n) * 1) := Lib.hid (by rw [List.length_map, List.length_drop, HN.out]; omega)
        have HDo : Hid (∀ u ∈ (L.drop n).map Value.string, u.oneCell' = true) := Lib.hid (by intro u hu; obtain ⟨y, _, rfl⟩ := List.mem_map.1 hu; rfl)
        have s0 : (0 : Int) ≤ (n : Int) := by omega
        have s1 : (n : Int) ≤ (c : Int) := by omega
        have s2 : (n : Int) ≤ (n0 : Int) := by omega
        have s3 : n + 1 ≤ maxLen := by unfold maxLen; omega
        have s4 : (n + 1) * 16 ≤ 140737488355328 := by omega
        have s5 : n + 1 + (n0 - n) ≤ maxLen := by unfold maxLen; omega
        have s6 : (n + 1 + (n0 - n)) * 16 ≤ 140737488355328 := by omega
        have HFl : Hid (n + 1 + (n0 - n) = n0 + 1) := Lib.hid (by omega)
        have hcn1 : ¬ n = c := by omega
        have hcn2 : ¬ c = n := by omega
        go_region_held3 (fun w' => True) (exact trivial)
          ((first
            | (go_at_call 131; refine (FO.out _ (by first | with_reducible exact HBd.out | with_reducible exact HBa.out)).mono ?_; rintro e w4 ⟨v4, rfl, hown4, _, hb4⟩; have HO4 : Hid (w4.ownsRow w.heap.size 9 1 v4 n ((L.take n).map Value.string)) := Lib.hid (own_base hown4 (by first | with_reducible exact HBd.out.size | with_reducible exact HBa.out.size)); have HB4 : Hid (Below w.heap.size w w4) := Lib.hid (by first | with_reducible exact HBd.out.trans (hb4.mono HBd.out.size) | with_reducible exact HBa.out.trans (hb4.mono HBa.out.size)); have HLt4 : Hid (∀ q, v4.ownBlock = some q → w.heap.size ≤ q) := Lib.hid (fun q e => (HO4.out.lt q e).1); have hz4 : w.heap.size ≤ (w4.alloc (.cells #[.string x] 9)).heap.size := Nat.le_trans HB4.out.size (below_alloc w4 _).size; have hz4b : w.heap.size ≤ w4.heap.size := HB4.out.size; (try (have hbz : Below (w2.alloc (.cells #[.string x] 9)).drew.heap.size (w2.alloc (.cells #[.string x] 9)).drew w4 := (by with_reducible exact hb4); have HX4 : Hid (∀ (j : Nat) u, [Value.string x][j]? = some u → w4.cell? ((⟨w2.heap.size, 0, none⟩ : Addr).add j) = some u) := Lib.hid (fun j u hu => (hbz.cell (World.block_lt_of_cell? _ _ (HXa.out j u hu))).trans (HXa.out j u hu)); clear hbz)); clear hown4 hb4)
            | (refine step_append_free (by rfl) (.tmp 23) (.tmp 25) 28 (by rfl) w.heap.size 9 i0 _ 1 16 Try.underlying28 hi hz0 hz1 hz2 rfl (by decide) v4 n ((L.take n).map Value.string) (by rfl) (HO4.out.alloc _) ⟨w4.heap.size, 0, none⟩ 1 1 [.string x] (by rfl) (by rfl) (cell_one_newP w4 (.string x) 9) (by simp [Value.oneCell']) s3 s4 hz4 ?_; intro v5 w5 hown5 hgr5; have HO5 := Lib.hid hown5; have HB5 : Hid (Below w.heap.size w w5) := Lib.hid ((HB4.out.alloc HB4.out.size _).grown hgr5 hz4 (fun q e => HLt4.out q e)); have HLt5 : Hid (∀ q, v5.ownBlock = some q → w.heap.size ≤ q) := Lib.hid (fun q e => (HO5.out.lt q e).1); have hz5 : w.heap.size ≤ w5.heap.size := HB5.out.size; have HDc := Lib.hid (HDr.out w5 HB5.out); clear hown5 hgr5)
            | (refine step_append_free (by rfl) (.tmp 23) (.tmp 25) 28 (by rfl) w.heap.size 9 i0 _ 1 16 Try.underlying28 hi hz0 hz1 hz2 rfl (by decide) v4 n ((L.take n).map Value.string) (by rfl) HO4.out ⟨w2.heap.size, 0, none⟩ 1 1 [.string x] (by rfl) (by rfl) HX4.out (by simp [Value.oneCell']) s3 s4 hz4b ?_; intro v5 w5 hown5 hgr5; have HO5 := Lib.hid hown5; have HB5 : Hid (Below w.heap.size w w5) := Lib.hid (HB4.out.grown hgr5 hz4b (fun q e => HLt4.out q e)); have HLt5 : Hid (∀ q, v5.ownBlock = some q → w.heap.size ≤ q) := Lib.hid (fun q e => (HO5.out.lt q e).1); have hz5 : w.heap.size ≤ w5.heap.size := HB5.out.size; have HDc := Lib.hid (HDr.out w5 HB5.out); clear hown5 hgr5)
            | (refine step_append_free (by rfl) (.tmp 26) (.tmp 29) 28 (by rfl) w.heap.size 9 i0 _ 1 16 Try.underlying28 hi hz0 hz1 hz2 rfl (by decide) v5 (n + 1) ((L.take n).map Value.string ++ [.string x]) (by rfl) HO5.out ⟨b, o + n, none⟩ (n0 - n) (c - n) ((L.drop n).map Value.string) (by rfl) HDl.out HDc.out HDo.out s5 s6 hz5 ?_; intro v6 w6 hown6 hgr6; have HO6 := Lib.hid hown6; have HB6 : Hid (Below w.heap.size w w6) := Lib.hid (HB5.out.grown hgr6 hz5 (fun q e => HLt5.out q e)); clear hown6 hgr6)
            | fail))
        all_goals (
          go_wp2
          go_ret
          exact ⟨v6, rfl, by first | (rw [HIns.out, ← HFl.out]; exact HO6.out) | (rw [HIns.out]; exact HO6.out), HB6.out⟩)
      · have HN2 := Lib.hid (HNx.out hbf)
        rw [hbf] at Fk
        generalize L[n] = y at d1 Fk
        clear hbf HNx HEq
        go_wp2_with fail
        refine (Fk.out _).mono ?_
        rintro e w2 ⟨rfl, hq2⟩
        have HQ2 : Hid (∃ q, w2 = w.drewN q) := Lib.hid (by obtain ⟨q, rfl⟩ := HQ.out; obtain ⟨q2, rfl⟩ := hq2; exact ⟨q + q2, by rw [World.drewN_drewN]⟩)
        clear hq2
        go_wp2
        go_roundw
        case rel => exact ⟨n + 1, by go_num, by omega, HN2, HQ2⟩
        case measure => simp [intOf]; omega
    · obtain rfl : n = n0 := by omega
      have HP : Hid (posB L x = n) := Lib.hid (posB_eq (by rw [← HN.out]; exact Nat.le_refl _) HJ.out (fun h => absurd h (by rw [← HN.out]; omega)))
      go_wp2
      have HBd : Hid (Below w.heap.size w wr.drew) := Lib.hid (by obtain ⟨q, rfl⟩ := HQ.out; exact (below_drewN w q).drew)
      have HLz : Hid (wr.drew.heap.size = w.heap.size) := Lib.hid (by obtain ⟨q, rfl⟩ := HQ.out; rfl)
      have HBa : Hid (Below w.heap.size w (wr.alloc (.cells #[.string x] 9)).drew) := Lib.hid (by obtain ⟨q, rfl⟩ := HQ.out; exact ((below_drewN w q).trans ((below_alloc _ _).mono (Nat.le_refl _))).drew)
      have HXa : Hid (∀ (j : Nat) u, [Value.string x][j]? = some u → (wr.alloc (.cells #[.string x] 9)).drew.cell? ((⟨wr.heap.size, 0, none⟩ : Addr).add j) = some u) := Lib.hid (cell_one_newP wr (.string x) 9)
      have hnL : n ≤ L.length := by rw [← HN.out]; omega
      have FO : Hid (∀ W, Below w.heap.size w W → Calls Try.prog 131 #[.slice (some ⟨b, o, none⟩) n c] W fun e w' => ∃ v', e = .returned v' ∧ w'.ownsRow W.heap.size 9 1 v' n ((L.take n).map Value.string) ∧ True ∧ Below W.heap.size W w') := Lib.hid fun W hb => by
        have hl : (L.take n).length = n := by rw [List.length_take]; omega
        have h := ownS_any b o c (L.take n) W (by omega) (fun j y hy => by
          have hj : j < n := by have := (List.getElem?_eq_some_iff.1 hy).1; omega
          rw [List.getElem?_take_of_lt hj] at hy
          exact HS.out W hb j y hy)
        rw [List.take_of_length_le (Nat.le_refl _), hl] at h
        exact h
      have HIns : Hid ((insB L x).map Value.string = ((L.take n).map Value.string ++ [.string x]) ++ (L.drop n).map Value.string) := Lib.hid (by
        unfold insB
        rw [HP.out]; simp)
      have HDr : Hid (∀ W, Below w.heap.size w W → ∀ (j : Nat) u, ((L.drop n).map Value.string)[j]? = some u → W.cell? ((⟨b, o + n, none⟩ : Addr).add j) = some u) := Lib.hid fun W hb j u hu => by
        rw [List.getElem?_map, List.getElem?_drop] at hu
        cases hy : L[n + j]? with
        | none => rw [hy] at hu; cases hu
        | some y =>
          rw [hy] at hu
          cases hu
          rw [Addr.add_lit, Nat.add_assoc]
          exact HS.out W hb (n + j) y hy
      have HDl : Hid (((L.drop n).map Value.string).length = (0) * 1) := Lib.hid (by rw [List.length_map, List.length_drop, HN.out]; omega)
      have HDo : Hid (∀ u ∈ (L.drop n).map Value.string, u.oneCell' = true) := Lib.hid (by intro u hu; obtain ⟨y, _, rfl⟩ := List.mem_map.1 hu; rfl)
      have s0 : (0 : Int) ≤ (n : Int) := by omega
      have s1 : (n : Int) ≤ (c : Int) := by omega
      have s2 : (n : Int) ≤ (n : Int) := by omega
      have s3 : n + 1 ≤ maxLen := by unfold maxLen; omega
      have s4 : (n + 1) * 16 ≤ 140737488355328 := by omega
      have s5 : n + 1 + (0) ≤ maxLen := by unfold maxLen; omega
      have s6 : (n + 1 + (0)) * 16 ≤ 140737488355328 := by omega
      have HFl : Hid (n + 1 + (0) = n + 1) := Lib.hid (by omega)
      by_cases hcn : n = c
      · subst hcn
        go_region_held3 (fun w' => True) (exact trivial)
          ((first
            | (go_at_call 131; refine (FO.out _ (by first | with_reducible exact HBd.out | with_reducible exact HBa.out)).mono ?_; rintro e w4 ⟨v4, rfl, hown4, _, hb4⟩; have HO4 : Hid (w4.ownsRow w.heap.size 9 1 v4 n ((L.take n).map Value.string)) := Lib.hid (own_base hown4 (by first | with_reducible exact HBd.out.size | with_reducible exact HBa.out.size)); have HB4 : Hid (Below w.heap.size w w4) := Lib.hid (by first | with_reducible exact HBd.out.trans (hb4.mono HBd.out.size) | with_reducible exact HBa.out.trans (hb4.mono HBa.out.size)); have HLt4 : Hid (∀ q, v4.ownBlock = some q → w.heap.size ≤ q) := Lib.hid (fun q e => (HO4.out.lt q e).1); have hz4 : w.heap.size ≤ (w4.alloc (.cells #[.string x] 9)).heap.size := Nat.le_trans HB4.out.size (below_alloc w4 _).size; have hz4b : w.heap.size ≤ w4.heap.size := HB4.out.size; (try (have hbz : Below (wr.alloc (.cells #[.string x] 9)).drew.heap.size (wr.alloc (.cells #[.string x] 9)).drew w4 := (by with_reducible exact hb4); have HX4 : Hid (∀ (j : Nat) u, [Value.string x][j]? = some u → w4.cell? ((⟨wr.heap.size, 0, none⟩ : Addr).add j) = some u) := Lib.hid (fun j u hu => (hbz.cell (World.block_lt_of_cell? _ _ (HXa.out j u hu))).trans (HXa.out j u hu)); clear hbz)); clear hown4 hb4)
            | (refine step_append_free (by rfl) (.tmp 23) (.tmp 25) 28 (by rfl) w.heap.size 9 i0 _ 1 16 Try.underlying28 hi hz0 hz1 hz2 rfl (by decide) v4 n ((L.take n).map Value.string) (by rfl) (HO4.out.alloc _) ⟨w4.heap.size, 0, none⟩ 1 1 [.string x] (by rfl) (by rfl) (cell_one_newP w4 (.string x) 9) (by simp [Value.oneCell']) s3 s4 hz4 ?_; intro v5 w5 hown5 hgr5; have HO5 := Lib.hid hown5; have HB5 : Hid (Below w.heap.size w w5) := Lib.hid ((HB4.out.alloc HB4.out.size _).grown hgr5 hz4 (fun q e => HLt4.out q e)); have HLt5 : Hid (∀ q, v5.ownBlock = some q → w.heap.size ≤ q) := Lib.hid (fun q e => (HO5.out.lt q e).1); have hz5 : w.heap.size ≤ w5.heap.size := HB5.out.size; have HDc := Lib.hid (HDr.out w5 HB5.out); clear hown5 hgr5)
            | (refine step_append_free (by rfl) (.tmp 23) (.tmp 25) 28 (by rfl) w.heap.size 9 i0 _ 1 16 Try.underlying28 hi hz0 hz1 hz2 rfl (by decide) v4 n ((L.take n).map Value.string) (by rfl) HO4.out ⟨wr.heap.size, 0, none⟩ 1 1 [.string x] (by rfl) (by rfl) HX4.out (by simp [Value.oneCell']) s3 s4 hz4b ?_; intro v5 w5 hown5 hgr5; have HO5 := Lib.hid hown5; have HB5 : Hid (Below w.heap.size w w5) := Lib.hid (HB4.out.grown hgr5 hz4b (fun q e => HLt4.out q e)); have HLt5 : Hid (∀ q, v5.ownBlock = some q → w.heap.size ≤ q) := Lib.hid (fun q e => (HO5.out.lt q e).1); have hz5 : w.heap.size ≤ w5.heap.size := HB5.out.size; have HDc := Lib.hid (HDr.out w5 HB5.out); clear hown5 hgr5)
            | (refine step_append_free (by rfl) (.tmp 26) (.tmp 29) 28 (by rfl) w.heap.size 9 i0 _ 1 16 Try.underlying28 hi hz0 hz1 hz2 rfl (by decide) v5 (n + 1) ((L.take n).map Value.string ++ [.string x]) (by rfl) HO5.out ⟨b, o, none⟩ 0 0 ((L.drop n).map Value.string) (by rfl) HDl.out (fun j u hu => by have h := (List.getElem?_eq_some_iff.1 hu).1; rw [HDl.out] at h; omega) HDo.out s5 s6 hz5 ?_; intro v6 w6 hown6 hgr6; have HO6 := Lib.hid hown6; have HB6 : Hid (Below w.heap.size w w6) := Lib.hid (HB5.out.grown hgr6 hz5 (fun q e => HLt5.out q e)); clear hown6 hgr6)
            | fail))
        all_goals (
          go_wp2
          go_ret
          exact ⟨v6, rfl, by first | (rw [HIns.out, ← HFl.out]; exact HO6.out) | (rw [HIns.out]; exact HO6.out), HB6.out⟩)
      · have hcn2 : ¬ c = n := fun e => hcn e.symm
        go_region_held3 (fun w' => True) (exact trivial)
          ((first
            | (go_at_call 131; refine (FO.out _ (by first | with_reducible exact HBd.out | with_reducible exact HBa.out)).mono ?_; rintro e w4 ⟨v4, rfl, hown4, _, hb4⟩; have HO4 : Hid (w4.ownsRow w.heap.size 9 1 v4 n ((L.take n).map Value.string)) := Lib.hid (own_base hown4 (by first | with_reducible exact HBd.out.size | with_reducible exact HBa.out.size)); have HB4 : Hid (Below w.heap.size w w4) := Lib.hid (by first | with_reducible exact HBd.out.trans (hb4.mono HBd.out.size) | with_reducible exact HBa.out.trans (hb4.mono HBa.out.size)); have HLt4 : Hid (∀ q, v4.ownBlock = some q → w.heap.size ≤ q) := Lib.hid (fun q e => (HO4.out.lt q e).1); have hz4 : w.heap.size ≤ (w4.alloc (.cells #[.string x] 9)).heap.size := Nat.le_trans HB4.out.size (below_alloc w4 _).size; have hz4b : w.heap.size ≤ w4.heap.size := HB4.out.size; (try (have hbz : Below (wr.alloc (.cells #[.string x] 9)).drew.heap.size (wr.alloc (.cells #[.string x] 9)).drew w4 := (by with_reducible exact hb4); have HX4 : Hid (∀ (j : Nat) u, [Value.string x][j]? = some u → w4.cell? ((⟨wr.heap.size, 0, none⟩ : Addr).add j) = some u) := Lib.hid (fun j u hu => (hbz.cell (World.block_lt_of_cell? _ _ (HXa.out j u hu))).trans (HXa.out j u hu)); clear hbz)); clear hown4 hb4)
            | (refine step_append_free (by rfl) (.tmp 23) (.tmp 25) 28 (by rfl) w.heap.size 9 i0 _ 1 16 Try.underlying28 hi hz0 hz1 hz2 rfl (by decide) v4 n ((L.take n).map Value.string) (by rfl) (HO4.out.alloc _) ⟨w4.heap.size, 0, none⟩ 1 1 [.string x] (by rfl) (by rfl) (cell_one_newP w4 (.string x) 9) (by simp [Value.oneCell']) s3 s4 hz4 ?_; intro v5 w5 hown5 hgr5; have HO5 := Lib.hid hown5; have HB5 : Hid (Below w.heap.size w w5) := Lib.hid ((HB4.out.alloc HB4.out.size _).grown hgr5 hz4 (fun q e => HLt4.out q e)); have HLt5 : Hid (∀ q, v5.ownBlock = some q → w.heap.size ≤ q) := Lib.hid (fun q e => (HO5.out.lt q e).1); have hz5 : w.heap.size ≤ w5.heap.size := HB5.out.size; have HDc := Lib.hid (HDr.out w5 HB5.out); clear hown5 hgr5)
            | (refine step_append_free (by rfl) (.tmp 23) (.tmp 25) 28 (by rfl) w.heap.size 9 i0 _ 1 16 Try.underlying28 hi hz0 hz1 hz2 rfl (by decide) v4 n ((L.take n).map Value.string) (by rfl) HO4.out ⟨wr.heap.size, 0, none⟩ 1 1 [.string x] (by rfl) (by rfl) HX4.out (by simp [Value.oneCell']) s3 s4 hz4b ?_; intro v5 w5 hown5 hgr5; have HO5 := Lib.hid hown5; have HB5 : Hid (Below w.heap.size w w5) := Lib.hid (HB4.out.grown hgr5 hz4b (fun q e => HLt4.out q e)); have HLt5 : Hid (∀ q, v5.ownBlock = some q → w.heap.size ≤ q) := Lib.hid (fun q e => (HO5.out.lt q e).1); have hz5 : w.heap.size ≤ w5.heap.size := HB5.out.size; have HDc := Lib.hid (HDr.out w5 HB5.out); clear hown5 hgr5)
            | (refine step_append_free (by rfl) (.tmp 26) (.tmp 29) 28 (by rfl) w.heap.size 9 i0 _ 1 16 Try.underlying28 hi hz0 hz1 hz2 rfl (by decide) v5 (n + 1) ((L.take n).map Value.string ++ [.string x]) (by rfl) HO5.out ⟨b, o + n, none⟩ 0 (c - n) ((L.drop n).map Value.string) (by rfl) HDl.out (fun j u hu => by have h := (List.getElem?_eq_some_iff.1 hu).1; rw [HDl.out] at h; omega) HDo.out s5 s6 hz5 ?_; intro v6 w6 hown6 hgr6; have HO6 := Lib.hid hown6; have HB6 : Hid (Below w.heap.size w w6) := Lib.hid (HB5.out.grown hgr6 hz5 (fun q e => HLt5.out q e)); clear hown6 hgr6)
            | fail))
        all_goals (
          go_wp2
          go_ret
          exact ⟨v6, rfl, by first | (rw [HIns.out, ← HFl.out]; exact HO6.out) | (rw [HIns.out]; exact HO6.out), HB6.out⟩)
end Go.Proofs.Ytdphjnbelggcfaa
