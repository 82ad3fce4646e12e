/-
  l1Put of the model: a number is put to its place in a slice of numbers in their order, where it is not there yet. Used by the claims on chapter 9.
-/
import Derived.Test.YtdphjnbelggcfaaSeqW
import Derived.Deep.AppendLies
import Derived.BigQuiet
import Derived.Maps.AppendAt
import Derived.Deep.RegionHeldLaw
import Derived.Deep.RegionHeld3
namespace Go.Proofs.Ytdphjnbelggcfaa
open Go.RowKit
set_option linter.unusedVariables false

theorem infoIntP : (Try.prog.info? 3).map (fun i => (i.zero, i.size, i.bytes)) = some (some (.int .i64 0), 1, 8) := by kernel_rfl
/-- An append of whatever number, in a region that draws its order. -/
theorem step_append_freeN {P : Program} {w : World} {ops : Array Oper} {o : Oper} {a : Act} {K : Act → World → Prop} {Q : Exit → Act → World → Prop} {E : Prop} (hgd : o.guard = none) (s x : Operand) (t : TypeId)
    (ho : o.op = .call { callee := .builtin .append, args := #[s, x], argTypes := #[t, t] })
    (base : Nat) (e : TypeId) (i : TypeInfo) (z : Value) (size bytes : Nat) (ht : P.underlying t = some (.slice e)) (hi : P.info? e = some i) (hz : i.zero = some z)
    (hsize : i.size = size) (hby : i.bytes = bytes) (hzs : z.cells.size = size) (hsz : 0 < size)
    (v : Value) (n : Nat) (xs : List Value) (hs : a.eval s = v) (hown : w.ownsRow base e size v n xs)
    (ad : Addr) (m c : Nat) (news : List Value) (hx : a.eval x = .slice (some ad) m c) (hl : news.length = m * size) (hnews : ∀ j u, news[j]? = some u → w.cell? (ad.add j) = some u) (h1 : ∀ u ∈ news, u.oneCell' = true)
    (h63 : n + m ≤ maxLen) (hbytes : (n + m) * bytes ≤ 140737488355328) (hbase : base ≤ w.heap.size)
    (h : ∀ v' w', w'.ownsRow base e size v' (n + m) (xs ++ news) → w.grownBy w' v.ownBlock → K (a.put o.dst v') w') :
    if Region.wanted o (yielded ops a.tmps) = true then Oper.wp P o a w K Q else E := by
  have hw : Region.wanted o (yielded ops a.tmps) = true := by simp [Region.wanted, hgd]
  rw [if_pos hw]
  obtain ⟨v', w', hr, h2, h3, _, _⟩ := run_append_own_at (P := P) w base t o.type e i z size bytes ht hi hz hsize hby hzs hsz v n xs hown ad m c news hl hnews h1 h63 hbytes hbase
  unfold Oper.wp execOp
  simp only [ho, resolve, invoke, builtin, Sem.run_bind, Sem.run_pure, Result.andThen_ok, List.map_toArray, List.map_cons, List.map_nil, hs, hx, hr]
  exact h v' w' h2 h3
theorem cell_keptN {w w' : World} {k : Nat} (h : w'.heap[k]? = w.heap[k]?) (j : Nat) : w'.cell? ⟨k, j, none⟩ = w.cell? ⟨k, j, none⟩ := by
  unfold World.cell?
  simp [h]
theorem cell_one_newN (w : World) (v : Value) (t : TypeId) : ∀ (j : Nat) u, [v][j]? = some u → (w.alloc (.cells #[v] t)).cell? ((⟨w.heap.size, 0, none⟩ : Addr).add j) = some u := fun j u hu => by
  rw [Addr.add_lit, World.cell?_alloc_new]
  match j, hu with
  | 0, hu => simpa using hu
  | j + 1, hu => simp at hu
theorem own_baseN {w : World} {base base' : Nat} {e : TypeId} {size : Nat} {v : Value} {n : Nat} {xs : List Value} (h : w.ownsRow base e size v n xs) (hb : base' ≤ base) : w.ownsRow base' e size v n xs := by
  refine ⟨h.1, ?_⟩
  rcases h.2 with h2 | ⟨g, cap, cur, h1, h2, h3⟩
  · exact .inl h2
  · exact .inr ⟨g, cap, cur, h1, Nat.le_trans hb h2, h3⟩
/-- The place of a number in its order. -/
def posN : List Nat → Nat → Nat
  | [], _ => 0
  | y :: L, x => if y < x then posN L x + 1 else 0
def insN (L : List Nat) (x : Nat) : List Nat := if L[posN L x]? = some x then L else L.take (posN L x) ++ x :: L.drop (posN L x)
theorem posN_le : ∀ (L : List Nat) (x : Nat), posN L x ≤ L.length
  | [], x => Nat.le_refl _
  | y :: L, x => by
    unfold posN
    split
    · have := posN_le L x; simp only [List.length_cons]; omega
    · exact Nat.zero_le _
theorem posN_eq : ∀ {L : List Nat} {x n : Nat}, n ≤ L.length → (∀ j (hj : j < L.length), j < n → L[j] < x) → (∀ hn : n < L.length, ¬ L[n] < x) → posN L x = n
  | [], x, n, hn, _, _ => by simp at hn; rw [hn]; rfl
  | y :: L, x, 0, hn, _, h2 => by
    have := h2 (by simp)
    simp only [List.getElem_cons_zero] at this
    simp [posN, this]
  | y :: L, x, n + 1, hn, h1, h2 => by
    have h0 := h1 0 (by simp) (by omega)
    simp only [List.getElem_cons_zero] at h0
    rw [posN, if_pos h0, posN_eq (L := L) (n := n) (by simpa using hn) (fun j hj hjn => h1 (j + 1) (by simpa using hj) (by omega)) (fun hn2 => h2 (by simpa using hn2))]
theorem posN_head {y : Nat} {L : List Nat} {x : Nat} (h : ¬ y < x) : posN (y :: L) x = 0 := by simp [posN, h]
theorem insN_cons {y : Nat} {L : List Nat} {x : Nat} (h : y < x) : insN (y :: L) x = y :: insN L x := by
  have hp : posN (y :: L) x = posN L x + 1 := by simp [posN, h]
  unfold insN
  rw [hp]
  simp only [List.getElem?_cons_succ, List.take_succ_cons, List.drop_succ_cons, List.cons_append]
  split <;> rfl
theorem insN_same {L : List Nat} {x : Nat} : insN (x :: L) x = x :: L := by
  unfold insN; rw [posN_head (by omega)]; simp
theorem insN_head {y : Nat} {L : List Nat} {x : Nat} (h : x < y) : insN (y :: L) x = x :: y :: L := by
  unfold insN
  rw [posN_head (by omega), if_neg (by simp; omega)]; rfl
theorem insN_mem : ∀ {L : List Nat} {x d : Nat}, d ∈ insN L x ↔ d ∈ L ∨ d = x
  | [], x, d => by simp [insN, posN]
  | y :: L, x, d => by
    rcases Nat.lt_trichotomy y x with h | h | h
    · rw [insN_cons h, List.mem_cons, List.mem_cons, insN_mem (L := L)]; exact or_assoc.symm
    · subst h
      rw [insN_same]
      simp only [List.mem_cons]
      constructor
      · exact fun h => .inl h
      · rintro (h | h)
        · exact h
        · exact .inl h
    · rw [insN_head h]; simp only [List.mem_cons]; constructor
      · rintro (h | h | h)
        · exact .inr h
        · exact .inl (.inl h)
        · exact .inl (.inr h)
      · rintro ((h | h) | h)
        · exact .inr (.inl h)
        · exact .inr (.inr h)
        · exact .inl h
theorem insN_lt : ∀ {L : List Nat} {x : Nat}, L.Pairwise (· < ·) → (insN L x).Pairwise (· < ·)
  | [], x, _ => by simp [insN, posN]
  | y :: L, x, hp => by
    have h1 := List.pairwise_cons.1 hp
    rcases Nat.lt_trichotomy y x with h | h | h
    · rw [insN_cons h]
      refine List.pairwise_cons.2 ⟨fun d hd => ?_, insN_lt h1.2⟩
      rcases insN_mem.1 hd with h2 | h2
      · exact h1.1 d h2
      · omega
    · subst h; rw [insN_same]; exact hp
    · rw [insN_head h]
      refine List.pairwise_cons.2 ⟨fun d hd => ?_, hp⟩
      rcases List.mem_cons.1 hd with h2 | h2
      · omega
      · have := h1.1 d h2; omega
theorem insN_len {L : List Nat} {x : Nat} : (insN L x).length ≤ L.length + 1 := by
  have := posN_le L x
  unfold insN
  split
  · omega
  · rw [List.length_append, List.length_cons, List.length_take, List.length_drop]; omega

set_option maxHeartbeats 4000000 in
set_option maxRecDepth 20000 in
theorem sPutN_any (base b c : Nat) (L : List Nat) (v n0 : Nat) (w : World) (hn0 : n0 = L.length) (hown : w.ownsRow base 3 1 (.slice (some ⟨b, 0, none⟩) n0 c) n0 (ints L)) (hbase : base ≤ w.heap.size) (hc : n0 ≤ c) (hcm : c ≤ maxLen) (hL : n0 ≤ 500) (hL2 : ∀ x ∈ L, x ≤ 1000) (hv : v ≤ 1000) :
    Calls Try.prog 120 #[.slice (some ⟨b, 0, none⟩) n0 c, .int .i64 (v : Int)] w fun e w' => ∃ u, e = .returned u ∧ u ≠ .slice none 0 0 ∧ w'.ownsRow base 3 1 u (insN L v).length (ints (insN L v)) ∧ Below w.heap.size w w' := by
  have HO := Lib.hid hown
  have HN := Lib.hid hn0
  have HL2 := Lib.hid hL2
  have HC : Hid (∀ W, Below w.heap.size w W → ∀ (k x : Nat), L[k]? = some x → W.cell? ⟨b, k, none⟩ = some (.int .i64 (x : Int))) := Lib.hid fun W hb k x hx => by
    have hk : k < L.length := (List.getElem?_eq_some_iff.1 hx).1
    have h1 := hown.cellAt k (by omega)
    have h2 : w.cell? ⟨b, k, none⟩ = some (.int .i64 (x : Int)) := by rw [h1]; simp [ints, hx]
    exact (hb.cell (World.block_lt_of_cell? _ _ h2)).trans h2
  unfold maxLen at hcm
  obtain ⟨i0, hi, hz0, hz1, hz2⟩ := info_parts infoIntP
  clear hown hn0 hL2
  go_enter Try.func120, Try.ntmps120
  go_wp2
  go_loopw [5] (fun u wr => ∃ n : Nat, u = .int .i64 n ∧ n ≤ n0 ∧ Hid (∀ j (hj : j < L.length), j < n → L[j] < v) ∧ Hid (∃ q, wr = w.drewN q)) (fun u _ => n0 - (intOf u).toNat)
  case atStart => exact ⟨0, rfl, Nat.zero_le _, Lib.hid fun j _ hj => absurd hj (by omega), Lib.hid ⟨0, rfl⟩⟩
  case round =>
    obtain ⟨n, rfl, hn, HJ, HQ⟩ := hrel
    have HBd : Hid (Below w.heap.size w wr) := Lib.hid (by obtain ⟨q, rfl⟩ := HQ.out; exact below_drewN _ _)
    by_cases hlt : n < n0
    · have hnl : n < L.length := by rw [← HN.out]; exact hlt
      have d1 := HC.out wr HBd.out n _ (List.getElem?_eq_getElem hnl)
      have hx1 := HL2.out _ (List.getElem_mem hnl)
      have HNx : Hid (L[n] < v → ∀ j (hj : j < L.length), j < n + 1 → L[j] < v) := Lib.hid fun h j hj hjn => by
        by_cases e : j = n
        · subst e; exact h
        · exact HJ.out j hj (by omega)
      have HEq : Hid (¬ L[n] < v → posN L v = n) := Lib.hid fun h => posN_eq (by omega) HJ.out (fun _ => h)
      have HGe : Hid (L[n]? = some L[n]) := Lib.hid (List.getElem?_eq_getElem hnl)
      generalize L[n] = y at d1 HNx HEq HGe hx1
      by_cases hy : y < v
      · have HN2 := Lib.hid (HNx.out hy)
        clear HNx HEq
        go_wp2
        go_roundw
        case rel => exact ⟨n + 1, by go_num, by omega, HN2, HQ⟩
        case measure => simp [intOf]; omega
      · have HP := Lib.hid (HEq.out hy)
        clear HNx HEq
        by_cases he : y = v
        · subst he
          have HI : Hid (insN L y = L) := Lib.hid (by unfold insN; rw [HP.out, if_pos HGe.out])
          go_wp2
          go_ret
          refine ⟨_, rfl, by simp, ?_, HBd.out⟩
          rw [HI.out, ← HN.out]
          exact HO.out.kept (row := none) ⟨HBd.out.os, HBd.out.tape, HBd.out.output, HBd.out.size, fun i hi _ => HBd.out.block i hi⟩ (Or.inr (by simp [Value.ownBlock]))
        · have HI : Hid (insN L v = L.take n ++ v :: L.drop n) := Lib.hid (by unfold insN; rw [HP.out, if_neg (by rw [HGe.out]; simp; exact he)])
          go_wp2
          have s0 : (0 : Int) ≤ (n : Int) := by omega
          have s1 : (n : Int) ≤ (c : Int) := by omega
          have s2 : (n : Int) ≤ (n0 : Int) := by omega
          have hwz : w.heap.size ≤ wr.heap.size := HBd.out.size
          have HZa : Hid ((wr.alloc (.cells #[.int .i64 (v : Int)] 3)).heap.size = wr.heap.size + 1) := Lib.hid (by simp)
          have HZb : Hid ((wr.alloc (.cells #[] 3)).heap.size = wr.heap.size + 1) := Lib.hid (by simp)
          have HOa1 : Hid (((wr.alloc (.cells #[] 3)).drew).ownsRow w.heap.size 3 1 (.slice (some ⟨wr.heap.size, 0, none⟩) 0 0) 0 []) := Lib.hid (World.ownsRow_made (base := w.heap.size) (e := 3) (size := 1) wr #[] 0 hwz (by unfold maxLen; omega) rfl)
          have HOa2 : Hid ((((wr.alloc (.cells #[] 3)).alloc (.cells #[.int .i64 (v : Int)] 3)).drew).ownsRow w.heap.size 3 1 (.slice (some ⟨wr.heap.size, 0, none⟩) 0 0) 0 []) := Lib.hid ((World.ownsRow_made (base := w.heap.size) (e := 3) (size := 1) wr #[] 0 hwz (by unfold maxLen; omega) rfl).alloc _)
          have HOa3 : Hid ((((wr.alloc (.cells #[.int .i64 (v : Int)] 3)).alloc (.cells #[] 3)).drew).ownsRow w.heap.size 3 1 (.slice (some ⟨(wr.heap.size + 1), 0, none⟩) 0 0) 0 []) := Lib.hid (by have h := World.ownsRow_made (base := w.heap.size) (e := 3) (size := 1) (wr.alloc (.cells #[.int .i64 (v : Int)] 3)) #[] 0 (by rw [HZa.out]; omega) (by unfold maxLen; omega) rfl; rw [HZa.out] at h; exact h)
          have HBa1 : Hid (Below w.heap.size w ((wr.alloc (.cells #[] 3)).drew)) := Lib.hid ((HBd.out.alloc hwz _).drew)
          have HBa2 : Hid (Below w.heap.size w (((wr.alloc (.cells #[] 3)).alloc (.cells #[.int .i64 (v : Int)] 3)).drew)) := Lib.hid (((HBd.out.alloc hwz _).alloc (by rw [HZb.out]; omega) _).drew)
          have HBa3 : Hid (Below w.heap.size w (((wr.alloc (.cells #[.int .i64 (v : Int)] 3)).alloc (.cells #[] 3)).drew)) := Lib.hid (((HBd.out.alloc hwz _).alloc (by rw [HZa.out]; omega) _).drew)
          have HXb2 : Hid ((((wr.alloc (.cells #[] 3)).alloc (.cells #[.int .i64 (v : Int)] 3)).drew).cell? ⟨wr.heap.size + 1, 0, none⟩ = some (.int .i64 (v : Int))) := Lib.hid (by have h := cell_one_newN (wr.alloc (.cells #[] 3)) (.int .i64 (v : Int)) 3 0 _ rfl; rw [HZb.out] at h; exact h)
          have HXb3 : Hid ((((wr.alloc (.cells #[.int .i64 (v : Int)] 3)).alloc (.cells #[] 3)).drew).cell? ⟨wr.heap.size, 0, none⟩ = some (.int .i64 (v : Int))) := Lib.hid (by have h := cell_one_newN wr (.int .i64 (v : Int)) 3 0 _ rfl; have h2 := (below_alloc (wr.alloc (.cells #[.int .i64 (v : Int)] 3)) (.cells #[] 3)).cell (World.block_lt_of_cell? _ _ h); exact h2.trans h)
          have HNl : Hid (n ≤ L.length) := Lib.hid (by rw [← HN.out]; omega)
          have HTl : Hid ((ints (L.take n)).length = n * 1) := Lib.hid (by simp [ints]; have := HNl.out; omega)
          have HTk : Hid (∀ W, Below w.heap.size w W → ∀ (j : Nat) u, (ints (L.take n))[j]? = some u → W.cell? ((⟨b, 0, none⟩ : Addr).add j) = some u) := Lib.hid fun W hb j u hu => by
            have hj : j < n := by have := (List.getElem?_eq_some_iff.1 hu).1; rw [HTl.out] at this; omega
            unfold ints at hu
            rw [List.getElem?_map, List.getElem?_take_of_lt hj] at hu
            cases hy2 : L[j]? with
            | none => rw [hy2] at hu; cases hu
            | some y2 =>
              rw [hy2] at hu
              cases hu
              rw [Addr.add_lit, Nat.zero_add]
              exact HC.out W hb j y2 hy2
          have HTo : Hid (∀ u ∈ ints (L.take n), u.oneCell' = true) := Lib.hid (by intro u hu; obtain ⟨y2, _, rfl⟩ := List.mem_map.1 hu; rfl)
          have HDl : Hid ((ints (L.drop n)).length = (n0 - n) * 1) := Lib.hid (by simp [ints]; rw [← HN.out]; try omega)
          have HDk : Hid (∀ W, Below w.heap.size w W → ∀ (j : Nat) u, (ints (L.drop n))[j]? = some u → W.cell? ((⟨b, n, none⟩ : Addr).add j) = some u) := Lib.hid fun W hb j u hu => by
            unfold ints at hu
            rw [List.getElem?_map, List.getElem?_drop] at hu
            cases hy2 : L[n + j]? with
            | none => rw [hy2] at hu; cases hu
            | some y2 =>
              rw [hy2] at hu
              cases hu
              rw [Addr.add_lit]
              exact HC.out W hb (n + j) y2 hy2
          have HDo : Hid (∀ u ∈ ints (L.drop n), u.oneCell' = true) := Lib.hid (by intro u hu; obtain ⟨y2, _, rfl⟩ := List.mem_map.1 hu; rfl)
          have t3 : 0 + n ≤ maxLen := by unfold maxLen; omega
          have t4 : (0 + n) * 8 ≤ 140737488355328 := by omega
          have s3 : n + 1 ≤ maxLen := by unfold maxLen; omega
          have s4 : (n + 1) * 8 ≤ 140737488355328 := by omega
          have s5 : n + 1 + (n0 - n) ≤ maxLen := by unfold maxLen; omega
          have s6 : (n + 1 + (n0 - n)) * 8 ≤ 140737488355328 := by omega
          have HIl : Hid ((insN L v).length = n + 1 + (n0 - n)) := Lib.hid (by rw [HI.out]; have h1 := HTl.out; have h2 := HDl.out; simp only [ints, List.length_map] at h1 h2; rw [List.length_append, List.length_cons, h1, h2]; omega)
          have HIi : Hid (ints (insN L v) = (ints (L.take n) ++ [.int .i64 (v : Int)]) ++ ints (L.drop n)) := Lib.hid (by rw [HI.out]; simp [ints])
          have hcn1 : ¬ n = c := by omega
          have hcn2 : ¬ c = n := by omega
          go_region_held3 (fun w' => True) (exact trivial)
            ((first
              | (refine step_append_freeN (by rfl) (.tmp 33) (.tmp 36) 32 (by rfl) w.heap.size 3 i0 _ 1 8 Try.underlying32 hi hz0 hz1 hz2 rfl (by decide) (.slice (some ⟨wr.heap.size, 0, none⟩) 0 0) 0 [] (by rfl) HOa1.out ⟨b, 0, none⟩ n c (ints (L.take n)) (by rfl) HTl.out (HTk.out _ HBa1.out) HTo.out t3 t4 HBa1.out.size ?_; intro v4 w4 hown4 hgr4; have HO4 : Hid (w4.ownsRow w.heap.size 3 1 v4 n (ints (L.take n))) := Lib.hid (by simpa using hown4); have HB4 : Hid (Below w.heap.size w w4) := Lib.hid (HBa1.out.grown hgr4 HBa1.out.size (fun q e => by simp only [Value.ownBlock, Option.some.injEq] at e; omega)); have HLt4 : Hid (∀ q, v4.ownBlock = some q → w.heap.size ≤ q) := Lib.hid (fun q e => (HO4.out.lt q e).1); have hz4b : w.heap.size ≤ w4.heap.size := HB4.out.size; have hz4 : w.heap.size ≤ (w4.alloc (.cells #[.int .i64 (v : Int)] 3)).heap.size := Nat.le_trans hz4b (below_alloc w4 _).size; clear hown4 hgr4)
              | (refine step_append_freeN (by rfl) (.tmp 33) (.tmp 36) 32 (by rfl) w.heap.size 3 i0 _ 1 8 Try.underlying32 hi hz0 hz1 hz2 rfl (by decide) (.slice (some ⟨wr.heap.size, 0, none⟩) 0 0) 0 [] (by rfl) HOa2.out ⟨b, 0, none⟩ n c (ints (L.take n)) (by rfl) HTl.out (HTk.out _ HBa2.out) HTo.out t3 t4 HBa2.out.size ?_; intro v4 w4 hown4 hgr4; have HO4 : Hid (w4.ownsRow w.heap.size 3 1 v4 n (ints (L.take n))) := Lib.hid (by simpa using hown4); have HB4 : Hid (Below w.heap.size w w4) := Lib.hid (HBa2.out.grown hgr4 HBa2.out.size (fun q e => by simp only [Value.ownBlock, Option.some.injEq] at e; omega)); have HLt4 : Hid (∀ q, v4.ownBlock = some q → w.heap.size ≤ q) := Lib.hid (fun q e => (HO4.out.lt q e).1); have hz4b : w.heap.size ≤ w4.heap.size := HB4.out.size; have hz4 : w.heap.size ≤ (w4.alloc (.cells #[.int .i64 (v : Int)] 3)).heap.size := Nat.le_trans hz4b (below_alloc w4 _).size; have HX4 : Hid (∀ (j : Nat) u, [Value.int .i64 (v : Int)][j]? = some u → w4.cell? ((⟨(wr.heap.size + 1), 0, none⟩ : Addr).add j) = some u) := Lib.hid (fun j u hu => by match j, hu with | 0, hu => (cases hu; rw [Addr.add_lit]; exact (cell_keptN (hgr4.block _ (World.block_lt_of_cell? _ _ HXb2.out) (by simp [Value.ownBlock])) 0).trans HXb2.out) | j + 1, hu => simp at hu); clear hown4 hgr4)
              | (refine step_append_freeN (by rfl) (.tmp 33) (.tmp 36) 32 (by rfl) w.heap.size 3 i0 _ 1 8 Try.underlying32 hi hz0 hz1 hz2 rfl (by decide) (.slice (some ⟨(wr.heap.size + 1), 0, none⟩) 0 0) 0 [] (by rfl) HOa3.out ⟨b, 0, none⟩ n c (ints (L.take n)) (by rfl) HTl.out (HTk.out _ HBa3.out) HTo.out t3 t4 HBa3.out.size ?_; intro v4 w4 hown4 hgr4; have HO4 : Hid (w4.ownsRow w.heap.size 3 1 v4 n (ints (L.take n))) := Lib.hid (by simpa using hown4); have HB4 : Hid (Below w.heap.size w w4) := Lib.hid (HBa3.out.grown hgr4 HBa3.out.size (fun q e => by simp only [Value.ownBlock, Option.some.injEq] at e; omega)); have HLt4 : Hid (∀ q, v4.ownBlock = some q → w.heap.size ≤ q) := Lib.hid (fun q e => (HO4.out.lt q e).1); have hz4b : w.heap.size ≤ w4.heap.size := HB4.out.size; have hz4 : w.heap.size ≤ (w4.alloc (.cells #[.int .i64 (v : Int)] 3)).heap.size := Nat.le_trans hz4b (below_alloc w4 _).size; have HX4 : Hid (∀ (j : Nat) u, [Value.int .i64 (v : Int)][j]? = some u → w4.cell? ((⟨wr.heap.size, 0, none⟩ : Addr).add j) = some u) := Lib.hid (fun j u hu => by match j, hu with | 0, hu => (cases hu; rw [Addr.add_lit]; exact (cell_keptN (hgr4.block _ (World.block_lt_of_cell? _ _ HXb3.out) (by simp [Value.ownBlock])) 0).trans HXb3.out) | j + 1, hu => simp at hu); clear hown4 hgr4)
              | (refine step_append_freeN (by rfl) (.tmp 37) (.tmp 39) 32 (by rfl) w.heap.size 3 i0 _ 1 8 Try.underlying32 hi hz0 hz1 hz2 rfl (by decide) v4 n (ints (L.take n)) (by rfl) (HO4.out.alloc _) ⟨w4.heap.size, 0, none⟩ 1 1 [.int .i64 (v : Int)] (by rfl) (by rfl) (cell_one_newN w4 (.int .i64 (v : Int)) 3) (by simp [Value.oneCell']) s3 s4 hz4 ?_; intro v5 w5 hown5 hgr5; have HO5 := Lib.hid hown5; have HB5 : Hid (Below w.heap.size w w5) := Lib.hid ((HB4.out.alloc HB4.out.size _).grown hgr5 hz4 (fun q e => HLt4.out q e)); have HLt5 : Hid (∀ q, v5.ownBlock = some q → w.heap.size ≤ q) := Lib.hid (fun q e => (HO5.out.lt q e).1); have hz5 : w.heap.size ≤ w5.heap.size := HB5.out.size; have HDc := Lib.hid (HDk.out w5 HB5.out); clear hown5 hgr5)
              | (refine step_append_freeN (by rfl) (.tmp 37) (.tmp 39) 32 (by rfl) w.heap.size 3 i0 _ 1 8 Try.underlying32 hi hz0 hz1 hz2 rfl (by decide) v4 n (ints (L.take n)) (by rfl) HO4.out ⟨(wr.heap.size + 1), 0, none⟩ 1 1 [.int .i64 (v : Int)] (by rfl) (by rfl) HX4.out (by simp [Value.oneCell']) s3 s4 hz4b ?_; intro v5 w5 hown5 hgr5; have HO5 := Lib.hid hown5; have HB5 : Hid (Below w.heap.size w w5) := Lib.hid (HB4.out.grown hgr5 hz4b (fun q e => HLt4.out q e)); have HLt5 : Hid (∀ q, v5.ownBlock = some q → w.heap.size ≤ q) := Lib.hid (fun q e => (HO5.out.lt q e).1); have hz5 : w.heap.size ≤ w5.heap.size := HB5.out.size; have HDc := Lib.hid (HDk.out w5 HB5.out); clear hown5 hgr5)
              | (refine step_append_freeN (by rfl) (.tmp 37) (.tmp 39) 32 (by rfl) w.heap.size 3 i0 _ 1 8 Try.underlying32 hi hz0 hz1 hz2 rfl (by decide) v4 n (ints (L.take n)) (by rfl) HO4.out ⟨wr.heap.size, 0, none⟩ 1 1 [.int .i64 (v : Int)] (by rfl) (by rfl) HX4.out (by simp [Value.oneCell']) s3 s4 hz4b ?_; intro v5 w5 hown5 hgr5; have HO5 := Lib.hid hown5; have HB5 : Hid (Below w.heap.size w w5) := Lib.hid (HB4.out.grown hgr5 hz4b (fun q e => HLt4.out q e)); have HLt5 : Hid (∀ q, v5.ownBlock = some q → w.heap.size ≤ q) := Lib.hid (fun q e => (HO5.out.lt q e).1); have hz5 : w.heap.size ≤ w5.heap.size := HB5.out.size; have HDc := Lib.hid (HDk.out w5 HB5.out); clear hown5 hgr5)
              | (refine step_append_freeN (by rfl) (.tmp 40) (.tmp 43) 32 (by rfl) w.heap.size 3 i0 _ 1 8 Try.underlying32 hi hz0 hz1 hz2 rfl (by decide) v5 (n + 1) (ints (L.take n) ++ [.int .i64 (v : Int)]) (by rfl) HO5.out ⟨b, n, none⟩ (n0 - n) (c - n) (ints (L.drop n)) (by rfl) HDl.out HDc.out HDo.out s5 s6 hz5 ?_; intro v6 w6 hown6 hgr6; have HO6 := Lib.hid hown6; have HB6 : Hid (Below w.heap.size w w6) := Lib.hid (HB5.out.grown hgr6 hz5 (fun q e => HLt5.out q e)); clear hown6 hgr6)
              | fail))
          all_goals (
            go_wp2
            go_ret
            refine ⟨v6, rfl, ?_, ?_, HB6.out⟩
            · intro e6; have h6 := HO6.out.1; subst e6; rcases HO6.out.2 with ⟨_, h7⟩ | ⟨_, _, _, h7, _⟩
              · omega
              · cases h7
            · rw [HIl.out, HIi.out]; exact own_baseN HO6.out hbase)
    · obtain rfl : n = n0 := by omega
      have HP : Hid (posN L v = n) := Lib.hid (posN_eq (by rw [← HN.out]; exact Nat.le_refl _) HJ.out (fun h => absurd h (by rw [← HN.out]; omega)))
      have HI : Hid (insN L v = L.take n ++ v :: L.drop n) := Lib.hid (by unfold insN; rw [HP.out, if_neg (by rw [List.getElem?_eq_none (by rw [← HN.out]; exact Nat.le_refl _)]; simp)])
      go_wp2
      have s0 : (0 : Int) ≤ (n : Int) := by omega
      have s1 : (n : Int) ≤ (c : Int) := by omega
      have s2 : (n : Int) ≤ (n : Int) := by omega
      have hwz : w.heap.size ≤ wr.heap.size := HBd.out.size
      have HZa : Hid ((wr.alloc (.cells #[.int .i64 (v : Int)] 3)).heap.size = wr.heap.size + 1) := Lib.hid (by simp)
      have HZb : Hid ((wr.alloc (.cells #[] 3)).heap.size = wr.heap.size + 1) := Lib.hid (by simp)
      have HOa1 : Hid (((wr.alloc (.cells #[] 3)).drew).ownsRow w.heap.size 3 1 (.slice (some ⟨wr.heap.size, 0, none⟩) 0 0) 0 []) := Lib.hid (World.ownsRow_made (base := w.heap.size) (e := 3) (size := 1) wr #[] 0 hwz (by unfold maxLen; omega) rfl)
      have HOa2 : Hid ((((wr.alloc (.cells #[] 3)).alloc (.cells #[.int .i64 (v : Int)] 3)).drew).ownsRow w.heap.size 3 1 (.slice (some ⟨wr.heap.size, 0, none⟩) 0 0) 0 []) := Lib.hid ((World.ownsRow_made (base := w.heap.size) (e := 3) (size := 1) wr #[] 0 hwz (by unfold maxLen; omega) rfl).alloc _)
      have HOa3 : Hid ((((wr.alloc (.cells #[.int .i64 (v : Int)] 3)).alloc (.cells #[] 3)).drew).ownsRow w.heap.size 3 1 (.slice (some ⟨(wr.heap.size + 1), 0, none⟩) 0 0) 0 []) := Lib.hid (by have h := World.ownsRow_made (base := w.heap.size) (e := 3) (size := 1) (wr.alloc (.cells #[.int .i64 (v : Int)] 3)) #[] 0 (by rw [HZa.out]; omega) (by unfold maxLen; omega) rfl; rw [HZa.out] at h; exact h)
      have HBa1 : Hid (Below w.heap.size w ((wr.alloc (.cells #[] 3)).drew)) := Lib.hid ((HBd.out.alloc hwz _).drew)
      have HBa2 : Hid (Below w.heap.size w (((wr.alloc (.cells #[] 3)).alloc (.cells #[.int .i64 (v : Int)] 3)).drew)) := Lib.hid (((HBd.out.alloc hwz _).alloc (by rw [HZb.out]; omega) _).drew)
      have HBa3 : Hid (Below w.heap.size w (((wr.alloc (.cells #[.int .i64 (v : Int)] 3)).alloc (.cells #[] 3)).drew)) := Lib.hid (((HBd.out.alloc hwz _).alloc (by rw [HZa.out]; omega) _).drew)
      have HXb2 : Hid ((((wr.alloc (.cells #[] 3)).alloc (.cells #[.int .i64 (v : Int)] 3)).drew).cell? ⟨wr.heap.size + 1, 0, none⟩ = some (.int .i64 (v : Int))) := Lib.hid (by have h := cell_one_newN (wr.alloc (.cells #[] 3)) (.int .i64 (v : Int)) 3 0 _ rfl; rw [HZb.out] at h; exact h)
      have HXb3 : Hid ((((wr.alloc (.cells #[.int .i64 (v : Int)] 3)).alloc (.cells #[] 3)).drew).cell? ⟨wr.heap.size, 0, none⟩ = some (.int .i64 (v : Int))) := Lib.hid (by have h := cell_one_newN wr (.int .i64 (v : Int)) 3 0 _ rfl; have h2 := (below_alloc (wr.alloc (.cells #[.int .i64 (v : Int)] 3)) (.cells #[] 3)).cell (World.block_lt_of_cell? _ _ h); exact h2.trans h)
      have HNl : Hid (n ≤ L.length) := Lib.hid (by rw [← HN.out]; omega)
      have HTl : Hid ((ints (L.take n)).length = n * 1) := Lib.hid (by simp [ints]; have := HNl.out; omega)
      have HTk : Hid (∀ W, Below w.heap.size w W → ∀ (j : Nat) u, (ints (L.take n))[j]? = some u → W.cell? ((⟨b, 0, none⟩ : Addr).add j) = some u) := Lib.hid fun W hb j u hu => by
        have hj : j < n := by have := (List.getElem?_eq_some_iff.1 hu).1; rw [HTl.out] at this; omega
        unfold ints at hu
        rw [List.getElem?_map, List.getElem?_take_of_lt hj] at hu
        cases hy2 : L[j]? with
        | none => rw [hy2] at hu; cases hu
        | some y2 =>
          rw [hy2] at hu
          cases hu
          rw [Addr.add_lit, Nat.zero_add]
          exact HC.out W hb j y2 hy2
      have HTo : Hid (∀ u ∈ ints (L.take n), u.oneCell' = true) := Lib.hid (by intro u hu; obtain ⟨y2, _, rfl⟩ := List.mem_map.1 hu; rfl)
      have HDl : Hid ((ints (L.drop n)).length = (0) * 1) := Lib.hid (by simp [ints]; rw [← HN.out]; try omega)
      have HDk : Hid (∀ W, Below w.heap.size w W → ∀ (j : Nat) u, (ints (L.drop n))[j]? = some u → W.cell? ((⟨b, n, none⟩ : Addr).add j) = some u) := Lib.hid fun W hb j u hu => by
        unfold ints at hu
        rw [List.getElem?_map, List.getElem?_drop] at hu
        cases hy2 : L[n + j]? with
        | none => rw [hy2] at hu; cases hu
        | some y2 =>
          rw [hy2] at hu
          cases hu
          rw [Addr.add_lit]
          exact HC.out W hb (n + j) y2 hy2
      have HDo : Hid (∀ u ∈ ints (L.drop n), u.oneCell' = true) := Lib.hid (by intro u hu; obtain ⟨y2, _, rfl⟩ := List.mem_map.1 hu; rfl)
      have t3 : 0 + n ≤ maxLen := by unfold maxLen; omega
      have t4 : (0 + n) * 8 ≤ 140737488355328 := by omega
      have s3 : n + 1 ≤ maxLen := by unfold maxLen; omega
      have s4 : (n + 1) * 8 ≤ 140737488355328 := by omega
      have s5 : n + 1 + (0) ≤ maxLen := by unfold maxLen; omega
      have s6 : (n + 1 + (0)) * 8 ≤ 140737488355328 := by omega
      have HIl : Hid ((insN L v).length = n + 1 + (0)) := Lib.hid (by rw [HI.out]; have h1 := HTl.out; have h2 := HDl.out; simp only [ints, List.length_map] at h1 h2; rw [List.length_append, List.length_cons, h1, h2]; omega)
      have HIi : Hid (ints (insN L v) = (ints (L.take n) ++ [.int .i64 (v : Int)]) ++ ints (L.drop n)) := Lib.hid (by rw [HI.out]; simp [ints])
      by_cases hcn : n = c
      · subst hcn
        go_region_held3 (fun w' => True) (exact trivial)
          ((first
            | (refine step_append_freeN (by rfl) (.tmp 33) (.tmp 36) 32 (by rfl) w.heap.size 3 i0 _ 1 8 Try.underlying32 hi hz0 hz1 hz2 rfl (by decide) (.slice (some ⟨wr.heap.size, 0, none⟩) 0 0) 0 [] (by rfl) HOa1.out ⟨b, 0, none⟩ n n (ints (L.take n)) (by rfl) HTl.out (HTk.out _ HBa1.out) HTo.out t3 t4 HBa1.out.size ?_; intro v4 w4 hown4 hgr4; have HO4 : Hid (w4.ownsRow w.heap.size 3 1 v4 n (ints (L.take n))) := Lib.hid (by simpa using hown4); have HB4 : Hid (Below w.heap.size w w4) := Lib.hid (HBa1.out.grown hgr4 HBa1.out.size (fun q e => by simp only [Value.ownBlock, Option.some.injEq] at e; omega)); have HLt4 : Hid (∀ q, v4.ownBlock = some q → w.heap.size ≤ q) := Lib.hid (fun q e => (HO4.out.lt q e).1); have hz4b : w.heap.size ≤ w4.heap.size := HB4.out.size; have hz4 : w.heap.size ≤ (w4.alloc (.cells #[.int .i64 (v : Int)] 3)).heap.size := Nat.le_trans hz4b (below_alloc w4 _).size; clear hown4 hgr4)
            | (refine step_append_freeN (by rfl) (.tmp 33) (.tmp 36) 32 (by rfl) w.heap.size 3 i0 _ 1 8 Try.underlying32 hi hz0 hz1 hz2 rfl (by decide) (.slice (some ⟨wr.heap.size, 0, none⟩) 0 0) 0 [] (by rfl) HOa2.out ⟨b, 0, none⟩ n n (ints (L.take n)) (by rfl) HTl.out (HTk.out _ HBa2.out) HTo.out t3 t4 HBa2.out.size ?_; intro v4 w4 hown4 hgr4; have HO4 : Hid (w4.ownsRow w.heap.size 3 1 v4 n (ints (L.take n))) := Lib.hid (by simpa using hown4); have HB4 : Hid (Below w.heap.size w w4) := Lib.hid (HBa2.out.grown hgr4 HBa2.out.size (fun q e => by simp only [Value.ownBlock, Option.some.injEq] at e; omega)); have HLt4 : Hid (∀ q, v4.ownBlock = some q → w.heap.size ≤ q) := Lib.hid (fun q e => (HO4.out.lt q e).1); have hz4b : w.heap.size ≤ w4.heap.size := HB4.out.size; have hz4 : w.heap.size ≤ (w4.alloc (.cells #[.int .i64 (v : Int)] 3)).heap.size := Nat.le_trans hz4b (below_alloc w4 _).size; have HX4 : Hid (∀ (j : Nat) u, [Value.int .i64 (v : Int)][j]? = some u → w4.cell? ((⟨(wr.heap.size + 1), 0, none⟩ : Addr).add j) = some u) := Lib.hid (fun j u hu => by match j, hu with | 0, hu => (cases hu; rw [Addr.add_lit]; exact (cell_keptN (hgr4.block _ (World.block_lt_of_cell? _ _ HXb2.out) (by simp [Value.ownBlock])) 0).trans HXb2.out) | j + 1, hu => simp at hu); clear hown4 hgr4)
            | (refine step_append_freeN (by rfl) (.tmp 33) (.tmp 36) 32 (by rfl) w.heap.size 3 i0 _ 1 8 Try.underlying32 hi hz0 hz1 hz2 rfl (by decide) (.slice (some ⟨(wr.heap.size + 1), 0, none⟩) 0 0) 0 [] (by rfl) HOa3.out ⟨b, 0, none⟩ n n (ints (L.take n)) (by rfl) HTl.out (HTk.out _ HBa3.out) HTo.out t3 t4 HBa3.out.size ?_; intro v4 w4 hown4 hgr4; have HO4 : Hid (w4.ownsRow w.heap.size 3 1 v4 n (ints (L.take n))) := Lib.hid (by simpa using hown4); have HB4 : Hid (Below w.heap.size w w4) := Lib.hid (HBa3.out.grown hgr4 HBa3.out.size (fun q e => by simp only [Value.ownBlock, Option.some.injEq] at e; omega)); have HLt4 : Hid (∀ q, v4.ownBlock = some q → w.heap.size ≤ q) := Lib.hid (fun q e => (HO4.out.lt q e).1); have hz4b : w.heap.size ≤ w4.heap.size := HB4.out.size; have hz4 : w.heap.size ≤ (w4.alloc (.cells #[.int .i64 (v : Int)] 3)).heap.size := Nat.le_trans hz4b (below_alloc w4 _).size; have HX4 : Hid (∀ (j : Nat) u, [Value.int .i64 (v : Int)][j]? = some u → w4.cell? ((⟨wr.heap.size, 0, none⟩ : Addr).add j) = some u) := Lib.hid (fun j u hu => by match j, hu with | 0, hu => (cases hu; rw [Addr.add_lit]; exact (cell_keptN (hgr4.block _ (World.block_lt_of_cell? _ _ HXb3.out) (by simp [Value.ownBlock])) 0).trans HXb3.out) | j + 1, hu => simp at hu); clear hown4 hgr4)
            | (refine step_append_freeN (by rfl) (.tmp 37) (.tmp 39) 32 (by rfl) w.heap.size 3 i0 _ 1 8 Try.underlying32 hi hz0 hz1 hz2 rfl (by decide) v4 n (ints (L.take n)) (by rfl) (HO4.out.alloc _) ⟨w4.heap.size, 0, none⟩ 1 1 [.int .i64 (v : Int)] (by rfl) (by rfl) (cell_one_newN w4 (.int .i64 (v : Int)) 3) (by simp [Value.oneCell']) s3 s4 hz4 ?_; intro v5 w5 hown5 hgr5; have HO5 := Lib.hid hown5; have HB5 : Hid (Below w.heap.size w w5) := Lib.hid ((HB4.out.alloc HB4.out.size _).grown hgr5 hz4 (fun q e => HLt4.out q e)); have HLt5 : Hid (∀ q, v5.ownBlock = some q → w.heap.size ≤ q) := Lib.hid (fun q e => (HO5.out.lt q e).1); have hz5 : w.heap.size ≤ w5.heap.size := HB5.out.size; have HDc := Lib.hid (HDk.out w5 HB5.out); clear hown5 hgr5)
            | (refine step_append_freeN (by rfl) (.tmp 37) (.tmp 39) 32 (by rfl) w.heap.size 3 i0 _ 1 8 Try.underlying32 hi hz0 hz1 hz2 rfl (by decide) v4 n (ints (L.take n)) (by rfl) HO4.out ⟨(wr.heap.size + 1), 0, none⟩ 1 1 [.int .i64 (v : Int)] (by rfl) (by rfl) HX4.out (by simp [Value.oneCell']) s3 s4 hz4b ?_; intro v5 w5 hown5 hgr5; have HO5 := Lib.hid hown5; have HB5 : Hid (Below w.heap.size w w5) := Lib.hid (HB4.out.grown hgr5 hz4b (fun q e => HLt4.out q e)); have HLt5 : Hid (∀ q, v5.ownBlock = some q → w.heap.size ≤ q) := Lib.hid (fun q e => (HO5.out.lt q e).1); have hz5 : w.heap.size ≤ w5.heap.size := HB5.out.size; have HDc := Lib.hid (HDk.out w5 HB5.out); clear hown5 hgr5)
            | (refine step_append_freeN (by rfl) (.tmp 37) (.tmp 39) 32 (by rfl) w.heap.size 3 i0 _ 1 8 Try.underlying32 hi hz0 hz1 hz2 rfl (by decide) v4 n (ints (L.take n)) (by rfl) HO4.out ⟨wr.heap.size, 0, none⟩ 1 1 [.int .i64 (v : Int)] (by rfl) (by rfl) HX4.out (by simp [Value.oneCell']) s3 s4 hz4b ?_; intro v5 w5 hown5 hgr5; have HO5 := Lib.hid hown5; have HB5 : Hid (Below w.heap.size w w5) := Lib.hid (HB4.out.grown hgr5 hz4b (fun q e => HLt4.out q e)); have HLt5 : Hid (∀ q, v5.ownBlock = some q → w.heap.size ≤ q) := Lib.hid (fun q e => (HO5.out.lt q e).1); have hz5 : w.heap.size ≤ w5.heap.size := HB5.out.size; have HDc := Lib.hid (HDk.out w5 HB5.out); clear hown5 hgr5)
            | (refine step_append_freeN (by rfl) (.tmp 40) (.tmp 43) 32 (by rfl) w.heap.size 3 i0 _ 1 8 Try.underlying32 hi hz0 hz1 hz2 rfl (by decide) v5 (n + 1) (ints (L.take n) ++ [.int .i64 (v : Int)]) (by rfl) HO5.out ⟨b, 0, none⟩ (0) (0) (ints (L.drop n)) (by rfl) HDl.out (fun j u hu => by have h := (List.getElem?_eq_some_iff.1 hu).1; rw [HDl.out] at h; omega) HDo.out s5 s6 hz5 ?_; intro v6 w6 hown6 hgr6; have HO6 := Lib.hid hown6; have HB6 : Hid (Below w.heap.size w w6) := Lib.hid (HB5.out.grown hgr6 hz5 (fun q e => HLt5.out q e)); clear hown6 hgr6)
            | fail))
        all_goals (
          go_wp2
          go_ret
          refine ⟨v6, rfl, ?_, ?_, HB6.out⟩
          · intro e6; have h6 := HO6.out.1; subst e6; rcases HO6.out.2 with ⟨_, h7⟩ | ⟨_, _, _, h7, _⟩
            · omega
            · cases h7
          · rw [HIl.out, HIi.out]; exact own_baseN HO6.out hbase)
      · have hcn2 : ¬ c = n := fun e => hcn e.symm
        go_region_held3 (fun w' => True) (exact trivial)
          ((first
            | (refine step_append_freeN (by rfl) (.tmp 33) (.tmp 36) 32 (by rfl) w.heap.size 3 i0 _ 1 8 Try.underlying32 hi hz0 hz1 hz2 rfl (by decide) (.slice (some ⟨wr.heap.size, 0, none⟩) 0 0) 0 [] (by rfl) HOa1.out ⟨b, 0, none⟩ n c (ints (L.take n)) (by rfl) HTl.out (HTk.out _ HBa1.out) HTo.out t3 t4 HBa1.out.size ?_; intro v4 w4 hown4 hgr4; have HO4 : Hid (w4.ownsRow w.heap.size 3 1 v4 n (ints (L.take n))) := Lib.hid (by simpa using hown4); have HB4 : Hid (Below w.heap.size w w4) := Lib.hid (HBa1.out.grown hgr4 HBa1.out.size (fun q e => by simp only [Value.ownBlock, Option.some.injEq] at e; omega)); have HLt4 : Hid (∀ q, v4.ownBlock = some q → w.heap.size ≤ q) := Lib.hid (fun q e => (HO4.out.lt q e).1); have hz4b : w.heap.size ≤ w4.heap.size := HB4.out.size; have hz4 : w.heap.size ≤ (w4.alloc (.cells #[.int .i64 (v : Int)] 3)).heap.size := Nat.le_trans hz4b (below_alloc w4 _).size; clear hown4 hgr4)
            | (refine step_append_freeN (by rfl) (.tmp 33) (.tmp 36) 32 (by rfl) w.heap.size 3 i0 _ 1 8 Try.underlying32 hi hz0 hz1 hz2 rfl (by decide) (.slice (some ⟨wr.heap.size, 0, none⟩) 0 0) 0 [] (by rfl) HOa2.out ⟨b, 0, none⟩ n c (ints (L.take n)) (by rfl) HTl.out (HTk.out _ HBa2.out) HTo.out t3 t4 HBa2.out.size ?_; intro v4 w4 hown4 hgr4; have HO4 : Hid (w4.ownsRow w.heap.size 3 1 v4 n (ints (L.take n))) := Lib.hid (by simpa using hown4); have HB4 : Hid (Below w.heap.size w w4) := Lib.hid (HBa2.out.grown hgr4 HBa2.out.size (fun q e => by simp only [Value.ownBlock, Option.some.injEq] at e; omega)); have HLt4 : Hid (∀ q, v4.ownBlock = some q → w.heap.size ≤ q) := Lib.hid (fun q e => (HO4.out.lt q e).1); have hz4b : w.heap.size ≤ w4.heap.size := HB4.out.size; have hz4 : w.heap.size ≤ (w4.alloc (.cells #[.int .i64 (v : Int)] 3)).heap.size := Nat.le_trans hz4b (below_alloc w4 _).size; have HX4 : Hid (∀ (j : Nat) u, [Value.int .i64 (v : Int)][j]? = some u → w4.cell? ((⟨(wr.heap.size + 1), 0, none⟩ : Addr).add j) = some u) := Lib.hid (fun j u hu => by match j, hu with | 0, hu => (cases hu; rw [Addr.add_lit]; exact (cell_keptN (hgr4.block _ (World.block_lt_of_cell? _ _ HXb2.out) (by simp [Value.ownBlock])) 0).trans HXb2.out) | j + 1, hu => simp at hu); clear hown4 hgr4)
            | (refine step_append_freeN (by rfl) (.tmp 33) (.tmp 36) 32 (by rfl) w.heap.size 3 i0 _ 1 8 Try.underlying32 hi hz0 hz1 hz2 rfl (by decide) (.slice (some ⟨(wr.heap.size + 1), 0, none⟩) 0 0) 0 [] (by rfl) HOa3.out ⟨b, 0, none⟩ n c (ints (L.take n)) (by rfl) HTl.out (HTk.out _ HBa3.out) HTo.out t3 t4 HBa3.out.size ?_; intro v4 w4 hown4 hgr4; have HO4 : Hid (w4.ownsRow w.heap.size 3 1 v4 n (ints (L.take n))) := Lib.hid (by simpa using hown4); have HB4 : Hid (Below w.heap.size w w4) := Lib.hid (HBa3.out.grown hgr4 HBa3.out.size (fun q e => by simp only [Value.ownBlock, Option.some.injEq] at e; omega)); have HLt4 : Hid (∀ q, v4.ownBlock = some q → w.heap.size ≤ q) := Lib.hid (fun q e => (HO4.out.lt q e).1); have hz4b : w.heap.size ≤ w4.heap.size := HB4.out.size; have hz4 : w.heap.size ≤ (w4.alloc (.cells #[.int .i64 (v : Int)] 3)).heap.size := Nat.le_trans hz4b (below_alloc w4 _).size; have HX4 : Hid (∀ (j : Nat) u, [Value.int .i64 (v : Int)][j]? = some u → w4.cell? ((⟨wr.heap.size, 0, none⟩ : Addr).add j) = some u) := Lib.hid (fun j u hu => by match j, hu with | 0, hu => (cases hu; rw [Addr.add_lit]; exact (cell_keptN (hgr4.block _ (World.block_lt_of_cell? _ _ HXb3.out) (by simp [Value.ownBlock])) 0).trans HXb3.out) | j + 1, hu => simp at hu); clear hown4 hgr4)
            | (refine step_append_freeN (by rfl) (.tmp 37) (.tmp 39) 32 (by rfl) w.heap.size 3 i0 _ 1 8 Try.underlying32 hi hz0 hz1 hz2 rfl (by decide) v4 n (ints (L.take n)) (by rfl) (HO4.out.alloc _) ⟨w4.heap.size, 0, none⟩ 1 1 [.int .i64 (v : Int)] (by rfl) (by rfl) (cell_one_newN w4 (.int .i64 (v : Int)) 3) (by simp [Value.oneCell']) s3 s4 hz4 ?_; intro v5 w5 hown5 hgr5; have HO5 := Lib.hid hown5; have HB5 : Hid (Below w.heap.size w w5) := Lib.hid ((HB4.out.alloc HB4.out.size _).grown hgr5 hz4 (fun q e => HLt4.out q e)); have HLt5 : Hid (∀ q, v5.ownBlock = some q → w.heap.size ≤ q) := Lib.hid (fun q e => (HO5.out.lt q e).1); have hz5 : w.heap.size ≤ w5.heap.size := HB5.out.size; have HDc := Lib.hid (HDk.out w5 HB5.out); clear hown5 hgr5)
            | (refine step_append_freeN (by rfl) (.tmp 37) (.tmp 39) 32 (by rfl) w.heap.size 3 i0 _ 1 8 Try.underlying32 hi hz0 hz1 hz2 rfl (by decide) v4 n (ints (L.take n)) (by rfl) HO4.out ⟨(wr.heap.size + 1), 0, none⟩ 1 1 [.int .i64 (v : Int)] (by rfl) (by rfl) HX4.out (by simp [Value.oneCell']) s3 s4 hz4b ?_; intro v5 w5 hown5 hgr5; have HO5 := Lib.hid hown5; have HB5 : Hid (Below w.heap.size w w5) := Lib.hid (HB4.out.grown hgr5 hz4b (fun q e => HLt4.out q e)); have HLt5 : Hid (∀ q, v5.ownBlock = some q → w.heap.size ≤ q) := Lib.hid (fun q e => (HO5.out.lt q e).1); have hz5 : w.heap.size ≤ w5.heap.size := HB5.out.size; have HDc := Lib.hid (HDk.out w5 HB5.out); clear hown5 hgr5)
            | (refine step_append_freeN (by rfl) (.tmp 37) (.tmp 39) 32 (by rfl) w.heap.size 3 i0 _ 1 8 Try.underlying32 hi hz0 hz1 hz2 rfl (by decide) v4 n (ints (L.take n)) (by rfl) HO4.out ⟨wr.heap.size, 0, none⟩ 1 1 [.int .i64 (v : Int)] (by rfl) (by rfl) HX4.out (by simp [Value.oneCell']) s3 s4 hz4b ?_; intro v5 w5 hown5 hgr5; have HO5 := Lib.hid hown5; have HB5 : Hid (Below w.heap.size w w5) := Lib.hid (HB4.out.grown hgr5 hz4b (fun q e => HLt4.out q e)); have HLt5 : Hid (∀ q, v5.ownBlock = some q → w.heap.size ≤ q) := Lib.hid (fun q e => (HO5.out.lt q e).1); have hz5 : w.heap.size ≤ w5.heap.size := HB5.out.size; have HDc := Lib.hid (HDk.out w5 HB5.out); clear hown5 hgr5)
            | (refine step_append_freeN (by rfl) (.tmp 40) (.tmp 43) 32 (by rfl) w.heap.size 3 i0 _ 1 8 Try.underlying32 hi hz0 hz1 hz2 rfl (by decide) v5 (n + 1) (ints (L.take n) ++ [.int .i64 (v : Int)]) (by rfl) HO5.out ⟨b, n, none⟩ (0) (c - n) (ints (L.drop n)) (by rfl) HDl.out (fun j u hu => by have h := (List.getElem?_eq_some_iff.1 hu).1; rw [HDl.out] at h; omega) HDo.out s5 s6 hz5 ?_; intro v6 w6 hown6 hgr6; have HO6 := Lib.hid hown6; have HB6 : Hid (Below w.heap.size w w6) := Lib.hid (HB5.out.grown hgr6 hz5 (fun q e => HLt5.out q e)); clear hown6 hgr6)
            | fail))
        all_goals (
          go_wp2
          go_ret
          refine ⟨v6, rfl, ?_, ?_, HB6.out⟩
          · intro e6; have h6 := HO6.out.1; subst e6; rcases HO6.out.2 with ⟨_, h7⟩ | ⟨_, _, _, h7, _⟩
            · omega
            · cases h7
          · rw [HIl.out, HIi.out]; exact own_baseN HO6.out hbase)
end Go.Proofs.Ytdphjnbelggcfaa
