/-
  hopsOf of the board: the hops of a job. Used by the claims on chapter 10.
-/
import Derived.Test.YtiialbnfgichhaaUfW
import Derived.Test.YtiialbnfgichhaaHopL
import Derived.Deep.AppendLies
namespace Go.Proofs.Ytiialbnfgichhaa
open Go.RowKit
set_option linter.unusedVariables false
theorem preV {n : Int} {l : List Jb} {ps : List Hp} {i : Nat} (hv : JobsV n l) (hi : i < l.length) (hE : EndBy l ps 100000) {k : Nat} (hk : (k : Int) ≤ stp (jAt l i)) : HpV l (pre l ps i k) := by
  have hj := jobV_at hv hi
  have hb := pre_bg (ps := ps) hj hE k
  have hf := pre_fr (ps := ps) hj k hk
  have hs := stp_pos hj
  have h6 := hv.n1
  have hw : -1 ≤ way (jAt l i) ∧ way (jAt l i) ≤ 1 := by unfold way; by_cases e : (jAt l i).fr < (jAt l i).to; rw [if_pos e]; omega; rw [if_neg e]; omega
  have f0 := hj.fr0
  have f1 := hj.fr1
  refine ⟨by rw [pre_jb]; omega, by rw [pre_jb]; omega, ?_, ?_, hb.1, by omega⟩
  · rw [hf]
    rcases (show way (jAt l i) = -1 ∨ way (jAt l i) = 0 ∨ way (jAt l i) = 1 by omega) with e | e | e <;> rw [e] <;> omega
  · rw [hf]
    rcases (show way (jAt l i) = -1 ∨ way (jAt l i) = 0 ∨ way (jAt l i) = 1 by omega) with e | e | e <;> rw [e] <;> omega
theorem freedV {n : Int} {l : List Jb} {ps : List Hp} {i : Nat} (hv : JobsV n l) (hi : i < l.length) (hE : EndBy l ps 100000) {k : Nat} (hk : (k : Int) ≤ stp (jAt l i)) : HpV l (freed l ps (pre l ps i k)) := by
  have h := preV (ps := ps) hv hi hE hk
  have hs := lf_spec hE (pre l ps i k) h.bg0 (Int.le_refl _)
  have hb := pre_bg (ps := ps) (jobV_at hv hi) hE k
  have hst := stp_pos (jobV_at hv hi)
  have h6 := hv.n1
  exact ⟨h.jb0, h.jb1, h.fr0, h.fr1, by show 0 ≤ lf l ps (pre l ps i k); omega, by show lf l ps (pre l ps i k) ≤ 1000000; omega⟩
theorem beh_pre (l : List Jb) (ps : List Hp) (i : Int) (k : Nat) : beh l (freed l ps (pre l ps i k)) = pre l ps i (k + 1) := rfl
theorem infoHop : (Try.prog.info? 89).map (fun i => (i.zero, i.size, i.bytes)) = some (some (.agg #[.int .i64 0, .int .i64 0, .int .i64 0]), 3, 24) := by kernel_rfl
theorem cell_hop_new (w : World) (x y z : Value) (t : TypeId) : ∀ (j : Nat) u, [x, y, z][j]? = some u → (w.alloc (.cells #[x, y, z] t)).cell? ((⟨w.heap.size, 0, none⟩ : Addr).add j) = some u := fun j u h => by
  rw [Addr.add_lit, World.cell?_alloc_new]
  match j, h with
  | 0, h => simpa using h
  | 1, h => simpa using h
  | 2, h => simpa using h
  | j + 3, h => simp at h
/-- A slice of hops as an answer: new memory that may be written. -/
def HopsOut (l : List Hp) (w : World) (e : Ending) (w' : World) : Prop := (∃ a g c, e = .returned (.slice a l.length c) ∧ SrcV w' a g (hps l) ∧ (0 < (hps l).length → w.heap.size ≤ g ∧ g < w'.heap.size) ∧ (∀ j, j < (hps l).length → w'.frozen? ⟨g, j, none⟩ = false)) ∧ Below w.heap.size w w'
/-- What lies in memory in the loop of hopsOf. -/
structure HM (w W : World) (sv : Value) (k : Nat) (hs : List Hp) (g6 : Nat) (h : Hp) : Prop where
  row : W.ownsRow w.heap.size 89 3 sv k (hps hs)
  hop : HpB 89 W g6 h
  apart : ∀ q, sv.ownBlock = some q → q ≠ g6
  low : w.heap.size ≤ g6
  below : Below w.heap.size w W
theorem HM.step {w W W' : World} {sv : Value} {k : Nat} {hs : List Hp} {g6 : Nat} {h : Hp} (hm : HM w W sv k hs g6 h) (hb : Below W.heap.size W W') : HM w W' sv k hs g6 h :=
  ⟨row_below hm.row hb, hm.hop.below hb, hm.apart, hm.low, hm.below.trans (hb.mono hm.below.size)⟩
theorem HM.newHop {w W : World} {sv : Value} {k : Nat} {hs : List Hp} {g6 : Nat} {h : Hp} (hm : HM w W sv k hs g6 h) : HM w (W.alloc (.cells #[.int .i64 h.jb, .int .i64 h.fr, .int .i64 h.bg] 89)) sv k hs W.heap.size h :=
  ⟨hm.row.alloc _, hpB_new _ _ _, fun q hq e => by have := (hm.row.lt q hq).2; omega, Nat.le_trans hm.low (Nat.le_of_lt hm.hop.lt), hm.below.alloc hm.below.size _⟩
theorem HM.app {w W w5 : World} {sv : Value} {k gg capg : Nat} {hs hs1 : List Hp} {g6 : Nat} {h : Hp} {o : Obj} (hm : HM w W sv k hs g6 h) (hrow : w5.ownsRow w.heap.size 89 3 (.slice (some ⟨gg, 0, none⟩) (k + 1) capg) (k + 1) (hps hs ++ hcs h)) (hgrow : (W.alloc o).grownBy w5 sv.ownBlock) (hat : sv.ownBlock = some gg ∨ gg = W.heap.size + 1) (hs1e : hps hs1 = hps hs ++ hcs h) :
    HM w w5 (.slice (some ⟨gg, 0, none⟩) (k + 1) capg) (k + 1) hs1 g6 h :=
  ⟨by rw [hs1e]; exact hrow, (hgrow.block g6 (by have := hm.hop.lt; simp; omega) (fun e => hm.apart g6 e.symm rfl)).trans (hm.hop.below (below_alloc _ _)),
    fun q hq => by
      have hq2 : q = gg := by simpa [Value.ownBlock] using hq.symm
      subst hq2
      rcases hat with h1 | h1
      · exact hm.apart q h1
      · have := hm.hop.lt; omega,
    hm.low, (hm.below.alloc hm.below.size _).grown hgrow (by have := hm.below.size; simp; omega) (fun q e => (hm.row.lt q e).1)⟩
theorem row_setFar {w W : World} {e : TypeId} {size : Nat} {v : Value} {n : Nat} {xs : List Value} {base g6 i : Nat} (h : W.ownsRow base e size v n xs) (ha : ∀ q, v.ownBlock = some q → q ≠ g6) (u : Value) : (W.setCell ⟨g6, i, none⟩ u).ownsRow base e size v n xs :=
  h.kept (grown_set i u) (by
    cases hq : v.ownBlock with
    | none => exact Or.inl rfl
    | some q => exact Or.inr fun e => ha q hq (Option.some.inj e))
theorem HM.setHop {w W : World} {sv : Value} {k : Nat} {hs : List Hp} {g6 : Nat} {h : Hp} (hm : HM w W sv k hs g6 h) (x y z : Int) : HM w (((W.setCell ⟨g6, 0, none⟩ (.int .i64 x)).setCell ⟨g6, 1, none⟩ (.int .i64 y)).setCell ⟨g6, 2, none⟩ (.int .i64 z)) sv k hs g6 ⟨x, y, z⟩ :=
  ⟨row_setFar (w := w) (row_setFar (w := w) (row_setFar (w := w) hm.row hm.apart _) hm.apart _) hm.apart _, hm.hop.set3 x y z, hm.apart, hm.low, ((hm.below.setCell (p := ⟨g6, 0, none⟩) hm.low _).setCell (p := ⟨g6, 1, none⟩) hm.low _).setCell (p := ⟨g6, 2, none⟩) hm.low _⟩

set_option maxHeartbeats 8000000 in
set_option maxRecDepth 20000 in
theorem hopsOf_any (d : Bd) (n : Int) (hv : JobsV n d.l) (hps_ : ∀ o ∈ d.ps, HpV d.l o) (hE : EndBy d.l d.ps 100000) (hlen : d.ps.length ≤ 1048576) (i : Nat) (hi : i < d.l.length) (w : World) (hB : Brd d w) :
    Calls Try.prog 83 #[.pointer (some ⟨d.B, 0, none⟩), .int .i64 (i : Int)] w (HopsOut (hopsL d.l d.ps i) w) := by
  obtain ⟨i0, hi', hz0, hz1, hz2⟩ := info_parts infoHop
  have M0 : Hid ((w.alloc (Obj.cells #[] 89)).ownsRow w.heap.size 89 3 (.slice (some ⟨w.heap.size, 0, none⟩) 0 0) 0 (hps [])) := Lib.hid (World.ownsRow_made (base := w.heap.size) (e := 89) (size := 3) w #[] 0 (by simp) (by unfold maxLen; omega) rfl)
  have HF := Lib.hid fun W hb => firstHop_any d n hv i hi W (hB.below (W' := W) hb)
  have HI := Lib.hid fun (k : Nat) (hk : (k : Int) ≤ stp (jAt d.l i)) W hb => beyond_any d n hv (pre d.l d.ps i k) (preV hv hi hE hk) W (hB.below (W' := W) hb)
  have HU := Lib.hid fun (k : Nat) (hk : (k : Int) ≤ stp (jAt d.l i)) W hb => untilFree_any d n hv hps_ hE hlen (pre d.l d.ps i k) (preV hv hi hE hk) W (hB.below (W' := W) hb)
  have HH := Lib.hid fun (k : Nat) (hk : (k : Int) ≤ stp (jAt d.l i)) W hb => behind_any d n hv (freed d.l d.ps (pre d.l d.ps i k)) (freedV hv hi hE hk) W (hB.below (W' := W) hb)
  have hst := stp_pos (jobV_at hv hi)
  have hn6 := hv.n1
  have HBy := Lib.hid fun (k : Nat) (hk : (k : Int) ≤ stp (jAt d.l i)) => pre_beyond (ps := d.ps) (jobV_at hv hi) k hk
  have HJb := Lib.hid fun (k : Nat) => pre_jb d.l d.ps i k
  obtain ⟨K, hK⟩ : ∃ K : Nat, stp (jAt d.l i) = (K : Int) := ⟨(stp (jAt d.l i)).toNat, by omega⟩
  have HRes : Hid (hopsL d.l d.ps i = hopsTo d.l d.ps i K) := Lib.hid (by unfold hopsL; rw [hK, Int.toNat_natCast])
  rw [hK] at hst HI HU HH HBy
  have hK6 : K ≤ 6 := by omega
  clear hst hn6 hK hv hps_ hE hlen hi hB
  rw [HRes.out]
  have HB0 := Lib.hid (below_alloc w (Obj.cells #[] 89))
  go_enter Try.func83, Try.ntmps83
  go_wp2_with fail
  refine (HF.out _ HB0.out).mono ?_
  rintro e w1 ⟨rfl, hb⟩
  have HM1 := Lib.hid (show HM w (w1.alloc (.cells #[.int .i64 (firstH d.l i).jb, .int .i64 (firstH d.l i).fr, .int .i64 (firstH d.l i).bg] 89)) (.slice (some ⟨w.heap.size, 0, none⟩) 0 0) 0 (hopsTo d.l d.ps i 0) w1.heap.size (pre d.l d.ps i 0) from
    ⟨(row_below M0.out hb).alloc _, hpB_new _ _ _, fun q hq => by have := hb.size; simp [Value.ownBlock] at hq this; omega, by have := hb.size; simp at this; omega, (HB0.out.trans (hb.mono HB0.out.size)).alloc (Nat.le_trans HB0.out.size hb.size) _⟩)
  clear hb M0 HB0
  go_wp2
  generalize w1.heap.size = g6 at HM1 ⊢
  generalize w1.alloc (.cells #[.int .i64 (firstH d.l i).jb, .int .i64 (firstH d.l i).fr, .int .i64 (firstH d.l i).bg] 89) = W1 at HM1 ⊢
  go_loopw [5, 6] (fun sv p wr => ∃ (k g6 : Nat), p = .pointer (some ⟨g6, 0, none⟩) ∧ k ≤ K ∧ Hid (HM w wr sv k (hopsTo d.l d.ps i k) g6 (pre d.l d.ps i k))) (fun sv _ _ => match sv with | .slice _ n _ => K + 1 - n | _ => 0)
  case atStart => exact ⟨0, g6, rfl, Nat.zero_le _, HM1⟩
  case round =>
    obtain ⟨k, g6, rfl, hk, HMk⟩ := hrel
    obtain ⟨av, capv, rfl⟩ := row_form HMk.out.row
    have HIk := Lib.hid (HI.out k (by omega) wr HMk.out.below)
    have c0 := HMk.out.hop.cell0
    have c1 := HMk.out.hop.cell1
    have c2 := HMk.out.hop.cell2
    by_cases e : k = K
    · subst e
      have HT : Hid (((pre d.l d.ps i k).fr == (jAt d.l (pre d.l d.ps i k).jb).to) = true) := Lib.hid (by rw [HJb.out, (HBy.out k (Int.le_refl _)).2 rfl]; simp)
      rw [HT.out] at HIk
      go_wp2_with fail
      refine HIk.out.mono ?_
      rintro e w2 ⟨rfl, hb⟩
      have HRow := Lib.hid (row_below HMk.out.row hb)
      have HBel := Lib.hid (HMk.out.below.trans (hb.mono HMk.out.below.size))
      clear hb c0 c1 c2 HMk
      go_wp2
      go_ret
      obtain ⟨a', g', c', hv, hs', hg', hf'⟩ := seq_of_row HRow.out
      refine ⟨⟨a', g', c', by rw [hopsTo_len, ← hv]; rfl, hs', fun h => ⟨hg' h, srcV_lt hs' h⟩, hf'⟩, HBel.out⟩
    · have hk1 : k + 1 ≤ K := by omega
      have HT : Hid (((pre d.l d.ps i k).fr == (jAt d.l (pre d.l d.ps i k).jb).to) = false) := Lib.hid (by rw [HJb.out]; exact beq_false_of_ne fun h => e (by have := (HBy.out k (by omega)).1 h; omega))
      rw [HT.out] at HIk
      go_wp2_with fail
      refine HIk.out.mono ?_
      rintro e w2 ⟨rfl, hb⟩
      have HM2 := Lib.hid (HMk.out.step hb)
      clear hb c0 c1 c2 HMk HIk HT e
      have HUk := Lib.hid (HU.out k (by omega))
      have HHk := Lib.hid (HH.out k (by omega))
      have HS : Hid (hps (hopsTo d.l d.ps i (k + 1)) = hps (hopsTo d.l d.ps i k) ++ hcs (freed d.l d.ps (pre d.l d.ps i k))) := Lib.hid (by rw [hopsTo_succ, hps_snoc])
      have HP : Hid (pre d.l d.ps i (k + 1) = ⟨(freed d.l d.ps (pre d.l d.ps i k)).jb, nx d.l (freed d.l d.ps (pre d.l d.ps i k)), en d.l (freed d.l d.ps (pre d.l d.ps i k))⟩) := Lib.hid rfl
      generalize hopsTo d.l d.ps i k = hs at HM2 HS
      generalize nx d.l (freed d.l d.ps (pre d.l d.ps i k)) = fx at HP HHk
      generalize en d.l (freed d.l d.ps (pre d.l d.ps i k)) = fe at HP HHk
      generalize freed d.l d.ps (pre d.l d.ps i k) = f at HS HP HUk HHk
      generalize pre d.l d.ps i k = p at HM2 HUk
      obtain ⟨p0, p1_, p2⟩ := p
      obtain ⟨f0, f1, f2⟩ := f
      dsimp only at HUk HHk HP
      have c0 := HM2.out.hop.cell0
      have c1 := HM2.out.hop.cell1
      have c2 := HM2.out.hop.cell2
      go_wp2_with fail
      refine (HUk.out _ HM2.out.below).mono ?_
      rintro e w3 ⟨rfl, hb⟩
      have HM3 := Lib.hid (HM2.out.step hb)
      clear hb c0 c1 c2 HM2
      have c0 := HM3.out.hop.cell0
      have c1 := HM3.out.hop.cell1
      have c2 := HM3.out.hop.cell2
      have z0 := HM3.out.hop.frozen 0
      have z1 := HM3.out.hop.frozen 1
      have z2 := HM3.out.hop.frozen 2
      have HM4 := Lib.hid (HM3.out.setHop f0 f1 f2)
      have d0 := HM4.out.hop.cell0
      have d1 := HM4.out.hop.cell1
      have d2 := HM4.out.hop.cell2
      have es : (((w3.setCell ⟨g6, 0, none⟩ (.int .i64 f0)).setCell ⟨g6, 1, none⟩ (.int .i64 f1)).setCell ⟨g6, 2, none⟩ (.int .i64 f2)).heap.size = w3.heap.size := by simp
      have HNw : Hid (∀ (j : Nat) (u : Value), [(.int .i64 f0 : Value), .int .i64 f1, .int .i64 f2][j]? = some u → ((((w3.setCell ⟨g6, 0, none⟩ (.int .i64 f0)).setCell ⟨g6, 1, none⟩ (.int .i64 f1)).setCell ⟨g6, 2, none⟩ (.int .i64 f2)).alloc (.cells #[.int .i64 f0, .int .i64 f1, .int .i64 f2] 89)).cell? ((⟨w3.heap.size, 0, none⟩ : Addr).add j) = some u) := Lib.hid (by
        have := cell_hop_new (((w3.setCell ⟨g6, 0, none⟩ (.int .i64 f0)).setCell ⟨g6, 1, none⟩ (.int .i64 f1)).setCell ⟨g6, 2, none⟩ (.int .i64 f2)) (.int .i64 f0) (.int .i64 f1) (.int .i64 f2) 89
        rw [es] at this
        exact this)
      have HRw := Lib.hid (HM4.out.row.alloc (.cells #[.int .i64 f0, .int .i64 f1, .int .i64 f2] 89))
      have HOl := Lib.hid HM4.out.row.lt
      have hsz : w.heap.size ≤ w3.heap.size := HM3.out.below.size
      have hgl : g6 < w3.heap.size := HM3.out.hop.lt
      clear HM3
      go_wp2_with (at_builtin; refine wpList_append_lies _ rfl _ _ 34 rfl w.heap.size 89 i0 (.agg #[.int .i64 0, .int .i64 0, .int .i64 0]) 3 24 Try.underlying34 hi' hz0 hz1 hz2 rfl (by decide) (.slice av k capv) k (hps hs) rfl HRw.out ⟨w3.heap.size, 0, none⟩ 1 1 [.int .i64 f0, .int .i64 f1, .int .i64 f2] rfl rfl HNw.out (by simp [Value.oneCell']) (by omega) (by unfold maxLen; omega) (by omega) (by simp; omega) (w3.heap.size + 1) (by simp) ?_; intro gg capg w5 hown hgrow hat hglt; have HM5 := Lib.hid (HM4.out.app hown hgrow (by rw [es]; exact hat) HS.out); have HM6 := Lib.hid HM5.out.newHop; clear hown hgrow hat hglt; have d0 := HM5.out.hop.cell0; have d1 := HM5.out.hop.cell1; have d2 := HM5.out.hop.cell2; have c0 := HM6.out.hop.cell0; have c1 := HM6.out.hop.cell1; have c2 := HM6.out.hop.cell2; dsimp only at d0 d1 d2 c0 c1 c2)
      clear HRw HNw HOl HM4 es HM5
      refine (HHk.out _ HM6.out.below).mono ?_
      rintro e w7 ⟨rfl, hb⟩
      have HM7 := Lib.hid (HM6.out.step hb)
      clear hb HM6
      have c0 := HM7.out.hop.cell0
      have c1 := HM7.out.hop.cell1
      have c2 := HM7.out.hop.cell2
      have z0 := HM7.out.hop.frozen 0
      have z1 := HM7.out.hop.frozen 1
      have z2 := HM7.out.hop.frozen 2
      have HM8 := Lib.hid (HM7.out.setHop f0 fx fe)
      go_wp2
      go_roundw
      case rel => exact ⟨k + 1, _, rfl, by omega, by rw [HP.out]; exact HM8⟩
      case measure => show K + 1 - (k + 1) < K + 1 - k; omega
end Go.Proofs.Ytiialbnfgichhaa
