/-
  PlainLine, the program's and the model's: both answer alike; l4Plain of the model. Used by the claims on chapter 4.
-/
import Derived.Test.YtijhfmjkiijhiaaDoorUnitB
import Derived.Deep.RegionWith
namespace Go.Proofs.YtijhfmjkiijhiaaDoor
open Go.RowKit
set_option linter.unusedVariables false

theorem plainTo_len (rs : Rs) (u : Nat) : ∀ k, k ≤ rs.length → (plainTo rs u k).length ≤ (spell rs).length := fun k hk => by
  rw [plainTo_spell rs u k hk]
  have h1 : (spell ((rs.take k).map fun p => (p.1, p.2 / u))).length ≤ (spell (rs.take k)).length := by
    generalize rs.take k = l
    induction l with
    | nil => simp [spell]
    | cons p r ih =>
      rw [List.map_cons, spell_cons, spell_cons, List.length_append, List.length_append, List.length_replicate, List.length_replicate]
      have := Nat.div_le_self p.2 u
      omega
  have h2 : (spell (rs.take k)).length ≤ (spell rs).length := by
    conv => rhs; rw [← List.take_append_drop k rs]
    simp only [spell, List.flatMap_append, List.length_append]
    omega
  exact Nat.le_trans h1 h2
theorem rep_size' (n : Nat) (c : UInt8) : (⟨(reps n c).toArray⟩ : ByteArray).size = n := by simp [ByteArray.size, reps]
theorem div_facts (y u : Nat) (hy : y ≤ 1048576) (hu : 0 < u) : ∃ n : Nat, y / u = n ∧ ¬ (u : Int) = 0 ∧ Int.tdiv (y : Int) (u : Int) = (n : Int) ∧ wrap64 (n : Int) = (n : Int) ∧ IntKind.i64.wrap (n : Int) = (n : Int) ∧ n ≤ y := by
  have h : y / u ≤ y := Nat.div_le_self y u
  refine ⟨y / u, rfl, by omega, by rw [Int.tdiv_eq_ediv_of_nonneg (by omega)]; rfl, ?_, ?_, h⟩
  · generalize y / u = n at h ⊢
    exact IntWalk.wrap64_in _ (by omega)
  · generalize y / u = n at h ⊢
    rw [IntKind.wrap_i64]; omega

/-! ### The model's -/
set_option maxHeartbeats 8000000 in
set_option maxRecDepth 8000 in
theorem sPlain_any (s : ByteArray) (w : World) (hs : s.size ≤ 1048576) (hbt : ∀ c ∈ bl s, c = 48 ∨ c = 49) :
    Calls Tryd.prog 72 #[.string s] w fun e w' => e = .returned (.string ⟨(plainL (bl s)).toArray⟩) ∧ Below w.heap.size w w' := by
  have F := Lib.hid fun w => sInner_any s w hs hbt
  have G := Lib.hid fun w => sUnit_any s w hs hbt
  have HM := Lib.hid (inner_max s hs hbt)
  have hln := inner_len s hs
  have HGd := Lib.hid (runs_trim hbt).2.1
  have HU := Lib.hid fun p (hp : p ∈ innerL (runsL (bl s))) => unit_pos hp (HGd.out.mem p hp).2
  have HSp : Hid ((spell (innerL (runsL (bl s)))).length ≤ 1048576) := Lib.hid (by
    rw [(runs_trim hbt).2.2]
    have := trim_len (bl s)
    rw [bl_len] at this
    omega)
  have HR : Hid (plainL (bl s) = plainTo (innerL (runsL (bl s))) (unitL (innerL (runsL (bl s)))) (innerL (runsL (bl s))).length) := Lib.hid rfl
  rw [HR.out]
  clear HR
  generalize hu : unitL (innerL (runsL (bl s))) = u at G HU ⊢
  have hu2 : u ≤ 1048576 := by rw [← hu]; exact unitTo_le (fun p hp => HM.out p hp) _
  clear hu
  generalize innerL (runsL (bl s)) = rs at F HM hln HGd HU HSp ⊢
  clear hbt
  go_enter Tryd.func72, Tryd.ntmps72
  go_wp2_with fail
  refine (F.out _).mono ?_
  rintro e w0 ⟨⟨g, c, rfl, hsv, _, _, _⟩, hb⟩
  have HS0 := Lib.hid hsv
  have HB0 := Lib.hid hb
  clear hsv hb F
  go_wp2_with fail
  refine (G.out _).mono ?_
  rintro e w1 ⟨rfl, hb⟩
  have HS := Lib.hid fun W hb' => (HS0.out.below hb).below (w' := W) hb'
  have HB1 := Lib.hid (HB0.out.trans (hb.mono HB0.out.size))
  clear hb G HS0
  go_wp2
  go_loopw [3, 6] (fun sv v wr => ∃ (k : Nat) (l : Bs), v = .int .i64 k ∧ k ≤ rs.length ∧ sv = .string ⟨l.toArray⟩ ∧ l.length ≤ 1048576 ∧ Hid (l = plainTo rs u k) ∧ Hid (Below w1.heap.size w1 wr)) (fun _ v _ => rs.length - (intOf v).toNat)
  case atStart => exact ⟨0, [], rfl, Nat.zero_le _, rfl, Nat.zero_le _, Lib.hid rfl, Lib.hid (Below.refl _ _)⟩
  case round =>
    obtain ⟨k, l, rfl, hk, rfl, hl, HL, HB⟩ := hrel
    by_cases hlt : k < rs.length
    · have d1 := (HS.out wr HB.out).2 _ _ (prs_at hlt).1
      have d2 := (HS.out wr HB.out).2 _ _ (prs_at hlt).2
      have HLe : Hid ((plainTo rs u (k + 1)).length ≤ 1048576) := Lib.hid (Nat.le_trans (plainTo_len rs u _ (by omega)) HSp.out)
      have HN : Hid (plainTo rs u (k + 1) = l ++ List.replicate ((rs[k]).2 / u) (byteOf (rs[k]).1)) := Lib.hid (by
        rw [HL.out, ← rs_at hlt]; rfl)
      have hy : (rs[k]).2 ≤ 1048576 := HM.out _ (List.getElem_mem hlt)
      have hx := (HGd.out.mem _ (List.getElem_mem hlt)).1
      have hup := HU.out _ (List.getElem_mem hlt)
      generalize (rs[k]).2 = y at d2 HN hy
      generalize (rs[k]).1 = x at d1 HN hx
      obtain ⟨n, hn, hv⟩ := div_facts y u hy hup
      have v5 : n ≤ y := hv.2.2.2.2
      have HVs := Lib.hid hv
      clear hv
      rw [hn] at HN
      clear hn
      have i0 : (0 : Int) ≤ (k : Int) := by omega
      have i1 : (k : Int) < (rs.length : Int) := by omega
      have e2 : k * 2 = 2 * k := Nat.mul_comm _ _
      rw [← e2] at d1 d2
      clear e2
      have HMn : Hid (∀ (c : UInt8) w, Calls Tryd.prog 63 #[.string ⟨#[c]⟩, .int .i64 (n : Int)] w fun e w' => e = .returned (.string ⟨(reps n c).toArray⟩) ∧ w' = w) := Lib.hid fun c w => by
        have := sMany_any ⟨#[c]⟩ c (n : Int) w rfl (by omega)
        rwa [Int.toNat_natCast] at this
      have p1 : ∀ c : UInt8, ¬ 9223372036854775807 < l.length + (reps n c).length := fun c => by rw [reps, List.length_replicate]; omega
      have hsz : ∀ c : UInt8, ((⟨(reps n c).toArray⟩ : ByteArray)).size = n := fun c => rep_size' n c
      rcases (show x = 0 ∨ x = 1 by omega) with e | e
      · subst e
        have HV : Hid (((⟨l.toArray⟩ : ByteArray) ++ ⟨(reps n 48).toArray⟩) = ⟨(plainTo rs u (k + 1)).toArray⟩) := Lib.hid (by rw [HN.out, catB]; simp [bl]; rfl)
        have HM0 := Lib.hid (HMn.out 48)
        have p2 := p1 48
        clear p1 HMn hx hsz
        obtain ⟨v1, v2, v3, v4, _⟩ := HVs.out
        go_wp2
        go_quiet ((go_at_call 63; exact Calls.quiet_of_same (HM0.out _)))
        clear v1 v2 v3 v4
        go_wp2
        go_roundw
        case rel => exact ⟨k + 1, plainTo rs u (k + 1), by go_num, by omega, by rw [HV.out], HLe.out, Lib.hid rfl, Lib.hid (HB.out.trans ⟨rfl, rfl, rfl, Nat.le_refl _, fun _ _ => rfl⟩)⟩
        case measure => simp [intOf]; omega
      · subst e
        have HV : Hid (((⟨l.toArray⟩ : ByteArray) ++ ⟨(reps n 49).toArray⟩) = ⟨(plainTo rs u (k + 1)).toArray⟩) := Lib.hid (by rw [HN.out, catB]; simp [bl]; rfl)
        have HM0 := Lib.hid (HMn.out 49)
        have p2 := p1 49
        clear p1 HMn hx hsz
        obtain ⟨v1, v2, v3, v4, _⟩ := HVs.out
        go_wp2
        go_quiet ((go_at_call 63; exact Calls.quiet_of_same (HM0.out _)))
        clear v1 v2 v3 v4
        go_wp2
        go_roundw
        case rel => exact ⟨k + 1, plainTo rs u (k + 1), by go_num, by omega, by rw [HV.out], HLe.out, Lib.hid rfl, Lib.hid (HB.out.trans ⟨rfl, rfl, rfl, Nat.le_refl _, fun _ _ => rfl⟩)⟩
        case measure => simp [intOf]; omega
    · have HE : Hid (plainTo rs u rs.length = l) := Lib.hid (by rw [HL.out]; congr 1; omega)
      go_wp2
      go_ret
      exact ⟨by first | (rw [HE.out]; rfl) | rw [HE.out], HB1.out.trans (HB.out.mono HB1.out.size)⟩
end Go.Proofs.YtijhfmjkiijhiaaDoor
