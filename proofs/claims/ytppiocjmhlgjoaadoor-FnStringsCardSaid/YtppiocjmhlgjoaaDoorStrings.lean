/-
  FnStrings at the commit in COMMIT: for every code the law returns true and its argument reads as before: FormatInt, ParseInt and AppendChecksum of the program answer as the model's, ParseInt reads what FormatInt wrote, VerifyChecksum opens what AppendChecksum sealed and refuses it with one byte changed. No condition beyond the row's own cells.
-/
import Derived.Test.YtppiocjmhlgjoaaDoorCards
import Derived.Test.YtppiocjmhlgjoaaDoorTie
import Derived.Test.YtppiocjmhlgjoaaDoorLaid
import Derived.WalkKit
import Derived.ProofKit
import Derived.OpenShut
import Derived.ShutString
import Derived.ChangeOld
import Derived.Below
import Derived.LaidMore
import Derived.Stop.Joined
import Derived.SevenTiedAt
import Derived.Test.YtppiocjmhlgjoaaDoorByteW
import Derived.StillTailTactics
namespace Go.Proofs.YtppiocjmhlgjoaaDoor.fnStrings
open Go.ChangeShapes Go.WideShapes Go.ChangeAt Go.RowKit
open Go.ChangeMaps (open_string shut_string)
set_option linter.unusedVariables false

theorem own : ownKnob Tryd.prog.godebug = none := by kernel_rfl
theorem laidOut : laidOutB Tryd.prog = true := by kernel_rfl

/-- What the walk is told of a slice of integers that came in: nil, or a row of cap cells. -/
def IsRow (k : IntKind) (w : World) (a : Option Addr) (len cap : Nat) (zs : List Int) : Prop :=
  (a = none ∧ len = 0 ∧ cap = 0 ∧ zs = []) ∨
  ∃ x, a = some x ∧ len ≤ cap ∧ cap ≤ maxLen ∧ zs.length = cap ∧ (∀ i, i < zs.length → w.cell? (x.add i) = some (.int k (zs.getD i 0))) ∧ ∀ n ∈ zs, (Lit.int k n).wf = true

theorem codeIn_of_row {w : World} {a : Option Addr} {len cap : Nat} {zs : List Int} (h : IsRow .u8 w a len cap zs) : CodeIn w a len ∧ len ≤ maxLen := by
  rcases h with ⟨rfl, rfl, rfl, rfl⟩ | ⟨x, rfl, hlc, hcm, hz, hcell, hwz⟩
  · exact ⟨fun h => by omega, by unfold maxLen; omega⟩
  · refine ⟨fun h0 => ?_, by omega⟩
    obtain ⟨b, off, spot⟩ := x
    have hc0 := hcell 0 (by omega)
    have hspot : spot = none := by simpa [Addr.add] using World.cell?_spot hc0
    subst hspot
    rw [Addr.add_lit] at hc0
    refine ⟨b, off, rfl, World.block_lt_of_cell? _ _ hc0, fun j hj => ?_⟩
    have hc := hcell j (by omega)
    rw [Addr.add_lit] at hc
    have hw := hwz (zs.getD j 0) (by rw [List.getD_eq_getElem?_getD, List.getElem?_eq_getElem (by omega)]; exact List.getElem_mem _)
    have hr : 0 ≤ zs.getD j 0 ∧ zs.getD j 0 ≤ 255 := bounds_u8 hw
    exact ⟨_, hr.1, hr.2, hc⟩

set_option maxHeartbeats 4000000 in
theorem walk (a0 : Option Addr) (len0 cap0 : Nat) (z0 : List Int) (w : World) (w0 : IsRow .u8 w a0 len0 cap0 z0) (hL : laidMetH Tryd.prog Rows.fnStringsRow.laid w) :
    Calls Tryd.prog 3 #[.slice a0 len0 cap0] w fun e w' => e = .returned (.bool true) ∧ Below w.heap.size w w' := by
  have hL' : laidMet Tryd.prog Rows.fnStringsRow.laid w := by rw [← MakeChecks.laidMetH_plain _ _ _ (by kernel_rfl)]; exact hL
  have hPow : Pow w := pow_of (rest := [_, _]) hL'
  have HP := Lib.hid hPow
  have HS := Lib.hid (sents_of hL')
  clear hL hL' hPow
  obtain ⟨hci, hlm⟩ := codeIn_of_row w0
  have CI := Lib.hid hci
  clear w0 hci
  by_cases hbig : len0 ≤ 65536
  · go_enter Tryd.func3, Tryd.ntmps3
    go_wp2_with fail
    refine (big_no a0 len0 cap0 hbig w).mono ?_
    rintro e w' ⟨rfl, hw⟩; subst hw
    go_wp2_with fail
    refine (drawFormat a0 len0 cap0 _ CI.out hbig).mono ?_
    rintro e W1 ⟨n, rfl, hn0, hn1, hb⟩
    have B1 := Lib.hid hb
    obtain ⟨s, ok, hs20, hsok, hsp, him⟩ := fmt_both n
    have SP1 := Lib.hid hsp
    have IM1 := Lib.hid him
    have OK1 := Lib.hid hsok
    clear hb hsp him hsok
    go_wp2_with fail
    refine (IM1.out _ (pow_stays HP.out B1.out (Nat.le_refl _))).mono ?_
    rintro e W2 ⟨rfl, hb⟩
    have B2 : Hid (Below w'.heap.size w' W2) := Lib.hid (B1.out.trans (hb.mono B1.out.size))
    clear hb B1
    go_wp2_with fail
    refine (SP1.out _).mono ?_
    rintro e W3 ⟨rfl, hb⟩
    have B3 : Hid (Below w'.heap.size w' W3) := Lib.hid (B2.out.trans (hb.mono B2.out.size))
    clear hb B2
    go_wp2_with fail
    refine (drawParse a0 len0 cap0 _ (CI.out.below B3.out) hbig).mono ?_
    rintro e W4 ⟨t, rfl, ht, hb⟩
    have B4 : Hid (Below w'.heap.size w' W4) := Lib.hid (B3.out.trans (hb.mono B3.out.size))
    obtain ⟨r, hr⟩ := parsed_ex t.data.toList
    obtain ⟨hsp, him⟩ := parse_both t (by omega) r hr
    have SP2 := Lib.hid hsp
    have IM2 := Lib.hid him
    clear hb hsp him hr B3
    generalize r.getD 0 = m at SP2 IM2
    generalize r.isSome = fine at SP2 IM2
    go_wp2_with fail
    refine (IM2.out _ (pow_stays HP.out B4.out (Nat.le_refl _)) (sents_stays HS.out B4.out (Nat.le_refl _))).mono ?_
    rintro e W5 ⟨rfl, hb⟩
    have B5 : Hid (Below w'.heap.size w' W5) := Lib.hid (B4.out.trans (hb.mono B4.out.size))
    clear hb B4
    go_wp2_with fail
    refine (SP2.out _).mono ?_
    rintro e W6 ⟨rfl, hb⟩
    have B6 : Hid (Below w'.heap.size w' W6) := Lib.hid (B5.out.trans (hb.mono B5.out.size))
    clear hb B5
    go_wp2_with fail
    refine (drawSeal a0 len0 cap0 _ (CI.out.below B6.out) hbig).mono ?_
    rintro e W7 ⟨x, rfl, hx, hb⟩
    have B7 : Hid (Below w'.heap.size w' W7) := Lib.hid (B6.out.trans (hb.mono B6.out.size))
    clear hb B6
    by_cases hcan : CanSeal x
    · obtain ⟨hsp, him⟩ := seal_yes x hcan
      obtain ⟨y, hy⟩ : ∃ y : ByteArray, y = ⟨(sealed x.data.toList).toArray⟩ := ⟨_, rfl⟩
      rw [← hy] at hsp him
      have SP3 := Lib.hid hsp
      have IM3 := Lib.hid him
      have HY := Lib.hid hy
      have HCAN := Lib.hid hcan
      clear hsp him hy hcan
      go_wp2_with fail
      refine (IM3.out _ (pow_stays HP.out B7.out (Nat.le_refl _))).mono ?_
      rintro e W8 ⟨rfl, hb⟩
      have B8 : Hid (Below w'.heap.size w' W8) := Lib.hid (B7.out.trans (hb.mono B7.out.size))
      clear hb B7
      go_wp2_with fail
      refine (SP3.out _).mono ?_
      rintro e W9 ⟨rfl, hb⟩
      have B9 : Hid (Below w'.heap.size w' W9) := Lib.hid (B8.out.trans (hb.mono B8.out.size))
      clear hb B8
      obtain ⟨r2, hr2⟩ := parsed_ex s.data.toList
      obtain ⟨_, him⟩ := parse_both s (by omega) r2 hr2
      cases ok
      · have IM4 := Lib.hid him
        clear him hr2 hs20 hn0 hn1 hx ht
        generalize r2.getD 0 = m2 at IM4
        generalize r2.isSome = fine2 at IM4
        go_wp2_with fail
        refine (IM4.out _ (pow_stays HP.out B9.out (Nat.le_refl _)) (sents_stays HS.out B9.out (Nat.le_refl _))).mono ?_
        rintro e W10 ⟨rfl, hb⟩
        have B10 : Hid (Below w'.heap.size w' W10) := Lib.hid (B9.out.trans (hb.mono B9.out.size))
        clear hb B9
        go_wp2_with fail
        refine (ver_back x y HCAN.out HY.out _ (pow_stays HP.out B10.out (Nat.le_refl _))).mono ?_
        rintro e W11 ⟨rfl, hb⟩
        have B11 : Hid (Below w'.heap.size w' W11) := Lib.hid (B10.out.trans (hb.mono B10.out.size))
        clear hb B10
        obtain ⟨cap, W12, hcv, hby, hb, hlt⟩ := conv_string y W11
        have B12 : Hid (Below w'.heap.size w' W12) := Lib.hid (B11.out.trans (hb.mono B11.out.size))
        have HBY := Lib.hid hby
        clear hb hby
        have hyl : y.data.toList = sealed x.data.toList := by rw [HY.out]
        have hyn : y.data.toList.length = y.size := by simp
        have hpos : 0 < y.size := by rw [← hyn, hyl, sealed_len]; omega
        have hymax : y.size ≤ 4000 := by rw [← hyn, hyl]; exact HCAN.out.2.2
        have HYL := Lib.hid hyl
        have HYN := Lib.hid hyn
        clear hyl hyn
        obtain ⟨v9, h9, c9⟩ := at_at 9 (by omega) a0 len0 cap0 W12 (CI.out.below B12.out) hbig
        obtain ⟨v10, h10, c10⟩ := at_at 10 (by omega) a0 len0 cap0 W12 (CI.out.below B12.out) hbig
        have C9 := Lib.hid c9
        have C10 := Lib.hid c10
        clear c9 c10
        obtain ⟨k, hk⟩ : ∃ k : Nat, v9 % y.size = k := ⟨_, rfl⟩
        have hkl : k < y.size := by rw [← hk]; exact Nat.mod_lt _ hpos
        have hkI : (v9 : Int) % (y.size : Int) = (k : Int) := by rw [← hk]; simp
        clear hk
        go_wp2_with fail
        refine (C9.out _ rfl).mono ?_
        rintro e wk ⟨rfl, hw⟩; subst hw
        go_wp2_with fail
        have hcell := HBY.out.1 k (by have := HYN.out; omega)
        have hfroz := HBY.out.2 k (by have := HYN.out; omega)
        have i0 : (0 : Int) ≤ (k : Int) := by omega
        have i1 : (k : Int) < (y.size : Int) := by omega
        have hd : y.data.toList[k]'(by have := HYN.out; omega) = y.data.toList[k]'(by have := HYN.out; omega) := rfl
        generalize hd1 : y.data.toList[k]'(by have := HYN.out; omega) = d at hcell
        have HD := Lib.hid hd1
        clear hd hd1
        have d255 : (d.toNat : Int) < 256 := by have := d.toNat_lt; omega
        set_option maxRecDepth 20000 in
        go_still_tail 13, (by kernel_rfl)
        set_option maxRecDepth 20000 in
        still_call (C10.out _ rfl)
        set_option maxRecDepth 20000 in
        repeat still_step
        refine wpStill_nil ?_
        change wpList _ _ _ _ _ wk.drew
        have hfz2 : wk.drew.frozen? ⟨W11.heap.size, k, none⟩ = false := hfroz
        have hc2 : wk.drew.cell? ⟨W11.heap.size, k, none⟩ = some (.int .u8 (d.toNat : Int)) := hcell
        have HW2 : Hid (Bytes wk.drew W11.heap.size y.data.toList ∧ Below w'.heap.size w' wk.drew) := Lib.hid ⟨HBY.out, B12.out.trans ⟨rfl, rfl, rfl, Nat.le_refl _, fun _ _ => rfl⟩⟩
        clear hcell hfroz hcv hlt
        generalize wk.drew = wd at hfz2 hc2 HW2
        obtain ⟨c, hxor, hne⟩ := xor_byte d v10
        have HV := Lib.hid (fun w hP => ver_changed x y.data.toList k c HCAN.out HYL.out (by have := HYN.out; omega) (by rw [HD.out]; exact hne) w hP)
        have hback := conv_back (wd.setCell ⟨W11.heap.size, k, none⟩ (.int .u8 (c.toNat : Int))) W11.heap.size cap y.size (y.data.toList.set k c) (by simp) (bytes_set HW2.out.1 c)
        have HB3 : Hid (Below w'.heap.size w' (wd.setCell ⟨W11.heap.size, k, none⟩ (.int .u8 (c.toNat : Int)))) := Lib.hid (HW2.out.2.setCell (p := ⟨W11.heap.size, k, none⟩) B11.out.size _)
        generalize (⟨(y.data.toList.set k c).toArray⟩ : ByteArray) = yc at HV hback
        clear hne d255
        go_wp2_with fail
        refine (HV.out _ (pow_stays HP.out HB3.out (Nat.le_refl _))).mono ?_
        rintro e W13 ⟨rfl, hb⟩
        have BZ : Hid (Below w'.heap.size w' W13) := Lib.hid (HB3.out.trans (hb.mono HB3.out.size))
        clear hb hback hxor
        go_wp2
        go_ret
        exact ⟨rfl, BZ.out⟩
      · obtain rfl : r2 = some n := hr2.same (b := some n) (OK1.out rfl)
        have IM4 := Lib.hid him
        clear him hr2 hs20 hx ht
        simp only [Option.getD_some, Option.isSome_some] at IM4
        go_wp2_with fail
        refine (IM4.out _ (pow_stays HP.out B9.out (Nat.le_refl _)) (sents_stays HS.out B9.out (Nat.le_refl _))).mono ?_
        rintro e W10 ⟨rfl, hb⟩
        have B10 : Hid (Below w'.heap.size w' W10) := Lib.hid (B9.out.trans (hb.mono B9.out.size))
        clear hb B9
        clear hn0 hn1
        go_wp2_with fail
        refine (ver_back x y HCAN.out HY.out _ (pow_stays HP.out B10.out (Nat.le_refl _))).mono ?_
        rintro e W11 ⟨rfl, hb⟩
        have B11 : Hid (Below w'.heap.size w' W11) := Lib.hid (B10.out.trans (hb.mono B10.out.size))
        clear hb B10
        obtain ⟨cap, W12, hcv, hby, hb, hlt⟩ := conv_string y W11
        have B12 : Hid (Below w'.heap.size w' W12) := Lib.hid (B11.out.trans (hb.mono B11.out.size))
        have HBY := Lib.hid hby
        clear hb hby
        have hyl : y.data.toList = sealed x.data.toList := by rw [HY.out]
        have hyn : y.data.toList.length = y.size := by simp
        have hpos : 0 < y.size := by rw [← hyn, hyl, sealed_len]; omega
        have hymax : y.size ≤ 4000 := by rw [← hyn, hyl]; exact HCAN.out.2.2
        have HYL := Lib.hid hyl
        have HYN := Lib.hid hyn
        clear hyl hyn
        obtain ⟨v9, h9, c9⟩ := at_at 9 (by omega) a0 len0 cap0 W12 (CI.out.below B12.out) hbig
        obtain ⟨v10, h10, c10⟩ := at_at 10 (by omega) a0 len0 cap0 W12 (CI.out.below B12.out) hbig
        have C9 := Lib.hid c9
        have C10 := Lib.hid c10
        clear c9 c10
        obtain ⟨k, hk⟩ : ∃ k : Nat, v9 % y.size = k := ⟨_, rfl⟩
        have hkl : k < y.size := by rw [← hk]; exact Nat.mod_lt _ hpos
        have hkI : (v9 : Int) % (y.size : Int) = (k : Int) := by rw [← hk]; simp
        clear hk
        go_wp2_with fail
        refine (C9.out _ rfl).mono ?_
        rintro e wk ⟨rfl, hw⟩; subst hw
        go_wp2_with fail
        have hcell := HBY.out.1 k (by have := HYN.out; omega)
        have hfroz := HBY.out.2 k (by have := HYN.out; omega)
        have i0 : (0 : Int) ≤ (k : Int) := by omega
        have i1 : (k : Int) < (y.size : Int) := by omega
        have hd : y.data.toList[k]'(by have := HYN.out; omega) = y.data.toList[k]'(by have := HYN.out; omega) := rfl
        generalize hd1 : y.data.toList[k]'(by have := HYN.out; omega) = d at hcell
        have HD := Lib.hid hd1
        clear hd hd1
        have d255 : (d.toNat : Int) < 256 := by have := d.toNat_lt; omega
        set_option maxRecDepth 20000 in
        go_still_tail 13, (by kernel_rfl)
        set_option maxRecDepth 20000 in
        still_call (C10.out _ rfl)
        set_option maxRecDepth 20000 in
        repeat still_step
        refine wpStill_nil ?_
        change wpList _ _ _ _ _ wk.drew
        have hfz2 : wk.drew.frozen? ⟨W11.heap.size, k, none⟩ = false := hfroz
        have hc2 : wk.drew.cell? ⟨W11.heap.size, k, none⟩ = some (.int .u8 (d.toNat : Int)) := hcell
        have HW2 : Hid (Bytes wk.drew W11.heap.size y.data.toList ∧ Below w'.heap.size w' wk.drew) := Lib.hid ⟨HBY.out, B12.out.trans ⟨rfl, rfl, rfl, Nat.le_refl _, fun _ _ => rfl⟩⟩
        clear hcell hfroz hcv hlt
        generalize wk.drew = wd at hfz2 hc2 HW2
        obtain ⟨c, hxor, hne⟩ := xor_byte d v10
        have HV := Lib.hid (fun w hP => ver_changed x y.data.toList k c HCAN.out HYL.out (by have := HYN.out; omega) (by rw [HD.out]; exact hne) w hP)
        have hback := conv_back (wd.setCell ⟨W11.heap.size, k, none⟩ (.int .u8 (c.toNat : Int))) W11.heap.size cap y.size (y.data.toList.set k c) (by simp) (bytes_set HW2.out.1 c)
        have HB3 : Hid (Below w'.heap.size w' (wd.setCell ⟨W11.heap.size, k, none⟩ (.int .u8 (c.toNat : Int)))) := Lib.hid (HW2.out.2.setCell (p := ⟨W11.heap.size, k, none⟩) B11.out.size _)
        generalize (⟨(y.data.toList.set k c).toArray⟩ : ByteArray) = yc at HV hback
        clear hne d255
        go_wp2_with fail
        refine (HV.out _ (pow_stays HP.out HB3.out (Nat.le_refl _))).mono ?_
        rintro e W13 ⟨rfl, hb⟩
        have BZ : Hid (Below w'.heap.size w' W13) := Lib.hid (HB3.out.trans (hb.mono HB3.out.size))
        clear hb hback hxor
        go_wp2
        go_ret
        exact ⟨rfl, BZ.out⟩
    · obtain ⟨hsp, him⟩ := seal_no x (by unfold maxLen; omega) hcan
      have SP3 := Lib.hid hsp
      have IM3 := Lib.hid him
      clear hsp him hcan
      go_wp2_with fail
      refine (IM3.out _ (pow_stays HP.out B7.out (Nat.le_refl _))).mono ?_
      rintro e W8 ⟨rfl, hb⟩
      have B8 : Hid (Below w'.heap.size w' W8) := Lib.hid (B7.out.trans (hb.mono B7.out.size))
      clear hb B7
      go_wp2_with fail
      refine (SP3.out _).mono ?_
      rintro e W9 ⟨rfl, hb⟩
      have B9 : Hid (Below w'.heap.size w' W9) := Lib.hid (B8.out.trans (hb.mono B8.out.size))
      clear hb B8
      obtain ⟨r2, hr2⟩ := parsed_ex s.data.toList
      obtain ⟨_, him⟩ := parse_both s (by omega) r2 hr2
      cases ok
      · have IM4 := Lib.hid him
        clear him hr2 hs20 hn0 hn1 hx ht
        generalize r2.getD 0 = m2 at IM4
        generalize r2.isSome = fine2 at IM4
        go_wp2_with fail
        refine (IM4.out _ (pow_stays HP.out B9.out (Nat.le_refl _)) (sents_stays HS.out B9.out (Nat.le_refl _))).mono ?_
        rintro e W10 ⟨rfl, hb⟩
        have B10 : Hid (Below w'.heap.size w' W10) := Lib.hid (B9.out.trans (hb.mono B9.out.size))
        clear hb B9
        go_wp2
        go_ret
        exact ⟨rfl, B10.out⟩
      · obtain rfl : r2 = some n := hr2.same (b := some n) (OK1.out rfl)
        have IM4 := Lib.hid him
        clear him hr2 hs20 hx ht
        simp only [Option.getD_some, Option.isSome_some] at IM4
        go_wp2_with fail
        refine (IM4.out _ (pow_stays HP.out B9.out (Nat.le_refl _)) (sents_stays HS.out B9.out (Nat.le_refl _))).mono ?_
        rintro e W10 ⟨rfl, hb⟩
        have B10 : Hid (Below w'.heap.size w' W10) := Lib.hid (B9.out.trans (hb.mono B9.out.size))
        clear hb B9
        go_wp2
        go_ret
        exact ⟨rfl, B10.out⟩
  · go_enter Tryd.func3, Tryd.ntmps3
    go_wp2_with fail
    refine (big_yes a0 len0 cap0 (by omega) hlm w).mono ?_
    rintro e w' ⟨rfl, rfl⟩
    go_wp2
    go_ret
    exact ⟨rfl, Below.refl _ _⟩

/-- The door's own heap meets the condition. -/
theorem door_met (os : Os) (args : Array Value) : laidMetH Tryd.prog Rows.fnStringsRow.laid ((World.doorLaid Tryd.prog 4000 os).forCall (fun _ _ => 0) ⟨#[], args, []⟩).memory :=
  laidMetH_of_parts3 (fuel := 8) (laidMet_of_run' 8 (by kernel_rfl) (by kernel_rfl)) (by kernel_rfl) (by kernel_rfl)

set_option maxRecDepth 100000 in
theorem lifted (os : Os) (started : os.Started) (H : Type) (enc : TypeId × Value → H) :
    ReturnsInHanded {} Tryd.checked os 3 .any (fun w args => (Rows.fnStringsSpec.pre enc Tryd.prog Tryd.f3 [] false w args ∧ laidMetH Tryd.prog Rows.fnStringsRow.laid w) ∧ sizedMet enc Tryd.prog Tryd.f3 (OpenSpec.ofChange Rows.fnStringsSpec) false w args)
      (Rows.fnStringsSpec.post enc Tryd.prog Tryd.f3 false true false false) := by
  refine returnsInHanded_of_change_and (C := Tryd.checked) (X := fun w _ => laidMetH Tryd.prog Rows.fnStringsRow.laid w) (fun _ _ _ hh h => h.of_heap hh) own started (by kernel_rfl) Tryd.func3
    (ChangeSpec.witness_shaped (enc := enc) (C := Tryd.checked) (os := os) (X := fun w _ => laidMetH Tryd.prog Rows.fnStringsRow.laid w) false (World.doorLaid Tryd.prog 4000 os) #[.slice none 0 0] 8 rfl (World.shaped_of_RefB (by kernel_rfl) (by kernel_rfl)) (by kernel_rfl) (by kernel_rfl) (by kernel_rfl) (door_met os _)) ?_
  intro W base args ds gs before hval0 hW _ hsz hL _
  have hval : ∀ (j : Nat) t v, Tryd.f3.params[j]? = some t → args[j]? = some v → Value.okWide Tryd.prog W .any base t v := hval0
  have hW' := hW
  obtain ⟨p, q, hA0, hV, rfl, hfz, hnd⟩ := hW
  have hA : DataW.TrodAll enc Tryd.prog W 0 (fun _ => true) true Tryd.f3.params.toList args.toList ds p := hA0
  rw [Tryd.params3] at hA hval
  obtain ⟨v0, vs0, d0, ds0, p0, q0, hargs, rfl, rfl, h0, r0⟩ := trodAll_cons hA
  obtain ⟨rfl, rfl, rfl⟩ := trodAll_nil r0
  obtain rfl : args = #[v0] := by cases args; simp_all
  obtain ⟨rfl, rfl⟩ := trodVars_none hV
  obtain ⟨a0, len0, cap0, rfl⟩ := okWide_slice Tryd.underlying22 (hval 0 22 v0 rfl rfl)
  have k0 := h0
  have lt0 : ∀ x ∈ p0, x.block < W.heap.size := by obtain ⟨m, hm⟩ := k0; exact DataW.trod_lt m _ _ _ hm
  obtain ⟨z0, w0⟩ : ∃ zs, IsRow .u8 W a0 len0 cap0 zs := by
    obtain ⟨fuel, hf⟩ := h0
    rcases open_ints Tryd.underlying22 Tryd.underlying5 (by kernel_rfl) hf with ⟨hcs, _⟩ | ⟨x, l, c, zs, hcs, _, hl, hm, hz, _, hcell, hwz⟩
    · simp [Value.cells] at hcs
      obtain ⟨rfl, rfl, rfl⟩ := hcs
      exact ⟨[], .inl ⟨rfl, rfl, rfl, rfl⟩⟩
    · simp [Value.cells] at hcs
      obtain ⟨rfl, rfl, rfl⟩ := hcs
      exact ⟨zs, .inr ⟨_, rfl, hl, hm, by simpa using hz, hcell, hwz⟩⟩
  clear hA0 hval0
  refine (walk a0 len0 cap0 z0 W w0 hL).mono fun e W' ⟨he, bel⟩ => ?_
  subst he
  exact ⟨_, rfl, _, _, _, [], _, [], hW', trodAll_mk1 (shut_bool Tryd.underlying4 _), (trodAll_cons_mk (Below.trod laidOut (by kernel_rfl) (of_decide_eq_true (by kernel_rfl)) k0 bel lt0) trodAll_mk0), rfl, bel.frame _, fun h => by cases h⟩

theorem over : Rows.fnStringsRow.holds Tryd.pinned (OpenSpec.ofChange Rows.fnStringsSpec) :=
  OpenClaim.holds_of_wide 3 Tryd.f3 rfl rfl rfl rfl rfl rfl rfl ⟨rfl, rfl, rfl, rfl, rfl⟩ rfl rfl rfl rfl rfl (by kernel_rfl) Tryd.func3 (by kernel_rfl)
    (of_decide_eq_true (by kernel_rfl)) (by unfold Func.isWrapper; first | (rw [if_pos (by decide +kernel)]; kernel_rfl) | (rw [if_neg (by decide +kernel)]; exact ⟨rfl, rfl⟩))
    (fun os started H enc _ => lifted os started H enc)

theorem plain (f : FuncId) (fn : Func) (hf : Tryd.pinned.checked.prog.funcNamed "loop.example/g01248/laws.FnStrings" = some f) (hfn : Tryd.pinned.checked.prog.funcs[f]? = some fn) :
    true = Tryd.pinned.checked.prog.looks [] ∧ ∀ (j : Nat) t, fn.params[j]? = some t → Tryd.pinned.checked.prog.wantsStandIn t = false := by
  obtain rfl : f = 3 := Option.some.inj ((show Tryd.prog.funcNamed "loop.example/g01248/laws.FnStrings" = some 3 by kernel_rfl).symm.trans hf) |>.symm
  obtain rfl : fn = Tryd.f3 := (Option.some.inj (Tryd.func3.symm.trans hfn)).symm
  refine ⟨by kernel_rfl, fun j t ht => ?_⟩
  rw [Tryd.params3] at ht
  have hm : t ∈ [22] := by simpa using Array.mem_of_getElem? ht
  have hall : ([22].all fun u => !Tryd.prog.wantsStandIn u) = true := by kernel_rfl
  exact (show Tryd.prog.wantsStandIn t = false by simpa using List.all_eq_true.1 hall t hm)

/-- The tied card. -/
theorem proved : Rows.FnStringsCardSaid :=
  Claim7.holds_tied_plain_at .later [] _ _ _ _ over (fun _ h => by cases h) (by kernel_rfl) (fun _ h => by cases h) fnStrings_row_tie rfl ⟨rfl, rfl⟩ (by kernel_rfl) rfl plain (by kernel_rfl)
end Go.Proofs.YtppiocjmhlgjoaaDoor.fnStrings
