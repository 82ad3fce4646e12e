/-
  Contracts of ParseInt of the program. Used by the claims on ParseInt and FnStrings.
-/
import Derived.Test.YtppiocjmhlgjoaaDoorFmtW
import Derived.Test.YtppiocjmhlgjoaaDoorIntL
import Derived.LoopTactic
import Derived.Lib.AtoiErrMem
namespace Go.Proofs.YtppiocjmhlgjoaaDoor
open Go.RowKit Go.Sort

/-- strconv.Atoi where it reads a number. -/
theorem atoi_ok (s : ByteArray) (hs : s.size ≤ 1048576) (v : Int) (h : Lib.atoiAll s.data.toList = .ok v) (w : World) :
    Calls Tryd.prog 28 #[.string s] w fun e w' => e = .returned (.tuple #[.int .i64 v, .nilIface]) ∧ Below w.heap.size w w' :=
  (Tryd.strconv_Atoi_ok s (by omega) v h w).mono fun e w' ⟨he, hw⟩ => ⟨he, by
    rcases hw with rfl | ⟨t, rfl⟩
    · exact Below.refl _ _
    · exact Lib.bytesWorld_below _ _ _⟩

/-- How ParseInt answers, for a result 'r' of reading the text. -/
def told (r : Option Int) : Value := .tuple #[.int .i64 (r.getD 0), .bool r.isSome]

theorem impl_same (s : ByteArray) (hs : s.size ≤ 1048576) (v : Int) (h : Lib.atoiAll s.data.toList = .ok v) (h0 : -999999 ≤ v) (h1 : v ≤ 999999) (hq : (⟨(Lib.itoa v).toArray⟩ : ByteArray) = s) (w : World) (hP : Pow w) :
    Calls Tryd.prog 13 #[.string s] w fun e w' => e = .returned (.tuple #[.int .i64 v, .bool true]) ∧ Below w.heap.size w w' := by
  have HP := Lib.hid hP
  have HA := Lib.hid h
  have HV0 := Lib.hid h0
  have HV1 := Lib.hid h1
  have HQ := Lib.hid hq
  clear hP h h0 h1 hq
  go_enter Tryd.func13, Tryd.ntmps13
  go_wp2_with fail
  refine (atoi_ok s hs v HA.out _).mono ?_
  rintro e w1 ⟨rfl, b1⟩
  have B1 := Lib.hid b1
  clear b1
  go_wp2_with fail
  refine (implFormat_yes v HV0.out HV1.out _ (pow_stays HP.out B1.out (Nat.le_refl _))).mono ?_
  rintro e w2 ⟨rfl, b2⟩
  have B2 := Lib.hid (B1.out.trans (b2.mono B1.out.size))
  clear b2 B1
  rw [HQ.out]
  go_wp2
  go_ret2
  exact ⟨rfl, B2.out⟩

theorem str_ne {a b : ByteArray} (h : ¬ a = b) : (a.toList == b.toList) = false := by
  rw [ByteArray.toList_eq, ByteArray.toList_eq]
  exact beq_false_of_ne (fun e => h (ByteArray.ext (Array.toList_inj.1 e)))

theorem impl_other (s : ByteArray) (hs : s.size ≤ 1048576) (v : Int) (h : Lib.atoiAll s.data.toList = .ok v) (h0 : -999999 ≤ v) (h1 : v ≤ 999999) (hq : ¬ (⟨(Lib.itoa v).toArray⟩ : ByteArray) = s) (w : World) (hP : Pow w) :
    Calls Tryd.prog 13 #[.string s] w fun e w' => e = .returned (.tuple #[.int .i64 0, .bool false]) ∧ Below w.heap.size w w' := by
  have HP := Lib.hid hP
  have HA := Lib.hid h
  have HV0 := Lib.hid h0
  have HV1 := Lib.hid h1
  clear hP h h0 h1
  generalize hz : (⟨(Lib.itoa v).toArray⟩ : ByteArray) = z at hq
  have HZ := Lib.hid hz
  have hne := str_ne hq
  clear hz hq
  go_enter Tryd.func13, Tryd.ntmps13
  go_wp2_with fail
  refine (atoi_ok s hs v HA.out _).mono ?_
  rintro e w1 ⟨rfl, b1⟩
  have B1 := Lib.hid b1
  clear b1
  go_wp2_with fail
  refine (implFormat_yes v HV0.out HV1.out _ (pow_stays HP.out B1.out (Nat.le_refl _))).mono ?_
  rintro e w2 ⟨rfl, b2⟩
  have B2 := Lib.hid (B1.out.trans (b2.mono B1.out.size))
  clear b2 B1
  rw [HZ.out]
  go_wp2
  go_ret2
  exact ⟨rfl, B2.out⟩

theorem impl_far (s : ByteArray) (hs : s.size ≤ 1048576) (v : Int) (h : Lib.atoiAll s.data.toList = .ok v) (hv : v < -999999 ∨ 999999 < v) (w : World) :
    Calls Tryd.prog 13 #[.string s] w fun e w' => e = .returned (.tuple #[.int .i64 0, .bool false]) ∧ Below w.heap.size w w' := by
  have HA := Lib.hid h
  have HV := Lib.hid hv
  clear h hv
  go_enter Tryd.func13, Tryd.ntmps13
  go_wp2_with fail
  refine (atoi_ok s hs v HA.out _).mono ?_
  rintro e w1 ⟨rfl, b1⟩
  have B1 := Lib.hid b1
  clear b1
  go_wp2_with fail
  refine (implFormat_no v HV.out _).mono ?_
  rintro e w2 ⟨rfl, b2⟩
  have B2 := Lib.hid (B1.out.trans (b2.mono B1.out.size))
  clear b2 B1
  go_wp2
  go_ret2
  exact ⟨rfl, B2.out⟩

/-- Where strconv.Atoi fails, whatever the number beside its error. -/
theorem impl_err (s : ByteArray) (w : World) (hA : Calls Tryd.prog 28 #[.string s] w fun e w' => ∃ x N, e = .returned (.tuple #[.int .i64 x, .iface 70 (.pointer (some ⟨N, 0, none⟩))]) ∧ Below w.heap.size w w') :
    Calls Tryd.prog 13 #[.string s] w fun e w' => e = .returned (.tuple #[.int .i64 0, .bool false]) ∧ Below w.heap.size w w' := by
  have HA := Lib.hid hA
  clear hA
  go_enter Tryd.func13, Tryd.ntmps13
  go_wp2_with fail
  refine HA.out.mono ?_
  rintro e w1 ⟨x, N, rfl, b1⟩
  have B1 := Lib.hid b1
  clear b1
  go_wp2
  go_ret2
  exact ⟨rfl, B1.out⟩

/-- What the two sentinels hold: interface values. -/
def Sents (w : World) : Prop := ∃ (t0 t1 : TypeId) (p0 p1 : Value), w.cell? ⟨0, 0, none⟩ = some (.iface t0 p0) ∧ w.cell? ⟨1, 0, none⟩ = some (.iface t1 p1)

/-- ████ ParseInt of the program, at every text of at most 2^20 bytes. -/
theorem implParse (s : ByteArray) (hs : s.size ≤ 1048576) (w : World) (hP : Pow w) (hS : Sents w) (r : Option Int) (hr : Parsed s.data.toList r) :
    Calls Tryd.prog 13 #[.string s] w fun e w' => e = .returned (told r) ∧ Below w.heap.size w w' := by
  obtain ⟨t0, t1, p0, p1, c0, c1⟩ := hS
  rcases h : Lib.atoiAll s.data.toList with v | _ | _
  · by_cases hv : InDec v
    · by_cases hq : (⟨(Lib.itoa v).toArray⟩ : ByteArray) = s
      · have hq' : Lib.itoa v = s.data.toList := by rw [← hq]
        have : r = some v := hr.same (b := some v) ⟨hv, hq'⟩
        subst this
        exact impl_same s hs v h hv.1 hv.2 hq w hP
      · have hq' : ¬ Lib.itoa v = s.data.toList := fun e => hq (by rw [e])
        have : r = none := hr.same (b := none) (fun x hx e => by
          have h2 := atoi_itoa x hx
          rw [e, h] at h2
          injection h2 with h2
          subst h2
          exact hq' e)
        subst this
        exact impl_other s hs v h hv.1 hv.2 hq w hP
    · have : r = none := hr.same (b := none) (fun x hx e => by
          have h2 := atoi_itoa x hx
          rw [e, h] at h2
          injection h2 with h2
          subst h2
          exact hv hx)
      subst this
      exact impl_far s hs v h (by unfold InDec at hv; omega) w
  · have : r = none := hr.same (b := none) (fun x hx e => by
          have h2 := atoi_itoa x hx
          rw [e, h] at h2
          cases h2)
    subst this
    refine impl_err s w ((Tryd.strconv_Atoi_syntax s (by omega) h _ w c0 (.inr ⟨_, _, rfl⟩)).mono ?_)
    rintro e w' ⟨N, rfl, _, _, hb⟩
    exact ⟨_, N, rfl, hb⟩
  · have : r = none := hr.same (b := none) (fun x hx e => by
          have h2 := atoi_itoa x hx
          rw [e, h] at h2
          cases h2)
    subst this
    refine impl_err s w ((Tryd.strconv_Atoi_range s (by omega) h _ w c1 (.inr ⟨_, _, rfl⟩)).mono ?_)
    rintro e w' ⟨N, rfl, _, _, hb⟩
    exact ⟨_, N, rfl, hb⟩
end Go.Proofs.YtppiocjmhlgjoaaDoor
