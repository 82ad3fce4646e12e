/-
  Contracts of the model's DrawFormatInt, DrawParseInt, DrawAppendChecksum and of the laws' vAt and vBig: what is drawn lies within bounds. Used by the claim on FnStrings.
-/
import Derived.Test.YtppiocjmhlgjoaaDoorDrawW
import Derived.Test.YtppiocjmhlgjoaaDoorFmtW
import Derived.Test.YtppiocjmhlgjoaaDoorIntL
import Derived.Laws.IdiomStrings
import Derived.Deep.OwnRows
import Derived.WalkLawsBesides
namespace Go.Proofs.YtppiocjmhlgjoaaDoor
open Go.RowKit
set_option linter.unusedVariables false

/-- A code that came in. -/
def CodeIn (w : World) (a : Option Addr) (len : Nat) : Prop := 0 < len → ∃ b o, a = some ⟨b, o, none⟩ ∧ b < w.heap.size ∧ ∀ j, j < len → ∃ v : Int, 0 ≤ v ∧ v ≤ 255 ∧ w.cell? ⟨b, o + j, none⟩ = some (.int .u8 v)
theorem CodeIn.below {w w' : World} {a : Option Addr} {len : Nat} (h : CodeIn w a len) (hb : Below w.heap.size w w') : CodeIn w' a len := fun h0 => by
  obtain ⟨b, o, e, hlt, hc⟩ := h h0
  refine ⟨b, o, e, Nat.lt_of_lt_of_le hlt hb.size, fun j hj => ?_⟩
  obtain ⟨v, v0, v1, hv⟩ := hc j hj
  exact ⟨v, v0, v1, (hb.cell (p := ⟨b, o + j, none⟩) hlt).trans hv⟩
theorem cur_new {w : World} {a : Option Addr} {len cap : Nat} (h : CodeIn w a len) (hl : len ≤ 65536) : Cur (w.alloc (.cells #[.slice a len cap, .int .i64 0, .int .u64 0] 37)) w.heap.size 0 := by
  refine ⟨a, len, cap, 0, 0, heap_alloc_new w _, Nat.le_refl _, hl, fun h0 => ?_⟩
  obtain ⟨b, o, e, hlt, hc⟩ := h h0
  refine ⟨b, o, e, hlt, fun j hj => ?_⟩
  obtain ⟨v, v0, v1, hv⟩ := hc j hj
  exact ⟨v, v0, v1, (((Below.refl w.heap.size w).alloc (Nat.le_refl _) _).cell (p := ⟨b, o + j, none⟩) hlt).trans hv⟩
theorem below_new {w w' : World} {o : Obj} (hg : (w.alloc o).grownBy w' (some w.heap.size)) : Below w.heap.size w w' :=
  ((Below.refl w.heap.size w).alloc (Nat.le_refl _) o).grown hg (by simp) (fun k e => by cases e; exact Nat.le_refl _)

/-- A list of numbers in a block. -/
def NumsAt (W : World) (g : Nat) (xs : List Int) : Prop := ∀ (j : Nat) x, xs[j]? = some x → W.cell? ⟨g, j, none⟩ = some (.int .i64 x)
theorem NumsAt.grown {w w' : World} {g cb : Nat} {xs : List Int} (h : NumsAt w g xs) (hg : w.grownBy w' (some cb)) (hne : g ≠ cb) : NumsAt w' g xs := fun j x hx =>
  (World.cell?_of_block (w := w) (a := ⟨g, j, none⟩) (hg.block g (World.block_lt_of_cell? _ _ (h j x hx)) (fun e => hne (by injection e)))).trans (h j x hx)
def DrawnI (cb m d : Nat) (xs : List Int) (w : World) (e : Ending) (w' : World) : Prop := ∃ x, e = .returned (.int .i64 x) ∧ x ∈ xs ∧ Cur w' cb (m + d) ∧ w.grownBy w' (some cb)
theorem among_any (cb m g c n : Nat) (xs : List Int) (w : World) (h : Cur w cb m) (hm : m ≤ 900000000) (hx : NumsAt w g xs) (hne : g ≠ cb) (hn : xs.length = n) (h1 : 1 ≤ n) (h2 : n ≤ 1000000) :
    Calls Tryd.prog 21 #[.pointer (some ⟨cb, 0, none⟩), .slice (some ⟨g, 0, none⟩) n c] w (DrawnI cb m 2 xs w) := by
  have HC := Lib.hid h
  have HX := Lib.hid hx
  have HN := Lib.hid hn
  clear h hx hn
  go_enter Tryd.func21, Tryd.ntmps21
  go_wp2_with fail
  refine (pick_any cb m n _ HC.out hm h1 h2).mono ?_
  rintro e w1 ⟨v, rfl, hv, hc, hg⟩
  have hvl : v < xs.length := by have := HN.out; omega
  have hcell := HX.out.grown hg hne v _ (List.getElem?_eq_getElem hvl)
  have HF : Hid (xs[v] ∈ xs ∧ Cur w1 cb (m + 2) ∧ w.grownBy w1 (some cb)) := ⟨List.getElem_mem hvl, hc, hg⟩
  generalize xs[v] = x at hcell HF
  clear hc hg hvl
  have i0 : (0 : Int) ≤ (v : Int) := by omega
  have i1 : (v : Int) < (n : Int) := by omega
  go_wp2
  go_ret
  exact ⟨x, rfl, HF.out.1, HF.out.2.1, HF.out.2.2⟩

theorem numsAt_new (w : World) (xs : List Int) (t : TypeId) : NumsAt (w.alloc (.cells (xs.map (Value.int .i64)).toArray t)) w.heap.size xs := fun j x hx => by
  rw [World.cell?_alloc_new]
  simp [hx]
theorem among_new (cb m n : Nat) (xs : List Int) (w : World) (h : Cur w cb m) (hm : m ≤ 900000000) (hn : xs.length = n) (h1 : 1 ≤ n) (h2 : n ≤ 1000000) :
    Calls Tryd.prog 21 #[.pointer (some ⟨cb, 0, none⟩), .slice (some ⟨w.heap.size, 0, none⟩) n n] (w.alloc (.cells (xs.map (Value.int .i64)).toArray 3)) (DrawnI cb m 2 xs w) := by
  have hne : w.heap.size ≠ cb := by have := h.lt; omega
  refine (among_any cb m w.heap.size n n xs _ (h.keep ((Below.refl w.heap.size w).alloc (Nat.le_refl _) _) h.lt) hm (numsAt_new w xs 3) hne hn h1 h2).mono ?_
  rintro e w1 ⟨x, rfl, hx, hc, hg⟩
  exact ⟨x, rfl, hx, hc, grown_two (grown_alloc w _ cb) hg⟩

def FormatDraw (w : World) (e : Ending) (w' : World) : Prop := ∃ n : Int, e = .returned (.int .i64 n) ∧ -1000000 ≤ n ∧ n ≤ 1000000 ∧ Below w.heap.size w w'
theorem drawFormat (a : Option Addr) (len cap : Nat) (w : World) (h : CodeIn w a len) (hl : len ≤ 65536) : Calls Tryd.prog 9 #[.slice a len cap] w (FormatDraw w) := by
  have HC := Lib.hid (cur_new (cap := cap) h hl)
  clear h
  go_enter Tryd.func9, Tryd.ntmps9
  go_wp2_with fail
  refine (pick_any w.heap.size 0 1000 _ HC.out (by omega) (by omega) (by omega)).mono ?_
  rintro e w1 ⟨v, rfl, hv, hc, hg⟩
  have HC1 := Lib.hid hc
  have HG1 := Lib.hid hg
  have HV : Hid (∀ x ∈ [0, 1, -1, 10, 999999, -999999, 1000000, -1000000, ((v : Int) - 500)], -1000000 ≤ x ∧ x ≤ 1000000) := by
    show ∀ x ∈ _, _
    intro x hx
    simp only [List.mem_cons, List.not_mem_nil, or_false] at hx
    omega
  clear hc hg
  go_wp2_with fail
  refine (among_new w.heap.size _ 9 [0, 1, -1, 10, 999999, -999999, 1000000, -1000000, ((v : Int) - 500)] _ HC1.out (by omega) rfl (by omega) (by omega)).mono ?_
  rintro e w2 ⟨x, rfl, hm, hc, hg⟩
  have HF : Hid (-1000000 ≤ x ∧ x ≤ 1000000 ∧ Below w.heap.size w w2) := ⟨(HV.out x hm).1, (HV.out x hm).2, below_new (grown_two HG1.out hg)⟩
  clear hm hc hg HV
  go_wp2
  go_ret
  exact ⟨x, rfl, HF.out⟩

theorem itoa_len (n : Int) (h : InDec n) : (Lib.itoa n).length ≤ 7 := by
  unfold InDec at h
  by_cases h0 : n < 0
  · obtain ⟨m, rfl⟩ : ∃ m : Nat, n = -(m : Int) := ⟨n.natAbs, by omega⟩
    rw [itoa_min m (by omega)]
    have := ldec_len6 (u := m) (by omega)
    simp; omega
  · obtain ⟨m, rfl⟩ : ∃ m : Nat, n = (m : Int) := ⟨n.natAbs, by omega⟩
    rw [itoa_pos m]
    have := ldec_len6 (u := m) (by omega)
    omega
def parseTexts : List ByteArray := [⟨#[]⟩, ⟨#[45]⟩, ⟨#[45, 48]⟩, ⟨#[48, 48]⟩, ⟨#[48, 49]⟩, ⟨#[45, 45, 49]⟩, ⟨#[49, 120]⟩, ⟨#[57, 57, 57, 57, 57, 57]⟩, ⟨#[49, 48, 48, 48, 48, 48, 48]⟩, ⟨#[45, 57, 57, 57, 57, 57, 57]⟩, ⟨#[49, 56, 52, 52, 54, 55, 52, 52, 48, 55, 51, 55, 48, 57, 53, 53, 49, 54, 49, 55]⟩]
theorem parseTexts_size : ∀ x ∈ parseTexts, x.size ≤ 20 := by decide
def ParseDraw (w : World) (e : Ending) (w' : World) : Prop := ∃ t : ByteArray, e = .returned (.string t) ∧ t.size ≤ 20 ∧ Below w.heap.size w w'
theorem drawParse (a : Option Addr) (len cap : Nat) (w : World) (h : CodeIn w a len) (hl : len ≤ 65536) : Calls Tryd.prog 12 #[.slice a len cap] w (ParseDraw w) := by
  have HC := Lib.hid (cur_new (cap := cap) h hl)
  clear h
  go_enter Tryd.func12, Tryd.ntmps12
  go_wp2_with fail
  refine (one_any w.heap.size 0 2 _ HC.out (by omega) (by omega) (by omega)).mono ?_
  rintro e w1 ⟨b, rfl, hc, hg⟩
  have HC1 := Lib.hid hc
  have HG1 := Lib.hid hg
  clear hc hg
  cases b
  · go_wp2_with fail
    refine (pick_any w.heap.size _ 2000 _ HC1.out (by omega) (by omega) (by omega)).mono ?_
    rintro e w2 ⟨v, rfl, hv, hc, hg⟩
    have HF : Hid (Below w.heap.size w w2) := Lib.hid (below_new (grown_two HG1.out hg))
    clear hc hg
    go_wp2_with fail
    refine (l1Num_any ((v : Int) - 1000) (by omega) (by omega) _).mono ?_
    rintro e w3 ⟨rfl, k, rfl⟩
    have HL : Hid ((⟨(Lib.itoa ((v : Int) - 1000)).toArray⟩ : ByteArray).size ≤ 20) := by
      show _ ≤ _
      have := itoa_len ((v : Int) - 1000) (by unfold InDec; omega)
      show (Lib.itoa ((v : Int) - 1000)).toArray.size ≤ 20
      simp; omega
    generalize (⟨(Lib.itoa ((v : Int) - 1000)).toArray⟩ : ByteArray) = x at HL
    go_wp2
    go_ret
    exact ⟨x, rfl, HL.out, HF.out.trans ⟨rfl, rfl, rfl, Nat.le_refl _, fun _ _ => rfl⟩⟩
  · go_wp2_with fail
    refine (of_new w.heap.size _ 11 parseTexts _ HC1.out (by omega) rfl (by omega) (by omega)).mono ?_
    rintro e w2 ⟨x, rfl, hm, hc, hg⟩
    have HF : Hid (x.size ≤ 20 ∧ Below w.heap.size w w2) := ⟨parseTexts_size x hm, below_new (grown_two HG1.out hg)⟩
    clear hm hc hg
    go_wp2
    go_ret
    exact ⟨x, rfl, HF.out⟩

theorem infoByte : (Tryd.prog.info? 5).map (fun i => (i.zero, i.size, i.bytes)) = some (some (.int .u8 0), 1, 1) := by kernel_rfl
/-- A text of n zero bytes. -/
def zeros (n : Nat) : ByteArray := ⟨(List.replicate n (0 : UInt8)).toArray⟩
theorem zeros_size (n : Nat) : (zeros n).size = n := by
  show (List.replicate n (0 : UInt8)).toArray.size = n
  simp
theorem make_bytes (n : Nat) (hn : n ≤ 1048576) (x : Int) (hx : x = (n : Int)) (w : World) :
    (Instr.makeSlice 22 (.int .i64 x) (.int .i64 x)).run Tryd.prog w = .ok (.slice (some ⟨w.heap.size, 0, none⟩) n n) (w.alloc (.cells (madeCells #[.int .u8 0] n) 5)) := by
  subst hx
  exact run_make_row' (P := Tryd.prog) 22 5 (.int .u8 0) 1 Tryd.underlying22 infoByte rfl .i64 .i64 n (by omega) (by omega) w
theorem conv_zeros (n : Nat) (w : World) :
    (convert 22 9 (.slice (some ⟨w.heap.size, 0, none⟩) n n)).run Tryd.prog (w.alloc (.cells (madeCells #[.int .u8 0] n) 5)) = .ok (.string (zeros n)) (w.alloc (.cells (madeCells #[.int .u8 0] n) 5)) := by
  have h := run_convert_bytes_back (P := Tryd.prog) (w.alloc (.cells (madeCells #[.int .u8 0] n) 5)) 22 9 5 ⟨w.heap.size, 0, none⟩ n (List.replicate n 0) Tryd.underlying22 Tryd.underlying5 Tryd.underlying9 (fun j hj => by
    rw [Addr.add_lit, Nat.zero_add, (World.rowIs_made w (.int .u8 0) n 5).cell (by simpa using hj)]
    simp)
  rw [List.length_replicate] at h
  exact h
def SealDraw (w : World) (e : Ending) (w' : World) : Prop := ∃ t : ByteArray, e = .returned (.string t) ∧ t.size ≤ 4000 ∧ Below w.heap.size w w'
theorem drawSeal (a : Option Addr) (len cap : Nat) (w : World) (h : CodeIn w a len) (hl : len ≤ 65536) : Calls Tryd.prog 15 #[.slice a len cap] w (SealDraw w) := by
  have HC := Lib.hid (cur_new (cap := cap) h hl)
  clear h
  go_enter Tryd.func15, Tryd.ntmps15
  go_wp2_with fail
  refine (one_any w.heap.size 0 20 _ HC.out (by omega) (by omega) (by omega)).mono ?_
  rintro e w1 ⟨b, rfl, hc, hg⟩
  have HC1 := Lib.hid hc
  have HG1 := Lib.hid hg
  clear hc hg
  cases b
  · go_wp2_with fail
    refine (any1_any w.heap.size _ _ HC1.out (by omega)).mono ?_
    rintro e w2 ⟨x, rfl, hx, hc, hg⟩
    have HF : Hid (Below w.heap.size w w2) := Lib.hid (below_new (grown_two HG1.out hg))
    clear hc hg
    go_wp2
    go_ret
    exact ⟨x, rfl, by omega, HF.out⟩
  · go_wp2_with fail
    refine (pick_any w.heap.size _ 10 _ HC1.out (by omega) (by omega) (by omega)).mono ?_
    rintro e w2 ⟨q, rfl, hq, hc, hg⟩
    have HF : Hid (Below w.heap.size w w2) := Lib.hid (below_new (grown_two HG1.out hg))
    clear hc hg
    have hmk := make_bytes (3990 + q) (by omega) (3990 + (q : Int)) (by omega)
    have hcv := conv_zeros (3990 + q) w2
    go_wp2
    go_ret
    exact ⟨zeros (3990 + q), rfl, by rw [zeros_size]; omega, HF.out.trans ((Below.refl _ _).alloc HF.out.size _)⟩

theorem big_no (a : Option Addr) (len cap : Nat) (h : len ≤ 65536) (w : World) : Calls Tryd.prog 8 #[.slice a len cap] w fun e w' => e = .returned (.bool false) ∧ w' = w := by
  go_enter Tryd.func8, Tryd.ntmps8
  go_wp2
  go_ret
  exact ⟨by show Ending.returned (.bool (decide ((65536 : Int) < (len : Int)))) = _; rw [decide_eq_false (by omega)], rfl⟩
theorem big_yes (a : Option Addr) (len cap : Nat) (h : 65536 < len) (hm : len ≤ maxLen) (w : World) : Calls Tryd.prog 8 #[.slice a len cap] w fun e w' => e = .returned (.bool true) ∧ w' = w := by
  unfold maxLen at hm
  go_enter Tryd.func8, Tryd.ntmps8
  go_wp2
  go_ret
  exact ⟨by show Ending.returned (.bool (decide ((65536 : Int) < (len : Int)))) = _; rw [decide_eq_true (by omega)], rfl⟩

def AtByte (w : World) (e : Ending) (w' : World) : Prop := ∃ v : Nat, e = .returned (.int .i64 v) ∧ v ≤ 255 ∧ w' = w
theorem at_any (i : Nat) (hi : i ≤ 100) (a : Option Addr) (len cap : Nat) (w : World) (h : CodeIn w a len) (hl : len ≤ 65536) : Calls Tryd.prog 19 #[.slice a len cap, .int .i64 i] w (AtByte w) := by
  by_cases hlt : i < len
  · obtain ⟨b, o, rfl, hb, hc⟩ := h (by omega)
    obtain ⟨v, v0, v1, hv⟩ := hc i hlt
    obtain ⟨q, rfl⟩ : ∃ q : Nat, v = (q : Int) := ⟨v.toNat, by omega⟩
    have i0 : (0 : Int) ≤ (i : Int) := by omega
    have i1 : (i : Int) < (len : Int) := by omega
    clear h hc
    go_enter Tryd.func19, Tryd.ntmps19
    go_wp2
    go_ret
    exact ⟨q, rfl, by omega, rfl⟩
  · have i1 : ¬ (i : Int) < (len : Int) := by omega
    clear h
    go_enter Tryd.func19, Tryd.ntmps19
    go_wp2
    go_ret
    exact ⟨(i * 7 + len) % 256, by show Ending.returned (.int .i64 (((i : Int) * 7 + (len : Int)) % 256)) = _; congr 2, by omega, rfl⟩
end Go.Proofs.YtppiocjmhlgjoaaDoor
