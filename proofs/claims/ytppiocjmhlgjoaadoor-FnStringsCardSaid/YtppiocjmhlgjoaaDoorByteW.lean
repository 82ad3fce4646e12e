/-
  []byte(text), a byte of a code, string of the bytes with one changed: the equations of FnStrings's last steps. Used by the claim on FnStrings.
-/
import Derived.Test.YtppiocjmhlgjoaaDoorBothW
import Derived.Laws.BitsAllLaws
namespace Go.Proofs.YtppiocjmhlgjoaaDoor
open Go.RowKit
set_option linter.unusedVariables false

/-- The bytes of a text, in a block. -/
def Bytes (W : World) (g : Nat) (l : List UInt8) : Prop := (∀ j (h : j < l.length), W.cell? ⟨g, j, none⟩ = some (.int .u8 (l[j].toNat : Int))) ∧ ∀ j, j < l.length → W.frozen? ⟨g, j, none⟩ = false

theorem conv_string (y : ByteArray) (w : World) : ∃ cap W, (convert 9 22 (.string y)).run Tryd.prog w = .ok (.slice (some ⟨w.heap.size, 0, none⟩) y.size cap) W ∧ Bytes W w.heap.size y.data.toList ∧ Below w.heap.size w W ∧ w.heap.size < W.heap.size := by
  refine ⟨_, _, run_bytes_of_string w 9 22 5 y Tryd.underlying9 Tryd.underlying22 Tryd.underlying5, ⟨fun j h => ?_, fun j h => ?_⟩, ?_, ?_⟩
  · have hj : j < y.data.size := by simpa using h
    rw [show w.heap.size = w.drew.heap.size from rfl, World.cell?_alloc_mark, bytesRow_at y _ j hj]
    simp
  · have hj : j < y.data.size := by simpa using h
    rw [show w.heap.size = w.drew.heap.size from rfl, World.frozen?_alloc_mark]
    have : j < (bytesRow y (grownCap w y.size 0 5)).size := (Array.getElem?_eq_some_iff.1 (bytesRow_at y _ j hj)).1
    simp; omega
  · exact (show Below w.heap.size w w.drew from ⟨rfl, rfl, rfl, Nat.le_refl _, fun _ _ => rfl⟩).trans ((Below.refl w.heap.size w.drew).alloc (Nat.le_refl _) _)
  · show w.heap.size < (w.heap.push _).size
    simp

theorem conv_back (W : World) (g cap n : Nat) (l : List UInt8) (hn : l.length = n) (h : ∀ j (h : j < l.length), W.cell? ⟨g, j, none⟩ = some (.int .u8 (l[j].toNat : Int))) :
    (convert 22 9 (.slice (some ⟨g, 0, none⟩) n cap)).run Tryd.prog W = .ok (.string ⟨l.toArray⟩) W := by
  subst hn
  exact run_convert_bytes_back (P := Tryd.prog) W 22 9 5 ⟨g, 0, none⟩ cap l Tryd.underlying22 Tryd.underlying5 Tryd.underlying9 (fun j hj => by
    rw [Addr.add_lit, Nat.zero_add]; exact h j hj)

theorem at_at (i : Nat) (hi : i ≤ 100) (a : Option Addr) (len cap : Nat) (w : World) (h : CodeIn w a len) (hl : len ≤ 65536) : ∃ v : Nat, v ≤ 255 ∧ ∀ W : World, W.heap = w.heap → Calls Tryd.prog 19 #[.slice a len cap, .int .i64 i] W fun e w' => e = .returned (.int .i64 v) ∧ w' = W := by
  by_cases hlt : i < len
  · obtain ⟨b, o, rfl, hb, hc⟩ := h (by omega)
    obtain ⟨v, v0, v1, hv⟩ := hc i hlt
    obtain ⟨q, rfl⟩ : ∃ q : Nat, v = (q : Int) := ⟨v.toNat, by omega⟩
    have i0 : (0 : Int) ≤ (i : Int) := by omega
    have i1 : (i : Int) < (len : Int) := by omega
    refine ⟨q, by omega, fun W hW => ?_⟩
    have hv2 : W.cell? ⟨b, o + i, none⟩ = some (.int .u8 q) := by rw [← hv]; unfold World.cell?; rw [hW]
    clear h hc hv hW
    go_enter Tryd.func19, Tryd.ntmps19
    go_wp2
    go_ret
    exact ⟨rfl, rfl⟩
  · have i1 : ¬ (i : Int) < (len : Int) := by omega
    clear h
    refine ⟨(i * 7 + len) % 256, by omega, fun W hW => ?_⟩
    clear hW
    go_enter Tryd.func19, Tryd.ntmps19
    go_wp2
    go_ret
    exact ⟨by show Ending.returned (.int .i64 (((i : Int) * 7 + (len : Int)) % 256)) = _; congr 2, rfl⟩

theorem xor_byte (d : UInt8) (v : Nat) : ∃ c : UInt8, bits .xor .u8 (d.toNat : Int) (1 + (v : Int) % 255) = (c.toNat : Int) ∧ d ≠ c := by
  obtain ⟨m, hm, h1, h2⟩ : ∃ m : Nat, (1 + (v : Int) % 255) = (m : Int) ∧ 1 ≤ m ∧ m < 256 := ⟨1 + v % 255, by simp, by omega, by omega⟩
  have hd := d.toNat_lt
  rw [hm, u8_xor_nat d.toNat m (by omega) h2]
  have hx : d.toNat ^^^ m < 2 ^ 8 := Nat.xor_lt_two_pow (by omega) (by omega)
  refine ⟨UInt8.ofNat (d.toNat ^^^ m), ?_, fun e => ?_⟩
  · rw [UInt8.toNat_ofNat']
    congr 1
    exact (Nat.mod_eq_of_lt hx).symm
  · have h3 : d.toNat = d.toNat ^^^ m := by
      have := congrArg UInt8.toNat e
      rw [UInt8.toNat_ofNat', Nat.mod_eq_of_lt hx] at this
      exact this
    have h4 : d.toNat ^^^ (d.toNat ^^^ m) = m := by rw [← Nat.xor_assoc, Nat.xor_self, Nat.zero_xor]
    rw [← h3, Nat.xor_self] at h4
    omega

/-- The bytes with one changed. -/
theorem bytes_set {W : World} {g k : Nat} {l : List UInt8} (h : Bytes W g l) (c : UInt8) : ∀ j (hj : j < (l.set k c).length), (W.setCell ⟨g, k, none⟩ (.int .u8 (c.toNat : Int))).cell? ⟨g, j, none⟩ = some (.int .u8 ((l.set k c)[j].toNat : Int)) := fun j hj => by
  have hj' : j < l.length := by simpa using hj
  by_cases e : k = j
  · subst e
    rw [World.cell?_setCell_same (h := h.1 k hj')]
    simp
  · rw [List.getElem_set_ne e]
    rw [World.cell?_setCell_other (h := fun q => e (by injection q))]
    exact h.1 j hj'
end Go.Proofs.YtppiocjmhlgjoaaDoor
