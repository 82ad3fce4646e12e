/-
  DecodeSignal of the program: how it ends. Used by the claims on chapter 2.
-/
import Derived.Test.YtomhjfjfmjacfaaIsTableB
import Derived.Test.YtomhjfjfmjacfaaPieceW
import Derived.Test.YtomhjfjfmjacfaaLetterB
namespace Go.Proofs.Ytomhjfjfmjacfaa
open Go.RowKit Go.Maps Go.WideMaps
set_option linter.unusedVariables false

theorem infoByte : (Try.prog.info? 5).map (fun i => (i.zero, i.size, i.bytes)) = some (some (.int .u8 0), 1, 1) := by kernel_rfl
theorem fin_short (r : Bs) : ∀ (ps : List Bs) (cur : Bs) (qs : List Bs), (∀ x ∈ ps, x.length ≤ 5) → fin ps cur r = some qs → ∀ x ∈ qs, x.length ≤ 5 := by
  induction r with
  | nil =>
    intro ps cur qs hp h x hx
    rw [fin_end] at h
    split at h
    · next hc =>
      cases h
      rcases List.mem_append.1 hx with h | h
      · exact hp x h
      · simp at h; subst h
        have := hc.1
        simp only [marksL, Bool.and_eq_true, decide_eq_true_eq] at this
        exact this.1.2
    · cases h
  | cons c r ih =>
    intro ps cur qs hp h
    rw [fin] at h
    split at h
    · exact ih _ _ _ hp h
    · split at h
      · next hc =>
        refine ih _ _ _ (fun x hx => ?_) h
        simp only [Bool.and_eq_true] at hc
        rcases List.mem_append.1 hx with hx | hx
        · rcases List.mem_append.1 hx with hx | hx
          · exact hp x hx
          · simp at hx; subst hx
            have := hc.1.2
            simp only [marksL, Bool.and_eq_true, decide_eq_true_eq] at this
            exact this.1.2
        · split at hx
          · simp at hx; subst hx; simp
          · cases hx
      · cases h
theorem pieces_short {s : Bs} {ps : List Bs} (h : pieces s = some ps) : ∀ x ∈ ps, x.length ≤ 5 := by
  unfold pieces at h
  split at h
  · cases h; intro x hx; cases hx
  · exact fin_short s [] [] ps (fun x hx => by cases hx) h
def bys (m : Bs) : List Value := m.map fun c => Value.int .u8 (c.toNat : Int)
theorem bys_snoc (m : Bs) (c : UInt8) : bys (m ++ [c]) = bys m ++ [.int .u8 (c.toNat : Int)] := by simp [bys]
theorem bys_len (m : Bs) : (bys m).length = m.length := by simp [bys]

def decR (xs : List ByteArray) (s : ByteArray) : ByteArray × Bool := match tableB xs, decL (xs.map bl) (bl s) with
  | true, some m => (ba m, true)
  | _, _ => (⟨#[]⟩, false)
theorem decR_not {xs : List ByteArray} {s : ByteArray} (h : tableB xs = false) : decR xs s = (⟨#[]⟩, false) := by unfold decR; rw [h]
theorem decR_none {xs : List ByteArray} {s : ByteArray} (h : decL (xs.map bl) (bl s) = none) : decR xs s = (⟨#[]⟩, false) := by unfold decR; rw [h]; cases tableB xs <;> rfl
theorem decR_some {xs : List ByteArray} {s : ByteArray} {m : Bs} (h : tableB xs = true) (hd : decL (xs.map bl) (bl s) = some m) : decR xs s = (ba m, true) := by unfold decR; rw [h, hd]
theorem decP_slash (T : List Bs) (r : List Bs) (m : Bs) : (decP T ([47] :: r)).map (m ++ ·) = (decP T r).map ((m ++ [32]) ++ ·) := by
  simp only [decP, if_pos]
  cases decP T r <;> simp
theorem decP_none {T : List Bs} {x : Bs} (hx : x ≠ [47]) (hp : place T x = none) (r : List Bs) : decP T (x :: r) = none := by simp only [decP, if_neg hx, hp]
theorem decP_some {T : List Bs} {x : Bs} {i : Nat} (hx : x ≠ [47]) (hp : place T x = some i) (r : List Bs) (m : Bs) : (decP T (x :: r)).map (m ++ ·) = (decP T r).map ((m ++ [UInt8.ofNat (97 + i)]) ++ ·) := by
  simp only [decP, if_neg hx, hp]
  cases decP T r <;> simp

theorem map_below {w w' : World} {B n : Nat} {D : DataW Unit} (h : w.ownsMap Try.prog 9 (plainElem Try.prog 3) B n D) (hb : Below w.heap.size w w') : w'.ownsMap Try.prog 9 (plainElem Try.prog 3) B n D :=
  h.kept (row := none) ⟨hb.os, hb.tape, hb.output, hb.size, fun i hi _ => hb.block i hi⟩ (by simp)
/-- A map and a row lie in different blocks. -/
theorem map_apart {w : World} {B n : Nat} {D : DataW Unit} {base : Nat} {e : TypeId} {size : Nat} {v : Value} {k : Nat} {xs : List Value} (h : w.ownsMap Try.prog 9 (plainElem Try.prog 3) B n D) (hr : w.ownsRow base e size v k xs) : some B ≠ v.ownBlock := by
  obtain ⟨es, clock, hh, _⟩ := h
  rcases hr.2 with ⟨rfl, _⟩ | ⟨g, cap, cur, rfl, hg, hc, _⟩
  · simp [Value.ownBlock]
  · intro e
    simp [Value.ownBlock] at e
    subst e
    rw [hh] at hc
    cases hc
theorem row_apart5 {w : World} {b1 b2 : Nat} {e1 e2 : TypeId} {s1 s2 : Nat} {v1 v2 : Value} {n1 n2 : Nat} {x1 x2 : List Value} (h1 : w.ownsRow b1 e1 s1 v1 n1 x1) (h2 : w.ownsRow b2 e2 s2 v2 n2 x2) (hne : e1 ≠ e2) : v1.ownBlock = none ∨ v1.ownBlock ≠ v2.ownBlock := by
  rcases h1.2 with ⟨rfl, _⟩ | ⟨g, cap, cur, rfl, hg, hh, _⟩
  · left; simp [Value.ownBlock]
  · rcases h2.2 with ⟨rfl, _⟩ | ⟨g2, cap2, cur2, rfl, hg2, hh2, _⟩
    · right; simp [Value.ownBlock]
    · right
      intro e
      simp [Value.ownBlock] at e
      subst e
      rw [hh] at hh2
      have := Option.some.inj hh2
      injection this with _ h3 _
      exact hne h3
theorem conv_bytes (W : World) (g cap : Nat) (m : Bs) {base : Nat} (h : W.ownsRow base 5 1 (.slice (some ⟨g, 0, none⟩) m.length cap) m.length (bys m)) :
    (convert 61 9 (.slice (some ⟨g, 0, none⟩) m.length cap)).run Try.prog W = .ok (.string (ba m)) W := by
  refine run_convert_bytes_back (P := Try.prog) W 61 9 5 ⟨g, 0, none⟩ cap m Try.underlying61 Try.underlying5 Try.underlying9 (fun j hj => ?_)
  exact h.cells (g := g) rfl j _ (by simp [bys, hj])

end Go.Proofs.Ytomhjfjfmjacfaa
