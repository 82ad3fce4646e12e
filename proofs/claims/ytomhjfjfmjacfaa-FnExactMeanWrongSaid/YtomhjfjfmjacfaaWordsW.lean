/-
  Contracts of the model's l2Words, l2Signal, IsSignal. Used by the claims on chapter 2.
-/
import Derived.Test.YtomhjfjfmjacfaaTimeW
namespace Go.Proofs.Ytomhjfjfmjacfaa
open Go.RowKit
set_option linter.unusedVariables false

theorem infoSl : (Try.prog.info? 33).map (fun i => (i.zero, i.size, i.bytes)) = some (some (.slice none 0 0), 1, 24) := by kernel_rfl

theorem row_monoW {w : World} {base base' : Nat} {e : TypeId} {size : Nat} {v : Value} {n : Nat} {xs : List Value} (h : w.ownsRow base e size v n xs) (hb : base' ≤ base) : w.ownsRow base' e size v n xs := by
  refine ⟨h.1, ?_⟩
  rcases h.2 with h2 | ⟨g, cap, cur, a, b, c⟩
  · exact .inl h2
  · exact .inr ⟨g, cap, cur, a, Nat.le_trans hb b, c⟩
/-- Rows of different elements lie in different blocks. -/
theorem row_apart {w : World} {b1 b2 : Nat} {e1 e2 : TypeId} {s1 s2 : Nat} {v1 v2 : Value} {n1 n2 : Nat} {x1 x2 : List Value} (h1 : w.ownsRow b1 e1 s1 v1 n1 x1) (h2 : w.ownsRow b2 e2 s2 v2 n2 x2) (hne : e1 ≠ e2) : v1.ownBlock = none ∨ v1.ownBlock ≠ v2.ownBlock := by
  rcases h1.2 with ⟨rfl, _⟩ | ⟨g, cap, cur, rfl, hg, hh, _⟩
  · left; simp [Value.ownBlock]
  · rcases h2.2 with ⟨rfl, _⟩ | ⟨g2, cap2, cur2, rfl, hg2, hh2, _⟩
    · right; simp [Value.ownBlock]
    · right
      intro e
      simp [Value.ownBlock] at e
      subst e
      rw [hh] at hh2
      have := Option.some.inj hh2
      injection this with _ h3 _
      exact hne h3
theorem row_srcW {w : World} {base : Nat} {v : Value} {ys : List ByteArray} (h : w.ownsRow base 9 1 v ys.length (ys.map Value.string)) (h0 : 0 < ys.length) : ∃ g cap, v = .slice (some ⟨g, 0, none⟩) ys.length cap ∧ Src w (some ⟨g, 0, none⟩) g 0 ys := by
  have h' := h
  rcases h.2 with ⟨_, h1⟩ | ⟨g, cap, cur, rfl, hg, hh, _⟩
  · omega
  · refine ⟨g, cap, rfl, ⟨fun _ => rfl, fun j x hx => ?_⟩⟩
    have := h'.cells (g := g) rfl j (.string x) (by simp [hx])
    rw [Addr.add_lit] at this
    exact this

/-- The words' own rows. -/
def WordsAt (W : World) (base : Nat) (vs : List Value) (ws : List (List ByteArray)) : Prop := vs.length = ws.length ∧ ∀ (i : Nat) (ys : List ByteArray), ws[i]? = some ys → ∃ v, vs[i]? = some v ∧ W.ownsRow base 9 1 v ys.length (ys.map Value.string)
theorem WordsAt.below {W W' : World} {base : Nat} {vs : List Value} {ws : List (List ByteArray)} (h : WordsAt W base vs ws) (hb : Below W.heap.size W W') : WordsAt W' base vs ws := ⟨h.1, fun i ys hy => by
  obtain ⟨v, h1, h2⟩ := h.2 i ys hy
  exact ⟨v, h1, row_below h2 hb⟩⟩
theorem WordsAt.kept {W W' : World} {o : Obj} {base b2 : Nat} {vs : List Value} {ws : List (List ByteArray)} {v2 : Value} {n2 : Nat} {x2 : List Value} (h : WordsAt W base vs ws) (hr : W.ownsRow b2 33 1 v2 n2 x2) (hg : (W.alloc o).grownBy W' v2.ownBlock) : WordsAt W' base vs ws := ⟨h.1, fun i ys hy => by
  obtain ⟨v, h1, h3⟩ := h.2 i ys hy
  exact ⟨v, h1, (h3.alloc o).kept hg (row_apart h3 hr (by decide))⟩⟩
theorem WordsAt.snoc {W : World} {base : Nat} {vs : List Value} {ws : List (List ByteArray)} {v : Value} {ys : List ByteArray} (h : WordsAt W base vs ws) (hr : W.ownsRow base 9 1 v ys.length (ys.map Value.string)) : WordsAt W base (vs ++ [v]) (ws ++ [ys]) := by
  refine ⟨by simp [h.1], fun i zs hz => ?_⟩
  by_cases hi : i < ws.length
  · rw [List.getElem?_append_left hi] at hz
    obtain ⟨u, h1, h2⟩ := h.2 i zs hz
    exact ⟨u, by rw [List.getElem?_append_left (by rw [h.1]; exact hi)]; exact h1, h2⟩
  · rw [List.getElem?_append_right (by omega)] at hz
    have hi0 : i = ws.length := by
      have := (List.getElem?_eq_some_iff.1 hz).1
      simp at this; omega
    subst hi0
    simp at hz
    subst hz
    exact ⟨v, by rw [← h.1]; simp, hr⟩

def wordsB (s : ByteArray) : List (List ByteArray) := (splitS s 47).map (fun x => splitS x 32)
theorem wordsB_L (s : ByteArray) : (wordsB s).map (fun w => w.map bl) = wordsL (bl s) := by
  unfold wordsB wordsL
  rw [List.map_map, ← splitS_L, List.map_map]
  exact List.map_congr_left fun x _ => splitS_L x 32
theorem wordsB_len (s : ByteArray) : (wordsB s).length = (splitS s 47).length := by simp [wordsB]

end Go.Proofs.Ytomhjfjfmjacfaa
