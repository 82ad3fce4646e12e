/-
  bestSwap of the program, l8Swap of the model: the same swap. Used by the claims on chapter 8.
-/
import Derived.Test.YtdphjnbelggcfaaSwpL
import Derived.Test.YtdphjnbelggcfaaCstW
import Derived.Test.YtdphjnbelggcfaaTwoW
import Derived.Deep.RegionHeld3
namespace Go.Proofs.Ytdphjnbelggcfaa
open Go.RowKit
set_option linter.unusedVariables false

theorem res_two3 {fn : Func} {p u q : Tmp} (h : fn.results = #[.cell p 114, .tmp u, .tmp q]) (tmps : Array Value) {w : World} {g : Nat} {x y : Int} (hp : tmps.getD p undef = .pointer (some ⟨g, 0, none⟩)) (hb : Two w g x y) : (results fn tmps).run Try.prog w = .ok (.tuple #[.agg #[.int .i64 x, .int .i64 y], tmps.getD u undef, tmps.getD q undef]) w := by
  have hp' : tmps[p]?.getD undef = .pointer (some ⟨g, 0, none⟩) := by simpa using hp
  simp [results, h, hp', asAddr, load_two hb, Result.andThen]
theorem marks19 {xs : List ByteArray} (h : ∀ x ∈ xs, marksL (bl x) = true) (k : Nat) (hk : k < xs.length) : tAt xs k ≤ 19 := by
  rw [tAt_eq hk]
  have := h _ (List.getElem_mem hk)
  simp only [marksL, Bool.and_eq_true, decide_eq_true_eq] at this
  exact tml_le5 (by omega)
theorem m10_of {m : List Nat} (h : IsWt m) : m.length ≤ 10 := h.len

/-- What a walk knows of the marks and weights that it reads. -/
structure RdS (w : World) (b o g1 : Nat) (xs : List ByteArray) (m : List Nat) : Prop where
  tx : ∀ k (hk : k < xs.length), w.cell? ⟨b, o + k, none⟩ = some (.string xs[k])
  nm : ∀ k (hk : k < m.length), w.cell? ⟨g1, k, none⟩ = some (.int .i64 ((m[k] : Nat) : Int))
theorem RdS.below {w w' : World} {b o g1 : Nat} {xs : List ByteArray} {m : List Nat} (h : RdS w b o g1 xs m) (hb : Below w.heap.size w w') : RdS w' b o g1 xs m :=
  ⟨fun k hk => (hb.cell (World.block_lt_of_cell? _ _ (h.tx k hk))).trans (h.tx k hk), fun k hk => (hb.cell (World.block_lt_of_cell? _ _ (h.nm k hk))).trans (h.nm k hk)⟩
theorem rdS_of {w : World} {a a1 : Option Addr} {b o g1 : Nat} {xs : List ByteArray} {m : List Nat} (hx : Src w a b o xs) (hs : SrcV w a1 g1 (intz (zs m))) : RdS w b o g1 xs m :=
  ⟨fun k hk => hx.2 k _ (List.getElem?_eq_getElem hk), fun k hk => zs_src hs k hk⟩

/-- What the loops keep. -/
structure SwK (w : World) (b o g1 : Nat) (xs : List ByteArray) (m : List Nat) (bi bj : Nat) (wr : World) : Prop where
  rd : RdS wr b o g1 xs m
  below : Below w.heap.size w wr
  res : Two wr w.heap.size 0 0
  best : Two wr (w.heap.size + 1) bi bj
theorem SwK.step {w : World} {b o g1 : Nat} {xs : List ByteArray} {m : List Nat} {bi bj : Nat} {wr wr' : World} (h : SwK w b o g1 xs m bi bj wr) (hb : Below wr.heap.size wr wr') : SwK w b o g1 xs m bi bj wr' :=
  ⟨h.rd.below hb, h.below.trans (hb.mono h.below.size), h.res.below hb, h.best.below hb⟩
theorem RdS.other {w : World} {b o g1 q : Nat} {xs : List ByteArray} {m : List Nat} (h : RdS w b o g1 xs m) (hb : 0 < xs.length → b ≠ q) (hg : 0 < m.length → g1 ≠ q) (j : Nat) (v : Value) : RdS (w.setCell ⟨q, j, none⟩ v) b o g1 xs m :=
  ⟨fun k hk => by rw [World.cell?_setCell_other _ _ _ _ (by intro e; have e2 := congrArg Addr.block e; exact hb (by omega) e2.symm)]; exact h.tx k hk,
   fun k hk => by rw [World.cell?_setCell_other _ _ _ _ (by intro e; have e2 := congrArg Addr.block e; exact hg (by omega) e2.symm)]; exact h.nm k hk⟩
theorem SwK.set {w : World} {b o g1 : Nat} {xs : List ByteArray} {m : List Nat} {bi bj : Nat} {wr : World} (h : SwK w b o g1 xs m bi bj wr) (hb : 0 < xs.length → b < w.heap.size) (hg : 0 < m.length → g1 < w.heap.size) (i j : Nat) :
    SwK w b o g1 xs m i j ((wr.setCell ⟨w.heap.size + 1, 0, none⟩ (.int .i64 (i : Int))).setCell ⟨w.heap.size + 1, 1, none⟩ (.int .i64 (j : Int))) :=
  ⟨(h.rd.other (fun h0 => by have := hb h0; omega) (fun h0 => by have := hg h0; omega) _ _).other (fun h0 => by have := hb h0; omega) (fun h0 => by have := hg h0; omega) _ _,
   (h.below.setCell (p := ⟨w.heap.size + 1, 0, none⟩) (by show w.heap.size ≤ w.heap.size + 1; omega) _).setCell (p := ⟨w.heap.size + 1, 1, none⟩) (by show w.heap.size ≤ w.heap.size + 1; omega) _,
   (h.res.other (by show w.heap.size + 1 ≠ w.heap.size; omega) _).other (by show w.heap.size + 1 ≠ w.heap.size; omega) _,
   (h.best.set0 _).set1 _⟩
theorem swK_new {w : World} {b o g1 : Nat} {xs : List ByteArray} {m : List Nat} (h : RdS w b o g1 xs m) : SwK w b o g1 xs m 0 0 ((w.alloc (.cells #[.int .i64 0, .int .i64 0] 114)).alloc (.cells #[.int .i64 0, .int .i64 0] 114)) := by
  have hT := two_new (w.alloc (.cells #[.int .i64 0, .int .i64 0] 114)) 0 0
  have e0 : (w.alloc (.cells #[.int .i64 0, .int .i64 0] 114)).heap.size = w.heap.size + 1 := by simp
  rw [e0] at hT
  exact ⟨(h.below (below_alloc _ _)).below (below_alloc _ _), (below_alloc _ _).alloc (by simp) _, (two_new w 0 0).below (below_alloc _ _), hT⟩

end Go.Proofs.Ytdphjnbelggcfaa
