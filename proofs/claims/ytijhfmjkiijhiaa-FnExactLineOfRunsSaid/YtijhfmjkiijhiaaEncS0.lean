/-
  Plain facts on texts that grow by a byte, and on a text's one byte. No program. Used by the claims on chapters 4 and on.
-/
import Derived.Test.YtijhfmjkiijhiaaTabT
import Derived.WalkSpells
namespace Go.Proofs.Ytijhfmjkiijhiaa
set_option linter.unusedVariables false

theorem catE (l : Bs) (b : UInt8) : ((⟨l.toArray⟩ : ByteArray) ++ ⟨#[b]⟩) = ⟨(l ++ [b]).toArray⟩ := by
  apply ByteArray.ext; apply Array.toList_inj.1; simp
theorem catB (l : Bs) (x : ByteArray) : ((⟨l.toArray⟩ : ByteArray) ++ x) = ⟨(l ++ bl x).toArray⟩ := by
  apply ByteArray.ext; apply Array.toList_inj.1; simp [bl]
def reps (n : Nat) (c : UInt8) : Bs := List.replicate n c
theorem sizeE (l : Bs) : (⟨l.toArray⟩ : ByteArray).size = l.length := rfl
theorem u8_eq0 {c : UInt8} {k : Nat} (h : c.toNat = k) (hk : k < 256) : c = UInt8.ofNat k := by
  apply UInt8.toNat_inj.1
  rw [UInt8.toNat_ofNat', h, Nat.mod_eq_of_lt hk]
theorem extract_one (s : ByteArray) (i : Nat) (h : i < s.size) : (s.extract i (i + 1)).toList = [s[i]] := by
  rw [ByteArray.toList_eq]
  have h1 : (s.extract i (i + 1)).data.toList = ((bl s).take (i + 1)).drop i := by
    simp [ByteArray.data_extract, Array.toList_extract, bl, List.drop_take]
  have h2 : (bl s)[i]? = some s[i] := byte_at s i h
  rw [h1, List.take_add_one, h2, List.drop_append, List.drop_of_length_le (by simp; omega)]
  have : i - ((bl s).take i).length = 0 := by rw [List.length_take, bl_len]; omega
  rw [this]; rfl
end Go.Proofs.Ytijhfmjkiijhiaa
