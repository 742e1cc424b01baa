/-
  Strings as lists of numbers below 256. Nothing of the program.
-/
import Derived.Test.YtjghhmgnbcabdaaMath
import Derived.Laws.Concat
import Derived.Laws.Strings2
namespace Go.Proofs.Ytjghhmgnbcabdaa
open Go

def str (l : List Nat) : ByteArray := ⟨(l.map UInt8.ofNat).toArray⟩
theorem ret_str {a b : ByteArray} (h : a = b) : Ending.returned (.string a) = .returned (.string b) := by rw [h]
theorem str_nil : str [] = ⟨#[]⟩ := rfl
theorem str_size (l : List Nat) : (str l).size = l.length := by simp [str, ByteArray.size]
theorem str_app (a b : List Nat) : str a ++ str b = str (a ++ b) := by
  unfold str; rw [ByteArray.mk_append_mk, List.map_append]
theorem str_toList (l : List Nat) : (str l).toList = l.map UInt8.ofNat := by unfold str; exact ByteArray.toList_mk _
theorem str_get (l : List Nat) (i : Nat) (h : i < (str l).size) (hl : ∀ x ∈ l, x < 256) : ((str l)[i]).toNat = l.getD i 0 := by
  have hi : i < l.length := by rwa [str_size] at h
  have e : (str l)[i] = UInt8.ofNat l[i] := by
    show ((l.map UInt8.ofNat).toArray)[i]'(by simpa using hi) = _
    rw [List.getElem_toArray, List.getElem_map]
  rw [e, List.getD, List.getElem?_eq_getElem hi, Option.getD_some, UInt8.toNat_ofNat_of_lt' (by exact hl _ (List.getElem_mem hi))]
theorem str_cut (l : List Nat) (a b : Nat) : (str l).extract a b = str ((l.drop a).take (b - a)) := by
  unfold str; rw [ByteArray.extract_mk, List.map_take, List.map_drop]
theorem str_inj {a b : List Nat} (ha : ∀ x ∈ a, x < 256) (hb : ∀ x ∈ b, x < 256) (h : a.map UInt8.ofNat = b.map UInt8.ofNat) : a = b := by
  have e : ∀ (l : List Nat), (∀ x ∈ l, x < 256) → (l.map UInt8.ofNat).map UInt8.toNat = l := fun l hl => by
    rw [List.map_map]
    conv => rhs; rw [← List.map_id l]
    exact List.map_congr_left fun x hx => UInt8.toNat_ofNat_of_lt' (hl x hx)
  rw [← e a ha, ← e b hb, h]
end Go.Proofs.Ytjghhmgnbcabdaa
