/-
  OWN TEXT. Plain lists of bytes: what lies between the slashes of a path.
-/
import Derived.Lib.Bytealg
import Derived.Lib.IndexLaws
namespace Go.Proofs.YtpbkmdnnhlkfbaaDoor
open Go

/-- What lies between the slashes. -/
def cuts : List UInt8 → List (List UInt8)
  | [] => [[]]
  | c :: l => if c = 47 then [] :: cuts l else match cuts l with
    | [] => [[c]]
    | p :: ps => (c :: p) :: ps

theorem cuts_none : ∀ {a : List UInt8}, (47 : UInt8) ∉ a → cuts a = [a]
  | [], _ => rfl
  | c :: a, h => by
    have hc : c ≠ 47 := fun e => h (by simp [e])
    have ha : (47 : UInt8) ∉ a := fun e => h (List.mem_cons_of_mem _ e)
    simp [cuts, hc, cuts_none ha]

theorem cuts_some : ∀ {a : List UInt8} (b : List UInt8), (47 : UInt8) ∉ a → cuts (a ++ 47 :: b) = a :: cuts b
  | [], b, _ => by simp [cuts]
  | c :: a, b, h => by
    have hc : c ≠ 47 := fun e => h (by simp [e])
    have ha : (47 : UInt8) ∉ a := fun e => h (List.mem_cons_of_mem _ e)
    simp [cuts, hc, cuts_some b ha]

/-- A part that counts. -/
def okp (p : List UInt8) : Bool := !p.isEmpty && !(p == [46])

/-- The parts of a path. -/
def prts (l : List UInt8) : List (List UInt8) := (cuts l).filter okp

theorem idx_not_mem {l : List UInt8} (h : Lib.indexByte l 47 < 0) : (47 : UInt8) ∉ l := by
  have hg := Lib.indexByte_ge l 47
  have h1 : Lib.indexByte l 47 = -1 := by omega
  intro hm
  obtain ⟨k, hk, e⟩ := List.mem_iff_getElem.1 hm
  exact Lib.indexByte_none h1 k (by rw [List.getElem?_eq_getElem hk, e])

theorem cuts_idx_none {l : List UInt8} (h : Lib.indexByte l 47 < 0) : cuts l = [l] := cuts_none (idx_not_mem h)

theorem idx_split {l : List UInt8} {i : Nat} (h : Lib.indexByte l 47 = i) : i < l.length ∧ l = l.take i ++ 47 :: l.drop (i + 1) ∧ (47 : UInt8) ∉ l.take i := by
  obtain ⟨h1, h2⟩ := Lib.indexByte_some h
  obtain ⟨hlt, he⟩ := List.getElem?_eq_some_iff.1 h1
  refine ⟨hlt, ?_, ?_⟩
  · rw [← he, ← List.drop_eq_getElem_cons hlt, List.take_append_drop]
  · intro hm
    obtain ⟨k, hk, e⟩ := List.mem_iff_getElem.1 hm
    have hk' : k < i := by simp at hk; omega
    refine h2 k hk' ?_
    rw [List.getElem?_eq_getElem (by omega), ← e, List.getElem_take]

theorem cuts_idx_some {l : List UInt8} {i : Nat} (h : Lib.indexByte l 47 = i) : cuts l = l.take i :: cuts (l.drop (i + 1)) := by
  obtain ⟨_, he, hn⟩ := idx_split h
  conv => lhs; rw [he]
  exact cuts_some _ hn

theorem prts_prefix {a b : List (List UInt8)} (h : a <+: b) : a.filter okp <+: b.filter okp := by
  obtain ⟨c, rfl⟩ := h
  rw [List.filter_append]
  exact List.prefix_append _ _

end Go.Proofs.YtpbkmdnnhlkfbaaDoor
