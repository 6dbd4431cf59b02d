import Derived.Test.YtpbkmdnnhlkfbaaDoorProg
import Derived.WalkKit
import Derived.WalkSpells
import Derived.WalkLawsBesides
import Derived.Lib.Bytealg
import Derived.Lib.Strings
namespace Go.Proofs.YtpbkmdnnhlkfbaaDoor
open Go Go.RowKit

theorem ret_int {k : IntKind} {a b : Int} (h : a = b) : Ending.returned (.int k a) = .returned (.int k b) := by rw [h]
theorem ret_bool {a b : Bool} (h : a = b) : Ending.returned (.bool a) = .returned (.bool b) := by rw [h]

theorem run_ibs (s : ByteArray) (c : Int) (w : World) : (callFunc 94 #[.string s, .int .u8 c]).run Tryd.prog w = .ok (.value (.int .i64 (Lib.indexByte s.data.toList c.toNat.toUInt8))) w := by
  rw [run_callFunc_extern Tryd.func94 (by kernel_rfl) (by kernel_rfl) (by kernel_rfl) (e := Extern.BytealgIndexByte.indexByte) (by kernel_rfl), Lib.run_indexByteString]
  rfl

theorem idx_self (s : ByteArray) (c : UInt8) (h : ([c] == s.toList) = true) : (0 : Int) = Lib.indexByte s.data.toList c := by
  rw [← Lib.toList_data, ← eq_of_beq h]; simp [Lib.indexByte]

set_option maxRecDepth 100000 in
set_option maxHeartbeats 400000 in
theorem index_slash (s : ByteArray) (w : World) :
    Calls Tryd.prog 49 #[.string s, .string ⟨#[47]⟩] w fun e w' => e = .returned (.int .i64 (Lib.indexByte s.data.toList 47)) ∧ w' = w := by
  have hi := run_ibs s
  by_cases h : ([47] == s.toList) = true
  · go_enter Tryd.func49, Tryd.ntmps49
    go_wp2
    go_ret
    exact ⟨ret_int (idx_self s 47 h), rfl⟩
  · have h' : ([47] == s.toList) = false := by simpa using h
    go_enter Tryd.func49, Tryd.ntmps49
    go_wp2
    go_ret
    exact ⟨rfl, rfl⟩

set_option maxRecDepth 100000 in
set_option maxHeartbeats 400000 in
theorem index_zero (s : ByteArray) (w : World) :
    Calls Tryd.prog 49 #[.string s, .string ⟨#[0]⟩] w fun e w' => e = .returned (.int .i64 (Lib.indexByte s.data.toList 0)) ∧ w' = w := by
  have hi := run_ibs s
  by_cases h : ([0] == s.toList) = true
  · go_enter Tryd.func49, Tryd.ntmps49
    go_wp2
    go_ret
    exact ⟨ret_int (idx_self s 0 h), rfl⟩
  · have h' : ([0] == s.toList) = false := by simpa using h
    go_enter Tryd.func49, Tryd.ntmps49
    go_wp2
    go_ret
    exact ⟨rfl, rfl⟩

theorem idx_mem (c : UInt8) : ∀ l : List UInt8, decide (0 ≤ Lib.indexByte l c) = decide (c ∈ l)
  | [] => by simp [Lib.indexByte]
  | b :: l => by
    have ih := idx_mem c l
    have hg := Lib.indexByte_ge l c
    unfold Lib.indexByte
    by_cases hb : b = c
    · subst hb; simp
    · have : (b == c) = false := by simpa using hb
      rw [this]
      by_cases hm : c ∈ l
      · have h0 : 0 ≤ Lib.indexByte l c := by simpa [hm] using ih
        have : ¬ (Lib.indexByte l c == -1) = true := by simp; omega
        simp [this, hm]; omega
      · have h0 : ¬ 0 ≤ Lib.indexByte l c := by simpa [hm] using ih
        have : (Lib.indexByte l c == -1) = true := by simp; omega
        simp [this, hm]; exact fun e => hb e.symm

set_option maxHeartbeats 400000 in
theorem contains_zero (s : ByteArray) (w : World) :
    Calls Tryd.prog 31 #[.string s, .string ⟨#[0]⟩] w fun e w' => e = .returned (.bool (decide ((0 : UInt8) ∈ s.data.toList))) ∧ w' = w := by
  go_enter Tryd.func31, Tryd.ntmps31
  go_wp2_with (go_at_call 49; refine (index_zero _ _).mono ?_; rintro e w' ⟨rfl, rfl⟩)
  go_ret
  exact ⟨ret_bool (idx_mem 0 _), rfl⟩

set_option maxHeartbeats 400000 in
theorem hasPrefix_slash (s : ByteArray) (w : World) (hs : s.size ≤ maxLen) :
    Calls Tryd.prog 30 #[.string s, .string ⟨#[47]⟩] w fun e w' => e = .returned (.bool (decide (s.data.toList.head? = some (47 : UInt8)))) ∧ w' = w := by
  unfold maxLen at hs
  by_cases h : 1 ≤ s.size
  · go_enter Tryd.func30, Tryd.ntmps30
    go_wp2
    go_ret
    refine ⟨ret_bool ?_, rfl⟩
    rw [Lib.extract_toList]
    simp only [List.drop_zero]
    have hne : 1 ≤ s.data.toList.length := by rw [← Lib.size_eq]; exact h
    cases hl : s.data.toList with
    | nil => rw [hl] at hne; simp at hne
    | cons b l => rw [Bool.eq_iff_iff]; simp
  · go_enter Tryd.func30, Tryd.ntmps30
    go_wp2
    go_ret
    refine ⟨ret_bool ?_, rfl⟩
    have hne : s.data.toList = [] := List.length_eq_zero_iff.1 (by rw [← Lib.size_eq]; omega)
    rw [hne]; rfl

end Go.Proofs.YtpbkmdnnhlkfbaaDoor
