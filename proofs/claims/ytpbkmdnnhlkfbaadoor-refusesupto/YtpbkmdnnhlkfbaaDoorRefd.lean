/-
  OWN TEXT. stow.Refused.
-/
import Derived.Test.YtpbkmdnnhlkfbaaDoorStrays
namespace Go.Proofs.YtpbkmdnnhlkfbaaDoor
open Go Go.RowKit

theorem bcell {W w1 : World} (hb : Below W.heap.size W w1) : (∀ b o, b < W.heap.size → w1.cell? ⟨b, o, none⟩ = W.cell? ⟨b, o, none⟩) ∧ (∀ b o, b < W.heap.size → w1.frozen? ⟨b, o, none⟩ = W.frozen? ⟨b, o, none⟩) :=
  ⟨fun b o h => hb.cell (p := ⟨b, o, none⟩) h, fun b o h => hb.frozen (p := ⟨b, o, none⟩) h⟩

/-- Which entries are refused by their words. -/
def refB (k : Int) (p l : List UInt8) : Bool :=
  if k = 1 then badB p || !fitsB p 0 else if k = 2 then badB p || !fitsB p 1 else if k = 3 then badB p || !fitsB p 1 || l.isEmpty || badB l else true

theorem strays_any (s : ByteArray) (hs : s.size ≤ maxLen) {b : Bool} (hb : badB s.data.toList = b) (w : World) :
    Calls Tryd.prog 17 #[.string s] w fun e w' => e = .returned (.bool b) ∧ Below w.heap.size w w' := by
  rw [← hb]; exact callsIn_wide.1 (strays_in 10 (Nat.le_refl _) s hs w)
theorem fits_any (s : ByteArray) (least : Int) (hs : s.size ≤ maxLen) {b : Bool} (hb : fitsB s.data.toList least = b) (w : World) :
    Calls Tryd.prog 18 #[.string s, .int .i64 least] w fun e w' => e = .returned (.bool b) ∧ Below w.heap.size w w' := by
  rw [← hb]; exact callsIn_wide.1 (fits_in 10 (Nat.le_refl _) s least hs w)

theorem link_later {w w1 w2 : World} {v0 v1 v2 v3 : Value} {t : TypeId} (hb1 : Below (w.alloc (.cells #[v0, v1, v2, v3] t)).heap.size (w.alloc (.cells #[v0, v1, v2, v3] t)) w1) (hb2 : Below w1.heap.size w1 w2) :
    w2.cell? ⟨w.heap.size, 2, none⟩ = some v2 :=
  (hb2.cell (p := ⟨w.heap.size, 2, none⟩) (by have := hb1.size; simp at this; dsimp only; omega)).trans ((hb1.cell (p := ⟨w.heap.size, 2, none⟩) (by simp)).trans (by simp))
theorem bl1 {w w1 : World} {o : Obj} (h : Below (w.alloc o).heap.size (w.alloc o) w1) : Below w.heap.size w w1 := ((Below.refl _ w).alloc (Nat.le_refl _) _).trans (h.mono (by simp))
theorem bl2 {w w1 w2 : World} (h : Below w.heap.size w w1) (k : Below w1.heap.size w1 w2) : Below w.heap.size w w2 := h.trans (k.mono h.size)

set_option maxRecDepth 100000 in
set_option maxHeartbeats 400000 in
theorem refused_1 (p l d : ByteArray) (hp : p.size ≤ maxLen) (w : World) :
    Calls Tryd.prog 9 #[.agg #[.int .i64 1, .string p, .string l, .string d]] w fun e w' => e = .returned (.bool (badB p.data.toList || !fitsB p.data.toList 0)) ∧ Below w.heap.size w w' := by
  obtain ⟨b1, h1⟩ : ∃ b, badB p.data.toList = b := ⟨_, rfl⟩
  obtain ⟨b2, h2⟩ : ∃ b, fitsB p.data.toList 0 = b := ⟨_, rfl⟩
  rw [h1, h2]
  have k1 := strays_any p hp h1
  have k2 := fits_any p 0 hp h2
  clear h1 h2
  cases b1
  · go_enter Tryd.func9, Tryd.ntmps9
    go_wp2_with (first | (go_at_call 17; refine (k1 _).mono ?_; rintro e w1 ⟨rfl, hb1⟩; obtain ⟨hc1, hf1⟩ := bcell hb1) | (go_at_call 18; refine (k2 _).mono ?_; rintro e w2 ⟨rfl, hb2⟩))
    go_ret
    exact ⟨ret_bool (by simp), bl2 (bl1 hb1) hb2⟩
  · go_enter Tryd.func9, Tryd.ntmps9
    go_wp2_with (first | (go_at_call 17; refine (k1 _).mono ?_; rintro e w1 ⟨rfl, hb1⟩; obtain ⟨hc1, hf1⟩ := bcell hb1) | (go_at_call 18; refine (k2 _).mono ?_; rintro e w2 ⟨rfl, hb2⟩))
    go_ret
    exact ⟨ret_bool rfl, bl1 hb1⟩

set_option maxRecDepth 100000 in
set_option maxHeartbeats 400000 in
theorem refused_2 (p l d : ByteArray) (hp : p.size ≤ maxLen) (w : World) :
    Calls Tryd.prog 9 #[.agg #[.int .i64 2, .string p, .string l, .string d]] w fun e w' => e = .returned (.bool (badB p.data.toList || !fitsB p.data.toList 1)) ∧ Below w.heap.size w w' := by
  obtain ⟨b1, h1⟩ : ∃ b, badB p.data.toList = b := ⟨_, rfl⟩
  obtain ⟨b2, h2⟩ : ∃ b, fitsB p.data.toList 1 = b := ⟨_, rfl⟩
  rw [h1, h2]
  have k1 := strays_any p hp h1
  have k2 := fits_any p 1 hp h2
  clear h1 h2
  cases b1
  · go_enter Tryd.func9, Tryd.ntmps9
    go_wp2_with (first | (go_at_call 17; refine (k1 _).mono ?_; rintro e w1 ⟨rfl, hb1⟩; obtain ⟨hc1, hf1⟩ := bcell hb1) | (go_at_call 18; refine (k2 _).mono ?_; rintro e w2 ⟨rfl, hb2⟩))
    go_ret
    exact ⟨ret_bool (by simp), bl2 (bl1 hb1) hb2⟩
  · go_enter Tryd.func9, Tryd.ntmps9
    go_wp2_with (first | (go_at_call 17; refine (k1 _).mono ?_; rintro e w1 ⟨rfl, hb1⟩; obtain ⟨hc1, hf1⟩ := bcell hb1) | (go_at_call 18; refine (k2 _).mono ?_; rintro e w2 ⟨rfl, hb2⟩))
    go_ret
    exact ⟨ret_bool rfl, bl1 hb1⟩


set_option maxRecDepth 100000 in
set_option maxHeartbeats 400000 in
theorem refused_o (k : Int) (p l d : ByteArray) (h1 : (k == 1) = false) (h2 : (k == 2) = false) (h3 : (k == 3) = false) (w : World) :
    Calls Tryd.prog 9 #[.agg #[.int .i64 k, .string p, .string l, .string d]] w fun e w' => e = .returned (.bool true) ∧ Below w.heap.size w w' := by
  go_enter Tryd.func9, Tryd.ntmps9
  go_wp2
  go_ret
  exact ⟨rfl, (Below.refl _ w).alloc (Nat.le_refl _) _⟩

set_option maxRecDepth 100000 in
set_option maxHeartbeats 400000 in
theorem refused_3a (p l d : ByteArray) (hp : p.size ≤ maxLen) (hb : badB p.data.toList = true) (w : World) :
    Calls Tryd.prog 9 #[.agg #[.int .i64 3, .string p, .string l, .string d]] w fun e w' => e = .returned (.bool true) ∧ Below w.heap.size w w' := by
  have k1 := strays_any p hp hb
  clear hb
  go_enter Tryd.func9, Tryd.ntmps9
  go_wp2_with (go_at_call 17; refine (k1 _).mono ?_; rintro e w1 ⟨rfl, hb1⟩; obtain ⟨hc1, hf1⟩ := bcell hb1)
  go_ret
  exact ⟨ret_bool rfl, bl1 hb1⟩

set_option maxRecDepth 100000 in
set_option maxHeartbeats 400000 in
theorem refused_3b (p l d : ByteArray) (hp : p.size ≤ maxLen) (hb : badB p.data.toList = false) (hfi : fitsB p.data.toList 1 = false) (w : World) :
    Calls Tryd.prog 9 #[.agg #[.int .i64 3, .string p, .string l, .string d]] w fun e w' => e = .returned (.bool true) ∧ Below w.heap.size w w' := by
  have k1 := strays_any p hp hb
  have k2 := fits_any p 1 hp hfi
  clear hb hfi
  go_enter Tryd.func9, Tryd.ntmps9
  go_wp2_with (first | (go_at_call 17; refine (k1 _).mono ?_; rintro e w1 ⟨rfl, hb1⟩; obtain ⟨hc1, hf1⟩ := bcell hb1) | (go_at_call 18; refine (k2 _).mono ?_; rintro e w2 ⟨rfl, hb2⟩))
  go_ret
  exact ⟨ret_bool rfl, bl2 (bl1 hb1) hb2⟩

set_option maxRecDepth 100000 in
set_option maxHeartbeats 400000 in
theorem refused_3c (p l d : ByteArray) (hp : p.size ≤ maxLen) (hb : badB p.data.toList = false) (hfi : fitsB p.data.toList 1 = true) (hl : l.toList.isEmpty = true) (w : World) :
    Calls Tryd.prog 9 #[.agg #[.int .i64 3, .string p, .string l, .string d]] w fun e w' => e = .returned (.bool true) ∧ Below w.heap.size w w' := by
  have k1 := strays_any p hp hb
  have k2 := fits_any p 1 hp hfi
  clear hb hfi
  go_enter Tryd.func9, Tryd.ntmps9
  go_wp2_with (first | (go_at_call 17; refine (k1 _).mono ?_; rintro e w1 ⟨rfl, hb1⟩; obtain ⟨hc1, hf1⟩ := bcell hb1) | (go_at_call 18; refine (k2 _).mono ?_; rintro e w2 ⟨rfl, hb2⟩; have q2 := link_later hb1 hb2))
  go_ret
  exact ⟨ret_bool rfl, bl2 (bl1 hb1) hb2⟩

set_option maxRecDepth 100000 in
set_option maxHeartbeats 400000 in
theorem refused_3d (p l d : ByteArray) (hp : p.size ≤ maxLen) (hll : l.size ≤ maxLen) (hb : badB p.data.toList = false) (hfi : fitsB p.data.toList 1 = true) (hl : l.toList.isEmpty = false) (w : World) :
    Calls Tryd.prog 9 #[.agg #[.int .i64 3, .string p, .string l, .string d]] w fun e w' => e = .returned (.bool (badB l.data.toList)) ∧ Below w.heap.size w w' := by
  have k1 := strays_any p hp hb
  have k2 := fits_any p 1 hp hfi
  have k3 := strays_any l hll rfl
  clear hb hfi
  go_enter Tryd.func9, Tryd.ntmps9
  go_wp2_with fail
  refine (k1 _).mono ?_
  rintro e w1 ⟨rfl, hb1⟩
  obtain ⟨hc1, hf1⟩ := bcell hb1
  go_wp2_with fail
  refine (k2 _).mono ?_
  rintro e w2 ⟨rfl, hb2⟩
  have q2 := link_later hb1 hb2
  go_wp2_with fail
  refine (k3 _).mono ?_
  rintro e w3 ⟨rfl, hb3⟩
  go_wp2
  go_ret
  exact ⟨rfl, bl2 (bl2 (bl1 hb1) hb2) hb3⟩

theorem refused_any (k : Int) (p l d : ByteArray) (hp : p.size ≤ maxLen) (hll : l.size ≤ maxLen) (w : World) :
    Calls Tryd.prog 9 #[.agg #[.int .i64 k, .string p, .string l, .string d]] w fun e w' => e = .returned (.bool (refB k p.data.toList l.data.toList)) ∧ Below w.heap.size w w' := by
  unfold refB
  by_cases h1 : k = 1
  · subst h1; rw [if_pos rfl]; exact refused_1 p l d hp w
  by_cases h2 : k = 2
  · subst h2; rw [if_neg h1, if_pos rfl]; exact refused_2 p l d hp w
  by_cases h3 : k = 3
  · subst h3
    rw [if_neg h1, if_neg h2, if_pos rfl]
    rw [← Lib.toList_data l]
    cases hb : badB p.data.toList
    · cases hfi : fitsB p.data.toList 1
      · exact refused_3b p l d hp hb hfi w
      · cases hl : l.toList.isEmpty
        · have := refused_3d p l d hp hll hb hfi hl w
          rw [← Lib.toList_data l] at this
          simpa using this
        · simpa using refused_3c p l d hp hb hfi hl w
    · exact refused_3a p l d hp hb w
  · rw [if_neg h1, if_neg h2, if_neg h3]
    exact refused_o k p l d (by simpa using h1) (by simpa using h2) (by simpa using h3) w

end Go.Proofs.YtpbkmdnnhlkfbaaDoor
