/-
  OWN TEXT. stowref.Refused.
-/
import Derived.Test.YtpbkmdnnhlkfbaaDoorRefb
namespace Go.Proofs.YtpbkmdnnhlkfbaaDoor
open Go Go.RowKit

theorem rbad_is (s : ByteArray) (hs : s.size ≤ 1048576) {b : Bool} (hb : badB s.data.toList = b) (w : World) :
    Calls Tryd.prog 20 #[.string s] w fun e w' => e = .returned (.bool b) ∧ Below w.heap.size w w' := by rw [← hb]; exact rbad_any s hs w

/-- The kinds that may be unpacked. -/
def known (k : Int) : Prop := k = 1 ∨ k = 2 ∨ k = 3

theorem ref_bad {k : Int} {p l : List UInt8} (h : badB p = true) : refB k p l = true := by
  unfold refB; (repeat' split) <;> simp [h]
theorem ref_short {k : Int} {p l : List UInt8} (h : shortB (prts p) = false) : refB k p l = true := by
  unfold refB fitsB; (repeat' split) <;> simp [h]
theorem ref_none {k : Int} {p l : List UInt8} (h : prts p = []) (hk : k ≠ 1) : refB k p l = true := by
  unfold refB fitsB; rw [if_neg hk]; (repeat' split) <;> simp [h]
theorem ref_ok {k : Int} {p l : List UInt8} (hk : known k) (hb : badB p = false) (hs : shortB (prts p) = true) (h1 : k = 1 ∨ 1 ≤ (prts p).length) : refB k p l = (decide (k = 3) && (l.isEmpty || badB l)) := by
  have h0 : fitsB p 0 = true := by simp [fitsB, hs]
  rcases hk with rfl | rfl | rfl
  · simp [refB, hb, h0]
  · have h1' : fitsB p 1 = true := by simp [fitsB, hs]; omega
    simp [refB, hb, h1']
  · have h1' : fitsB p 1 = true := by simp [fitsB, hs]; omega
    simp [refB, hb, h1']

/-- The first k parts are not too long. -/
def noLong (ds : List ByteArray) (k : Nat) : Prop := ((ds.take k).map (fun d => d.data.toList)).all (fun p => decide (p.length ≤ 30)) = true
theorem noLong_succ {ds : List ByteArray} {k : Nat} (h : noLong ds k) (hk : k < ds.length) (hv : ds[k].size ≤ 30) : noLong ds (k + 1) := by
  unfold noLong at h ⊢
  rw [List.take_succ_eq_append_getElem hk, List.map_append, List.all_append, h, List.map_cons, List.map_nil]
  simpa using hv
theorem long_hit {ds : List ByteArray} {p : List UInt8} (hd : ds.map (fun d => d.data.toList) = prts p) {k : Nat} (hk : k < ds.length) (hv : 30 < ds[k].size) : shortB (prts p) = false := by
  rw [← hd, Bool.eq_false_iff]
  intro h
  simp only [shortB, Bool.and_eq_true, List.all_eq_true, decide_eq_true_eq] at h
  have := h.2 _ (List.mem_map.2 ⟨ds[k], List.getElem_mem hk, rfl⟩)
  rw [Lib.size_eq] at hv
  omega
theorem many_hit {ds : List ByteArray} {p : List UInt8} (hd : ds.map (fun d => d.data.toList) = prts p) (hv : 6 < ds.length) : shortB (prts p) = false := by
  rw [← hd, Bool.eq_false_iff]
  intro h
  simp only [shortB, Bool.and_eq_true, decide_eq_true_eq, List.length_map] at h
  omega
theorem short_all {ds : List ByteArray} {p : List UInt8} (hd : ds.map (fun d => d.data.toList) = prts p) {k : Nat} (h : noLong ds k) (hk : ds.length ≤ k) (h6 : ds.length ≤ 6) : shortB (prts p) = true := by
  rw [← hd]
  unfold noLong at h
  rw [List.take_of_length_le hk] at h
  simp only [shortB, h, Bool.and_true, decide_eq_true_eq, List.length_map]
  exact h6

theorem cell_box {w w1 : World} {v0 v1 v2 v3 : Value} {t : TypeId} (hb1 : Below (w.alloc (.cells #[v0, v1, v2, v3] t)).heap.size (w.alloc (.cells #[v0, v1, v2, v3] t)) w1) :
    w1.cell? ⟨w.heap.size, 0, none⟩ = some v0 ∧ w1.cell? ⟨w.heap.size, 1, none⟩ = some v1 ∧ w1.cell? ⟨w.heap.size, 2, none⟩ = some v2 ∧ w.heap.size < w1.heap.size :=
  ⟨(hb1.cell (p := ⟨w.heap.size, 0, none⟩) (by simp)).trans (by simp), (hb1.cell (p := ⟨w.heap.size, 1, none⟩) (by simp)).trans (by simp), (hb1.cell (p := ⟨w.heap.size, 2, none⟩) (by simp)).trans (by simp), by have := hb1.size; simp at this; omega⟩
theorem cells_later {w w1 w2 : World} {v0 v1 v2 : Value} (h : w1.cell? ⟨w.heap.size, 0, none⟩ = some v0 ∧ w1.cell? ⟨w.heap.size, 1, none⟩ = some v1 ∧ w1.cell? ⟨w.heap.size, 2, none⟩ = some v2 ∧ w.heap.size < w1.heap.size) (hb2 : Below w1.heap.size w1 w2) :
    w2.cell? ⟨w.heap.size, 0, none⟩ = some v0 ∧ w2.cell? ⟨w.heap.size, 1, none⟩ = some v1 ∧ w2.cell? ⟨w.heap.size, 2, none⟩ = some v2 ∧ w.heap.size < w2.heap.size :=
  ⟨(hb2.cell (p := ⟨w.heap.size, 0, none⟩) h.2.2.2).trans h.1, (hb2.cell (p := ⟨w.heap.size, 1, none⟩) h.2.2.2).trans h.2.1, (hb2.cell (p := ⟨w.heap.size, 2, none⟩) h.2.2.2).trans h.2.2.1, Nat.lt_of_lt_of_le h.2.2.2 hb2.size⟩

set_option maxRecDepth 100000 in
set_option maxHeartbeats 400000 in
theorem rrefused_o (k : Int) (p l d : ByteArray) (h1 : (k != 1) = true) (h2 : (k != 2) = true) (h3 : (k != 3) = true) (w : World) :
    Calls Tryd.prog 10 #[.agg #[.int .i64 k, .string p, .string l, .string d]] w fun e w' => e = .returned (.bool true) ∧ Below w.heap.size w w' := by
  go_enter Tryd.func10, Tryd.ntmps10
  go_wp2
  go_ret
  exact ⟨rfl, (Below.refl _ w).alloc (Nat.le_refl _) _⟩


set_option maxRecDepth 100000 in
set_option maxHeartbeats 1000000 in
theorem rrefused_1 (p l d : ByteArray) (hp : p.size ≤ 1048576) (w : World) :
    Calls Tryd.prog 10 #[.agg #[.int .i64 1, .string p, .string l, .string d]] w fun e w' => e = .returned (.bool (refB 1 p.data.toList l.data.toList)) ∧ Below w.heap.size w w' := by
  obtain ⟨b1, hb1⟩ : ∃ b, badB p.data.toList = b := ⟨_, rfl⟩
  have k1 := rbad_is p hp hb1
  have HB : Hid (badB p.data.toList = b1) := hb1
  clear hb1
  cases b1
  · -- the path is not bad
    go_enter Tryd.func10, Tryd.ntmps10
    go_wp2_with fail
    refine (rparts_two p hp _).mono ?_
    rintro e w1 ⟨hb1, ⟨rfl, hnil⟩ | ⟨g, cap, ds, rfl, hd, hc, hlen, hg⟩⟩
    · have q1 := cell_box hb1
      obtain ⟨a0, a1, a2, a3⟩ := q1
      have HN : Hid (prts p.data.toList = []) := hnil
      clear hnil
      go_wp2_with fail
      refine (k1 _).mono ?_
      rintro e w2 ⟨rfl, hb2⟩
      obtain ⟨c0, c1, c2, c3⟩ := cells_later ⟨a0, a1, a2, a3⟩ hb2
      clear a0 a1 a2 a3
      go_wp2
      refine wp_loop_rounds 1 ?_
      rw [rounds_succ]
      go_wp2
      go_ret
      exact ⟨ret_bool (by rw [ref_ok (.inl rfl) HB.out (by rw [HN.out]; rfl) (.inl rfl)]; rfl), bl2 (bl1 hb1) hb2⟩
    · have HD : Hid (ds.map (fun d => d.data.toList) = prts p.data.toList) := hd
      have q1 := cell_box hb1
      obtain ⟨a0, a1, a2, a3⟩ := q1
      clear hd
      go_wp2_with fail
      refine (k1 _).mono ?_
      rintro e w2 ⟨rfl, hb2⟩
      obtain ⟨c0, c1, c2, c3⟩ := cells_later ⟨a0, a1, a2, a3⟩ hb2
      clear a0 a1 a2 a3
      have hc2 : ∀ j, j < ds.length → w2.cell? ⟨g, j, none⟩ = some (.string (ds.getD j ByteArray.empty)) := fun j hj => (hb2.cell (p := ⟨g, j, none⟩) hg).trans (hc j hj)
      clear hc
      by_cases h6 : 6 < ds.length
      · go_wp2
        go_ret
        exact ⟨ret_bool (ref_short (many_hit HD.out h6)).symm, bl2 (bl1 hb1) hb2⟩
      · go_wp2
        go_loop [4] (fun i => ∃ j : Nat, j ≤ ds.length ∧ i = .int .i64 j ∧ noLong ds j) (fun i => ds.length - (intOf i).toNat)
        case atStart => exact ⟨0, Nat.zero_le _, rfl, by simp [noLong]⟩
        case round =>
          obtain ⟨j, hj, rfl, hno⟩ := hrel
          by_cases h3 : j < ds.length
          · have hcj := hc2 j h3
            have hgd : ds.getD j ByteArray.empty = ds[j] := by simp [List.getD, h3]
            rw [hgd] at hcj
            clear hgd
            by_cases h4 : 30 < ds[j].size
            · go_wp2
              go_ret
              exact ⟨ret_bool (ref_short (long_hit HD.out h3 h4)).symm, bl2 (bl1 hb1) hb2⟩
            · go_wp2
              go_round
              case rel => exact ⟨j + 1, by omega, by go_num, noLong_succ hno h3 (by omega)⟩
              case measure => simp [intOf]; omega
          · have hok : Hid (refB 1 p.data.toList l.data.toList = (decide ((1 : Int) = 3) && (l.data.toList.isEmpty || badB l.data.toList))) := ref_ok (by simp [known]) HB.out (short_all HD.out hno (by omega) (by omega)) (.inl rfl)
            go_wp2
            go_ret
            exact ⟨ret_bool (by rw [hok.out]; simp), bl2 (bl1 hb1) hb2⟩
  · -- the path is bad
    go_enter Tryd.func10, Tryd.ntmps10
    go_wp2_with fail
    refine (rparts_two p hp _).mono ?_
    rintro e w1 ⟨hb1, ⟨rfl, hnil⟩ | ⟨g, cap, ds, rfl, hd, hc, hlen, hg⟩⟩
    · obtain ⟨a0, a1, a2, a3⟩ := cell_box hb1
      clear hnil
      go_wp2_with fail
      refine (k1 _).mono ?_
      rintro e w2 ⟨rfl, hb2⟩
      go_wp2
      go_ret
      exact ⟨ret_bool (ref_bad HB.out).symm, bl2 (bl1 hb1) hb2⟩
    · obtain ⟨a0, a1, a2, a3⟩ := cell_box hb1
      clear hd hc
      go_wp2_with fail
      refine (k1 _).mono ?_
      rintro e w2 ⟨rfl, hb2⟩
      go_wp2
      go_ret
      exact ⟨ret_bool (ref_bad HB.out).symm, bl2 (bl1 hb1) hb2⟩

set_option maxRecDepth 100000 in
set_option maxHeartbeats 1000000 in
theorem rrefused_2 (p l d : ByteArray) (hp : p.size ≤ 1048576) (w : World) :
    Calls Tryd.prog 10 #[.agg #[.int .i64 2, .string p, .string l, .string d]] w fun e w' => e = .returned (.bool (refB 2 p.data.toList l.data.toList)) ∧ Below w.heap.size w w' := by
  obtain ⟨b1, hb1⟩ : ∃ b, badB p.data.toList = b := ⟨_, rfl⟩
  have k1 := rbad_is p hp hb1
  have HB : Hid (badB p.data.toList = b1) := hb1
  clear hb1
  cases b1
  · -- the path is not bad
    go_enter Tryd.func10, Tryd.ntmps10
    go_wp2_with fail
    refine (rparts_two p hp _).mono ?_
    rintro e w1 ⟨hb1, ⟨rfl, hnil⟩ | ⟨g, cap, ds, rfl, hd, hc, hlen, hg⟩⟩
    · have q1 := cell_box hb1
      obtain ⟨a0, a1, a2, a3⟩ := q1
      have HN : Hid (prts p.data.toList = []) := hnil
      clear hnil
      go_wp2_with fail
      refine (k1 _).mono ?_
      rintro e w2 ⟨rfl, hb2⟩
      obtain ⟨c0, c1, c2, c3⟩ := cells_later ⟨a0, a1, a2, a3⟩ hb2
      clear a0 a1 a2 a3
      go_wp2
      go_ret
      exact ⟨ret_bool (ref_none HN.out (by decide)).symm, bl2 (bl1 hb1) hb2⟩
    · have HD : Hid (ds.map (fun d => d.data.toList) = prts p.data.toList) := hd
      have q1 := cell_box hb1
      obtain ⟨a0, a1, a2, a3⟩ := q1
      clear hd
      go_wp2_with fail
      refine (k1 _).mono ?_
      rintro e w2 ⟨rfl, hb2⟩
      obtain ⟨c0, c1, c2, c3⟩ := cells_later ⟨a0, a1, a2, a3⟩ hb2
      clear a0 a1 a2 a3
      have hc2 : ∀ j, j < ds.length → w2.cell? ⟨g, j, none⟩ = some (.string (ds.getD j ByteArray.empty)) := fun j hj => (hb2.cell (p := ⟨g, j, none⟩) hg).trans (hc j hj)
      clear hc
      by_cases h6 : 6 < ds.length
      · go_wp2
        go_ret
        exact ⟨ret_bool (ref_short (many_hit HD.out h6)).symm, bl2 (bl1 hb1) hb2⟩
      · by_cases hz : ds.length = 0
        · have hz' : ((ds.length : Int) == 0) = true := by simp [hz]
          have HZ : Hid (ds.length = 0) := hz
          clear hz
          go_wp2
          go_ret
          exact ⟨ret_bool (ref_none (by rw [← HD.out, List.length_eq_zero_iff.1 HZ.out]; rfl) (by decide)).symm, bl2 (bl1 hb1) hb2⟩
        · have hz' : ((ds.length : Int) == 0) = false := by simpa using (by omega : ¬ (ds.length : Int) = 0)
          go_wp2
          go_loop [4] (fun i => ∃ j : Nat, j ≤ ds.length ∧ i = .int .i64 j ∧ noLong ds j) (fun i => ds.length - (intOf i).toNat)
          case atStart => exact ⟨0, Nat.zero_le _, rfl, by simp [noLong]⟩
          case round =>
            obtain ⟨j, hj, rfl, hno⟩ := hrel
            by_cases h3 : j < ds.length
            · have hcj := hc2 j h3
              have hgd : ds.getD j ByteArray.empty = ds[j] := by simp [List.getD, h3]
              rw [hgd] at hcj
              clear hgd
              by_cases h4 : 30 < ds[j].size
              · go_wp2
                go_ret
                exact ⟨ret_bool (ref_short (long_hit HD.out h3 h4)).symm, bl2 (bl1 hb1) hb2⟩
              · go_wp2
                go_round
                case rel => exact ⟨j + 1, by omega, by go_num, noLong_succ hno h3 (by omega)⟩
                case measure => simp [intOf]; omega
            · have hok : Hid (refB 2 p.data.toList l.data.toList = (decide ((2 : Int) = 3) && (l.data.toList.isEmpty || badB l.data.toList))) := ref_ok (by simp [known]) HB.out (short_all HD.out hno (by omega) (by omega)) (.inr (by rw [← HD.out, List.length_map]; omega))
              go_wp2
              go_ret
              exact ⟨ret_bool (by rw [hok.out]; simp), bl2 (bl1 hb1) hb2⟩
  · -- the path is bad
    go_enter Tryd.func10, Tryd.ntmps10
    go_wp2_with fail
    refine (rparts_two p hp _).mono ?_
    rintro e w1 ⟨hb1, ⟨rfl, hnil⟩ | ⟨g, cap, ds, rfl, hd, hc, hlen, hg⟩⟩
    · obtain ⟨a0, a1, a2, a3⟩ := cell_box hb1
      clear hnil
      go_wp2_with fail
      refine (k1 _).mono ?_
      rintro e w2 ⟨rfl, hb2⟩
      go_wp2
      go_ret
      exact ⟨ret_bool (ref_bad HB.out).symm, bl2 (bl1 hb1) hb2⟩
    · obtain ⟨a0, a1, a2, a3⟩ := cell_box hb1
      clear hd hc
      go_wp2_with fail
      refine (k1 _).mono ?_
      rintro e w2 ⟨rfl, hb2⟩
      go_wp2
      go_ret
      exact ⟨ret_bool (ref_bad HB.out).symm, bl2 (bl1 hb1) hb2⟩

set_option maxRecDepth 100000 in
set_option maxHeartbeats 1000000 in
theorem rrefused_3 (p l d : ByteArray) (hp : p.size ≤ 1048576) (hll : l.size ≤ 1048576) (w : World) :
    Calls Tryd.prog 10 #[.agg #[.int .i64 3, .string p, .string l, .string d]] w fun e w' => e = .returned (.bool (refB 3 p.data.toList l.data.toList)) ∧ Below w.heap.size w w' := by
  obtain ⟨b1, hb1⟩ : ∃ b, badB p.data.toList = b := ⟨_, rfl⟩
  have k1 := rbad_is p hp hb1
  have HB : Hid (badB p.data.toList = b1) := hb1
  clear hb1
  cases b1
  · -- the path is not bad
    go_enter Tryd.func10, Tryd.ntmps10
    go_wp2_with fail
    refine (rparts_two p hp _).mono ?_
    rintro e w1 ⟨hb1, ⟨rfl, hnil⟩ | ⟨g, cap, ds, rfl, hd, hc, hlen, hg⟩⟩
    · have q1 := cell_box hb1
      obtain ⟨a0, a1, a2, a3⟩ := q1
      have HN : Hid (prts p.data.toList = []) := hnil
      clear hnil
      go_wp2_with fail
      refine (k1 _).mono ?_
      rintro e w2 ⟨rfl, hb2⟩
      obtain ⟨c0, c1, c2, c3⟩ := cells_later ⟨a0, a1, a2, a3⟩ hb2
      clear a0 a1 a2 a3
      go_wp2
      go_ret
      exact ⟨ret_bool (ref_none HN.out (by decide)).symm, bl2 (bl1 hb1) hb2⟩
    · have HD : Hid (ds.map (fun d => d.data.toList) = prts p.data.toList) := hd
      have q1 := cell_box hb1
      obtain ⟨a0, a1, a2, a3⟩ := q1
      clear hd
      go_wp2_with fail
      refine (k1 _).mono ?_
      rintro e w2 ⟨rfl, hb2⟩
      obtain ⟨c0, c1, c2, c3⟩ := cells_later ⟨a0, a1, a2, a3⟩ hb2
      clear a0 a1 a2 a3
      have hc2 : ∀ j, j < ds.length → w2.cell? ⟨g, j, none⟩ = some (.string (ds.getD j ByteArray.empty)) := fun j hj => (hb2.cell (p := ⟨g, j, none⟩) hg).trans (hc j hj)
      clear hc
      by_cases h6 : 6 < ds.length
      · go_wp2
        go_ret
        exact ⟨ret_bool (ref_short (many_hit HD.out h6)).symm, bl2 (bl1 hb1) hb2⟩
      · by_cases hz : ds.length = 0
        · have hz' : ((ds.length : Int) == 0) = true := by simp [hz]
          have HZ : Hid (ds.length = 0) := hz
          clear hz
          go_wp2
          go_ret
          exact ⟨ret_bool (ref_none (by rw [← HD.out, List.length_eq_zero_iff.1 HZ.out]; rfl) (by decide)).symm, bl2 (bl1 hb1) hb2⟩
        · have hz' : ((ds.length : Int) == 0) = false := by simpa using (by omega : ¬ (ds.length : Int) = 0)
          go_wp2
          go_loop [4] (fun i => ∃ j : Nat, j ≤ ds.length ∧ i = .int .i64 j ∧ noLong ds j) (fun i => ds.length - (intOf i).toNat)
          case atStart => exact ⟨0, Nat.zero_le _, rfl, by simp [noLong]⟩
          case round =>
            obtain ⟨j, hj, rfl, hno⟩ := hrel
            by_cases h3 : j < ds.length
            · have hcj := hc2 j h3
              have hgd : ds.getD j ByteArray.empty = ds[j] := by simp [List.getD, h3]
              rw [hgd] at hcj
              clear hgd
              by_cases h4 : 30 < ds[j].size
              · go_wp2
                go_ret
                exact ⟨ret_bool (ref_short (long_hit HD.out h3 h4)).symm, bl2 (bl1 hb1) hb2⟩
              · go_wp2
                go_round
                case rel => exact ⟨j + 1, by omega, by go_num, noLong_succ hno h3 (by omega)⟩
                case measure => simp [intOf]; omega
            · have hok : Hid (refB 3 p.data.toList l.data.toList = (decide ((3 : Int) = 3) && (l.data.toList.isEmpty || badB l.data.toList))) := ref_ok (by simp [known]) HB.out (short_all HD.out hno (by omega) (by omega)) (.inr (by rw [← HD.out, List.length_map]; omega))
              by_cases hl : l.toList.isEmpty = true
              · go_wp2
                go_ret
                exact ⟨ret_bool (by rw [hok.out, ← Lib.toList_data, hl]; rfl), bl2 (bl1 hb1) hb2⟩
              · have hl' : l.toList.isEmpty = false := by simpa using hl
                clear hl
                go_wp2_with fail
                refine (rbad_is l hll rfl _).mono ?_
                rintro e w3 ⟨rfl, hb3⟩
                go_wp2
                go_ret
                exact ⟨ret_bool (by rw [hok.out, ← Lib.toList_data, hl']; simp [Lib.toList_data]), bl2 (bl2 (bl1 hb1) hb2) hb3⟩
  · -- the path is bad
    go_enter Tryd.func10, Tryd.ntmps10
    go_wp2_with fail
    refine (rparts_two p hp _).mono ?_
    rintro e w1 ⟨hb1, ⟨rfl, hnil⟩ | ⟨g, cap, ds, rfl, hd, hc, hlen, hg⟩⟩
    · obtain ⟨a0, a1, a2, a3⟩ := cell_box hb1
      clear hnil
      go_wp2_with fail
      refine (k1 _).mono ?_
      rintro e w2 ⟨rfl, hb2⟩
      go_wp2
      go_ret
      exact ⟨ret_bool (ref_bad HB.out).symm, bl2 (bl1 hb1) hb2⟩
    · obtain ⟨a0, a1, a2, a3⟩ := cell_box hb1
      clear hd hc
      go_wp2_with fail
      refine (k1 _).mono ?_
      rintro e w2 ⟨rfl, hb2⟩
      go_wp2
      go_ret
      exact ⟨ret_bool (ref_bad HB.out).symm, bl2 (bl1 hb1) hb2⟩

theorem rrefused_any (k : Int) (p l d : ByteArray) (hp : p.size ≤ 1048576) (hll : l.size ≤ 1048576) (w : World) :
    Calls Tryd.prog 10 #[.agg #[.int .i64 k, .string p, .string l, .string d]] w fun e w' => e = .returned (.bool (refB k p.data.toList l.data.toList)) ∧ Below w.heap.size w w' := by
  by_cases h1 : k = 1
  · subst h1; exact rrefused_1 p l d hp w
  by_cases h2 : k = 2
  · subst h2; exact rrefused_2 p l d hp w
  by_cases h3 : k = 3
  · subst h3; exact rrefused_3 p l d hp hll w
  · have : refB k p.data.toList l.data.toList = true := by unfold refB; rw [if_neg h1, if_neg h2, if_neg h3]
    rw [this]
    exact rrefused_o k p l d (by simpa using h1) (by simpa using h2) (by simpa using h3) w

end Go.Proofs.YtpbkmdnnhlkfbaaDoor
