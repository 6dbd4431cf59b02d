/-
  OWN TEXT. stowref.bad.
-/
import Derived.Test.YtpbkmdnnhlkfbaaDoorRefp
namespace Go.Proofs.YtpbkmdnnhlkfbaaDoor
open Go Go.RowKit

theorem data_take_succ (s : ByteArray) (k : Nat) (h : k < s.size) : s.data.toList.take (k + 1) = s.data.toList.take k ++ [s[k]] := by
  have hl : k < s.data.toList.length := by rw [← Lib.size_eq]; exact h
  rw [List.take_succ_eq_append_getElem hl]
  have := Lib.data_getElem? s k h
  rw [List.getElem?_eq_getElem hl] at this
  simp only [Option.some.injEq] at this
  rw [this]

theorem cuts_len : ∀ l : List UInt8, (cuts l).length ≤ l.length + 1
  | [] => by simp [cuts]
  | c :: l => by
    have := cuts_len l
    simp only [cuts]
    split
    · simpa using this
    · split
      · simp
      · rename_i h; rw [h] at this; simp at this ⊢; omega

theorem row_forms {w : World} {base size n : Nat} {e : TypeId} {v : Value} {xs : List Value} (h : w.ownsRow base e size v n xs) : (v = .slice none 0 0 ∧ n = 0) ∨ ∃ g cap, v = .slice (some ⟨g, 0, none⟩) n cap := by
  rcases h.2 with h | ⟨g, cap, _, hv, _⟩
  · exact .inl h
  · exact .inr ⟨g, cap, hv⟩

/-- stowref.Parts, its two answers apart. -/
theorem rparts_two (s : ByteArray) (hs : s.size ≤ 1048576) (w : World) :
    Calls Tryd.prog 19 #[.string s] w fun e w' => Below w.heap.size w w' ∧ ((e = .returned (.slice none 0 0) ∧ prts s.data.toList = []) ∨
      ∃ (g cap : Nat) (ds : List ByteArray), e = .returned (.slice (some ⟨g, 0, none⟩) ds.length cap) ∧ ds.map (fun d => d.data.toList) = prts s.data.toList ∧ (∀ j, j < ds.length → w'.cell? ⟨g, j, none⟩ = some (.string (ds.getD j ByteArray.empty))) ∧
        ds.length ≤ 1048577 ∧ g < w'.heap.size) := by
  refine (rparts_any s hs w).mono ?_
  rintro e w' ⟨v, ds, rfl, hd, hown, hb⟩
  refine ⟨hb, ?_⟩
  rcases row_forms hown with ⟨rfl, hn⟩ | ⟨g, cap, rfl⟩
  · exact .inl ⟨rfl, by rw [← hd, List.length_eq_zero_iff.1 hn]; rfl⟩
  · refine .inr ⟨g, cap, ds, rfl, hd, fun j hj => ?_, ?_, (hown.lt g rfl).2⟩
    · rw [hown.cellAt j (by omega)]
      simp [List.getD, hj]
    · have h1 := congrArg List.length hd
      rw [List.length_map] at h1
      have h2 : (prts s.data.toList).length ≤ (cuts s.data.toList).length := List.length_filter_le _ _
      have h3 := cuts_len s.data.toList
      rw [← Lib.size_eq] at h3
      omega

theorem byte_ne {b : UInt8} {n : Nat} (h : (((b.toNat : Nat) : Int) == (n : Int)) = false) : b.toNat ≠ n := by
  intro e; rw [e] at h; simp at h

/-- The part '..' is not among the first k. -/
def noDots (ds : List ByteArray) (k : Nat) : Prop := ((ds.take k).map (fun d => d.data.toList)).any (fun p => p == [46, 46]) = false

theorem noDots_succ {ds : List ByteArray} {k : Nat} (h : noDots ds k) (hk : k < ds.length) (hv : (ds[k].toList == [46, 46]) = false) : noDots ds (k + 1) := by
  unfold noDots at h ⊢
  rw [List.take_succ_eq_append_getElem hk, List.map_append, List.any_append, h, List.map_cons, List.map_nil, ← Lib.toList_data]
  simp [hv]
theorem dots_hit {ds : List ByteArray} {k : Nat} (hk : k < ds.length) (hv : (ds[k].toList == [46, 46]) = true) : (ds.map (fun d => d.data.toList)).any (fun p => p == [46, 46]) = true := by
  rw [List.any_eq_true]
  exact ⟨_, List.mem_map.2 ⟨ds[k], List.getElem_mem hk, rfl⟩, by rw [← Lib.toList_data]; exact hv⟩
theorem noDots_all {ds : List ByteArray} {k : Nat} (h : noDots ds k) (hk : ds.length ≤ k) : (ds.map (fun d => d.data.toList)).any (fun p => p == [46, 46]) = false := by
  unfold noDots at h; rwa [List.take_of_length_le hk] at h

theorem bad_head {L : List UInt8} (h : L.head? = some 47) : badB L = true := by simp [badB, h]
theorem bad_zero {L : List UInt8} (h : (0 : UInt8) ∈ L) : badB L = true := by simp [badB, h]
theorem bad_rest {L : List UInt8} (h : ¬ L.head? = some 47) (h0 : (0 : UInt8) ∉ L) {ds : List ByteArray} (hd : ds.map (fun d => d.data.toList) = prts L) : badB L = (ds.map (fun d => d.data.toList)).any (fun p => p == [46, 46]) := by
  simp [badB, h, h0, hd]

set_option maxRecDepth 100000 in
set_option maxHeartbeats 1000000 in
theorem rbad_slash (s : ByteArray) (hh : s.data.toList.head? = some (47 : UInt8)) (w : World) :
    Calls Tryd.prog 20 #[.string s] w fun e w' => e = .returned (.bool true) ∧ w' = w := by
  have h0 : 0 < s.size := by
    rw [Lib.size_eq]; cases hl : s.data.toList with
    | nil => rw [hl] at hh; simp at hh
    | cons a l => simp
  have he : s.toList.isEmpty = false := by rw [Lib.toList_data]; cases hl : s.data.toList with
    | nil => rw [hl] at hh; simp at hh
    | cons a l => rfl
  have hb : (((s[0].toNat : Nat) : Int) == 47) = true := by
    have := Lib.data_getElem? s 0 h0
    rw [List.head?_eq_getElem?, this] at hh
    simp only [Option.some.injEq] at hh
    rw [hh]; rfl
  clear hh
  go_enter Tryd.func20, Tryd.ntmps20
  go_wp2
  go_ret
  exact ⟨rfl, rfl⟩

set_option maxRecDepth 100000 in
set_option maxHeartbeats 1000000 in
theorem rbad_rest (s : ByteArray) (hs : s.size ≤ 1048576) (hh : ¬ s.data.toList.head? = some (47 : UInt8)) (w : World) :
    Calls Tryd.prog 20 #[.string s] w fun e w' => e = .returned (.bool (badB s.data.toList)) ∧ Below w.heap.size w w' := by
  have key : ∀ he : Bool, s.toList.isEmpty = he → (he = false → 0 < s.size) ∧ (∀ h0 : 0 < s.size, (((s[0].toNat : Nat) : Int) == 47) = false) := by
    intro he hhe
    refine ⟨fun e => ?_, fun h0 => ?_⟩
    · rw [Lib.size_eq]; rw [e, Lib.toList_data] at hhe; cases hl : s.data.toList with
      | nil => rw [hl] at hhe; simp at hhe
      | cons a l => simp
    · have := Lib.data_getElem? s 0 h0
      rw [List.head?_eq_getElem?, this] at hh
      rw [Bool.eq_false_iff]
      intro e
      apply hh
      have e2 : s[0].toNat = 47 := by have := eq_of_beq e; omega
      rw [show s[0] = 47 from UInt8.toNat_inj.1 e2]
  have HH : Hid (¬ s.data.toList.head? = some (47 : UInt8)) := hh
  clear hh
  have hpre : s.toList.isEmpty = true ∨ (s.toList.isEmpty = false ∧ ∃ h0 : 0 < s.size, (((s[0].toNat : Nat) : Int) == 47) = false) := by
    cases hhe : s.toList.isEmpty
    · exact .inr ⟨rfl, (key _ hhe).1 rfl, (key _ hhe).2 _⟩
    · exact .inl rfl
  clear key
  rcases hpre with hhe | ⟨hhe, h0, h47⟩
  all_goals
    go_enter Tryd.func20, Tryd.ntmps20
    go_wp2
    go_loop [3] (fun i => ∃ k : Nat, k ≤ s.size ∧ i = .int .i64 k ∧ Hid ((0 : UInt8) ∉ s.data.toList.take k)) (fun i => s.size - (intOf i).toNat)
    case atStart => exact ⟨0, Nat.zero_le _, rfl, by simp [Hid]⟩
    case round =>
      obtain ⟨k, hk, rfl, HZ⟩ := hrel
      by_cases h1 : k < s.size
      · by_cases h2 : (((s[k].toNat : Nat) : Int) == 0) = true
        · go_wp2
          go_ret
          have e0 : s[k] = 0 := UInt8.toNat_inj.1 (by have := eq_of_beq h2; show s[k].toNat = 0; omega)
          have hm : (0 : UInt8) ∈ s.data.toList := by
            have := Lib.data_getElem? s k h1
            rw [e0] at this
            exact List.mem_of_getElem? this
          exact ⟨ret_bool (bad_zero hm).symm, Below.refl _ _⟩
        · have h2' : (((s[k].toNat : Nat) : Int) == 0) = false := by simpa using h2
          clear h2
          go_wp2
          go_round
          case rel =>
            refine ⟨k + 1, by omega, by go_num, ?_⟩
            unfold Hid
            rw [data_take_succ s k h1]
            intro hm
            rcases List.mem_append.1 hm with hm | hm
            · exact HZ.out hm
            · simp at hm
              rw [← hm] at h2'
              simp at h2'
          case measure => simp [intOf]; omega
      · have h0z : Hid ((0 : UInt8) ∉ s.data.toList) := by
          have := HZ.out
          rwa [List.take_of_length_le (by rw [← Lib.size_eq]; omega)] at this
        clear HZ
        go_wp2_with fail
        refine (rparts_two s hs _).mono ?_
        rintro e w1 ⟨hb1, ⟨rfl, hnil⟩ | ⟨g, cap, ds, rfl, hd, hc, hlen, hg⟩⟩
        · have hbad : Hid (badB s.data.toList = false) := by
            have := bad_rest HH.out h0z.out (ds := []) (by rw [hnil]; rfl)
            rw [Hid, this]; rfl
          clear hnil
          go_wp2
          refine wp_loop_rounds 1 ?_
          rw [rounds_succ]
          go_wp2
          go_ret
          exact ⟨ret_bool hbad.out.symm, hb1⟩
        · have hbad : Hid (badB s.data.toList = (ds.map (fun d => d.data.toList)).any (fun p => p == [46, 46])) := bad_rest HH.out h0z.out hd
          clear hd
          go_wp2
          go_loop [5] (fun i => ∃ j : Nat, j ≤ ds.length ∧ i = .int .i64 j ∧ noDots ds j) (fun i => ds.length - (intOf i).toNat)
          case atStart => exact ⟨0, Nat.zero_le _, rfl, by simp [noDots]⟩
          case round =>
            obtain ⟨j, hj, rfl, hno⟩ := hrel
            by_cases h3 : j < ds.length
            · have hcj := hc j h3
              have hgd : ds.getD j ByteArray.empty = ds[j] := by simp [List.getD, h3]
              rw [hgd] at hcj
              clear hgd
              by_cases h4 : (ds[j].toList == [46, 46]) = true
              · go_wp2
                go_ret
                exact ⟨ret_bool (by rw [hbad.out, dots_hit h3 h4]), hb1⟩
              · have h4' : (ds[j].toList == [46, 46]) = false := by simpa using h4
                clear h4
                go_wp2
                go_round
                case rel => exact ⟨j + 1, by omega, by go_num, noDots_succ hno h3 h4'⟩
                case measure => simp [intOf]; omega
            · go_wp2
              go_ret
              exact ⟨ret_bool (by rw [hbad.out, noDots_all hno (by omega)]), hb1⟩

theorem rbad_any (s : ByteArray) (hs : s.size ≤ 1048576) (w : World) :
    Calls Tryd.prog 20 #[.string s] w fun e w' => e = .returned (.bool (badB s.data.toList)) ∧ Below w.heap.size w w' := by
  by_cases hh : s.data.toList.head? = some (47 : UInt8)
  · rw [bad_head hh]
    exact (rbad_slash s hh w).mono fun e w' h => ⟨h.1, by rw [h.2]; exact Below.refl _ _⟩
  · exact rbad_rest s hs hh w

end Go.Proofs.YtpbkmdnnhlkfbaaDoor
