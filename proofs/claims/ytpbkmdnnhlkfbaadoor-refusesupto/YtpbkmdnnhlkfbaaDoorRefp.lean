/-
  OWN TEXT. stowref.Parts: the parts of a path, in a slice.
-/
import Derived.Test.YtpbkmdnnhlkfbaaDoorRefd
import Derived.Lib.IndexBytes
namespace Go.Proofs.YtpbkmdnnhlkfbaaDoor
open Go Go.RowKit

theorem info9 : (Tryd.prog.info? 9).map (fun i => (i.zero, i.size, i.bytes)) = some (some (.string ByteArray.empty), 1, 16) := by kernel_rfl

/-- What has been found when the places below k have been looked at, from being where the next piece begins. -/
structure Found (L : List UInt8) (k f : Nat) (ds : List ByteArray) : Prop where
  le : k ≤ L.length + 1
  fk : f ≤ k
  no : (47 : UInt8) ∉ (L.drop f).take (k - f)
  eq : prts L = ds.map (fun d => d.data.toList) ++ prts (L.drop f)
  len : ds.length ≤ f
  fin : k = L.length + 1 → f = L.length + 1

theorem Found.start (L : List UInt8) : Found L 0 0 [] := ⟨by omega, by omega, by simp, by simp, by simp, by omega⟩

theorem Found.done {L : List UInt8} {k f : Nat} {ds : List ByteArray} (h : Found L k f ds) (hk : ¬ k ≤ L.length) : ds.map (fun d => d.data.toList) = prts L := by
  have hl := h.le
  have e := h.fin (by omega)
  rw [h.eq, e, List.drop_of_length_le (by omega)]
  simp [prts, cuts, okp]

theorem prts_nil : prts [] = [] := by simp [prts, cuts, okp]

/-- At the place k a piece ends. -/
def ends (L : List UInt8) (k : Nat) : Prop := k = L.length ∨ L[k]? = some 47

theorem prts_cut {L : List UInt8} {k f : Nat} (hfk : f ≤ k) (hk : k ≤ L.length) (hno : (47 : UInt8) ∉ (L.drop f).take (k - f)) (he : ends L k) :
    prts (L.drop f) = (if okp ((L.drop f).take (k - f)) then [(L.drop f).take (k - f)] else []) ++ prts (L.drop (k + 1)) := by
  rcases he with rfl | he
  · have e1 : (L.drop f).take (L.length - f) = L.drop f := List.take_of_length_le (by simp)
    rw [e1] at hno ⊢
    rw [List.drop_of_length_le (i := L.length + 1) (by omega), prts_nil, prts, cuts_none hno]
    by_cases h : okp (L.drop f) <;> simp [h]
  · obtain ⟨hlt, hv⟩ := List.getElem?_eq_some_iff.1 he
    have e1 : L.drop f = (L.drop f).take (k - f) ++ 47 :: L.drop (k + 1) := by
      have h2 : (L.drop f).drop (k - f) = 47 :: L.drop (k + 1) := by
        rw [List.drop_drop, show f + (k - f) = k by omega, List.drop_eq_getElem_cons hlt, hv]
      rw [← h2, List.take_append_drop]
    have e2 : cuts (L.drop f) = (L.drop f).take (k - f) :: cuts (L.drop (k + 1)) := by
      conv => lhs; rw [e1]
      exact cuts_some _ hno
    rw [prts, e2, prts, List.filter_cons]
    by_cases h : okp ((L.drop f).take (k - f)) <;> simp [h]

theorem Found.skip {L : List UInt8} {k f : Nat} {ds : List ByteArray} (h : Found L k f ds) (hk : k < L.length) (hv : L[k]? ≠ some 47) : Found L (k + 1) f ds := by
  have hfk := h.fk
  refine ⟨by omega, by omega, ?_, h.eq, h.len, by omega⟩
  rw [show k + 1 - f = k - f + 1 by omega, List.take_add_one]
  intro hm
  rcases List.mem_append.1 hm with hm | hm
  · exact h.no hm
  · rw [List.getElem?_drop, show f + (k - f) = k by omega] at hm
    simp at hm
    exact hv hm

theorem Found.cutNo {L : List UInt8} {k f : Nat} {ds : List ByteArray} (h : Found L k f ds) (hk : k ≤ L.length) (he : ends L k) (hok : okp ((L.drop f).take (k - f)) = false) : Found L (k + 1) (k + 1) ds := by
  have hfk := h.fk
  have hl := h.len
  refine ⟨by omega, by omega, by simp, ?_, by omega, by omega⟩
  rw [h.eq, prts_cut hfk hk h.no he, hok]; simp

theorem Found.cutYes {L : List UInt8} {k f : Nat} {ds : List ByteArray} (h : Found L k f ds) (hk : k ≤ L.length) (he : ends L k) (x : ByteArray) (hx : x.data.toList = (L.drop f).take (k - f)) (hok : okp x.data.toList = true) : Found L (k + 1) (k + 1) (ds ++ [x]) := by
  have hfk := h.fk
  have hl := h.len
  refine ⟨by omega, by omega, by simp, ?_, by simp; omega, by omega⟩
  rw [h.eq, prts_cut hfk hk h.no he, ← hx, hok]; simp [hx]

set_option maxRecDepth 100000 in
set_option maxHeartbeats 1000000 in
theorem rparts_any (s : ByteArray) (hs : s.size ≤ 1048576) (w : World) :
    Calls Tryd.prog 19 #[.string s] w fun e w' => ∃ (v : Value) (ds : List ByteArray), e = .returned v ∧ ds.map (fun d => d.data.toList) = prts s.data.toList ∧ w'.ownsRow w.heap.size 9 1 v ds.length (ds.map Value.string) ∧ Below w.heap.size w w' := by
  obtain ⟨i0, hi, hz0, hz1, hz2⟩ := info_parts info9
  go_enter Tryd.func19, Tryd.ntmps19
  go_wp2
  go_loopw [3, 4, 5] (fun v fr i wr => ∃ (k f : Nat) (ds : List ByteArray), i = .int .i64 k ∧ fr = .int .i64 f ∧ Found s.data.toList k f ds ∧ wr.ownsRow w.heap.size 9 1 v ds.length (ds.map Value.string) ∧ Below w.heap.size w wr)
    (fun _ _ i _ => s.size + 1 - (intOf i).toNat)
  case atStart => exact ⟨0, 0, [], rfl, rfl, Found.start _, World.ownsRow_nil _ _ _ _, Below.refl _ _⟩
  case round =>
    obtain ⟨k, f, ds, rfl, rfl, hfd, hown, hnx⟩ := hrel
    have hle := hfd.le
    have hfk := hfd.fk
    have hdl := hfd.len
    rw [← Lib.size_eq] at hle
    by_cases h1 : k ≤ s.size
    · by_cases h2 : k = s.size
      · have h2' : ((k : Int) == (s.size : Int)) = true := by simp [h2]
        have HK2 : Hid (k = s.size) := h2
        clear h2
        have HE : Hid (ends s.data.toList k) := by left; rw [← Lib.size_eq]; exact HK2.out
        have hkl : k ≤ s.data.toList.length := by rw [← Lib.size_eq]; exact h1
        have HKL : Hid (k ≤ s.data.toList.length) := hkl
        have hxd := Lib.extract_data s f k
        have HXD : Hid ((s.extract f k).data.toList = (s.data.toList.drop f).take (k - f)) := hxd
        clear hkl hxd
        by_cases e1 : (s.extract f k).toList.isEmpty = true
        · have hok : Hid (okp ((s.data.toList.drop f).take (k - f)) = false) := by rw [← HXD.out, ← Lib.toList_data]; simp [Hid, okp, e1]
          go_wp2
          go_roundw
          case rel => exact ⟨k + 1, k + 1, ds, by go_num, by go_num, hfd.cutNo HKL.out HE.out hok.out, hown, hnx⟩
          case measure => simp [intOf]; omega
        · have e1' : (s.extract f k).toList.isEmpty = false := by simpa using e1
          clear e1
          by_cases e2 : ((s.extract f k).toList == [46]) = true
          · have hok : Hid (okp ((s.data.toList.drop f).take (k - f)) = false) := by rw [← HXD.out, ← Lib.toList_data]; simp [Hid, okp, e2]
            go_wp2
            go_roundw
            case rel => exact ⟨k + 1, k + 1, ds, by go_num, by go_num, hfd.cutNo HKL.out HE.out hok.out, hown, hnx⟩
            case measure => simp [intOf]; omega
          · have e2' : ((s.extract f k).toList == [46]) = false := by simpa using e2
            clear e2
            have hok : Hid (okp (s.extract f k).data.toList = true) := by rw [← Lib.toList_data]; simp [Hid, okp, e1', e2']
            go_wp2_with (at_builtin; refine wpList_append_own _ rfl _ _ 49 rfl w.heap.size 9 i0 (.string ByteArray.empty) 1 16 Tryd.underlying49 hi hz0 hz1 hz2 rfl (by decide) _ _ _ rfl (hown.alloc _) ⟨wr.heap.size, 0, none⟩ 1 1 [.string (s.extract f k)] rfl rfl (cell_one_new _ _ _) (fun x hx => by simp at hx; subst hx; rfl) (by unfold maxLen; omega) (by omega) (by have := hnx.size; simp; omega) ?_; intro v' w1 hown' hgrow _)
            go_roundw
            case rel => exact ⟨k + 1, k + 1, ds ++ [s.extract f k], by go_num, by go_num, hfd.cutYes HKL.out HE.out _ HXD.out hok.out, by simpa using hown', (hnx.alloc (by have := hnx.size; omega) _).grown hgrow (by have := hnx.size; simp; omega) (fun r hr => (hown.lt r hr).1)⟩
            case measure => simp [intOf]; omega
      · have h2' : ((k : Int) == (s.size : Int)) = false := by simpa using (by omega : ¬ (k : Int) = s.size)
        have h3 : k < s.size := by omega
        clear h2
        have hget := Lib.data_getElem? s k h3
        by_cases h4 : (((s[k].toNat : Nat) : Int) == 47) = true
        · have hb47 : s[k] = 47 := UInt8.toNat_inj.1 (by have := eq_of_beq h4; show s[k].toNat = 47; omega)
          rw [hb47] at hget
          have HG : Hid (s.data.toList[k]? = some 47) := hget
          clear hget hb47
          have HE : Hid (ends s.data.toList k) := Or.inr HG.out
          have hkl : k ≤ s.data.toList.length := by rw [← Lib.size_eq]; exact h1
          have HKL : Hid (k ≤ s.data.toList.length) := hkl
          have hxd := Lib.extract_data s f k
          have HXD : Hid ((s.extract f k).data.toList = (s.data.toList.drop f).take (k - f)) := hxd
          clear hkl hxd
          by_cases e1 : (s.extract f k).toList.isEmpty = true
          · have hok : Hid (okp ((s.data.toList.drop f).take (k - f)) = false) := by rw [← HXD.out, ← Lib.toList_data]; simp [Hid, okp, e1]
            go_wp2
            go_roundw
            case rel => exact ⟨k + 1, k + 1, ds, by go_num, by go_num, hfd.cutNo HKL.out HE.out hok.out, hown, hnx⟩
            case measure => simp [intOf]; omega
          · have e1' : (s.extract f k).toList.isEmpty = false := by simpa using e1
            clear e1
            by_cases e2 : ((s.extract f k).toList == [46]) = true
            · have hok : Hid (okp ((s.data.toList.drop f).take (k - f)) = false) := by rw [← HXD.out, ← Lib.toList_data]; simp [Hid, okp, e2]
              go_wp2
              go_roundw
              case rel => exact ⟨k + 1, k + 1, ds, by go_num, by go_num, hfd.cutNo HKL.out HE.out hok.out, hown, hnx⟩
              case measure => simp [intOf]; omega
            · have e2' : ((s.extract f k).toList == [46]) = false := by simpa using e2
              clear e2
              have hok : Hid (okp (s.extract f k).data.toList = true) := by rw [← Lib.toList_data]; simp [Hid, okp, e1', e2']
              go_wp2_with (at_builtin; refine wpList_append_own _ rfl _ _ 49 rfl w.heap.size 9 i0 (.string ByteArray.empty) 1 16 Tryd.underlying49 hi hz0 hz1 hz2 rfl (by decide) _ _ _ rfl (hown.alloc _) ⟨wr.heap.size, 0, none⟩ 1 1 [.string (s.extract f k)] rfl rfl (cell_one_new _ _ _) (fun x hx => by simp at hx; subst hx; rfl) (by unfold maxLen; omega) (by omega) (by have := hnx.size; simp; omega) ?_; intro v' w1 hown' hgrow _)
              go_roundw
              case rel => exact ⟨k + 1, k + 1, ds ++ [s.extract f k], by go_num, by go_num, hfd.cutYes HKL.out HE.out _ HXD.out hok.out, by simpa using hown', (hnx.alloc (by have := hnx.size; omega) _).grown hgrow (by have := hnx.size; simp; omega) (fun r hr => (hown.lt r hr).1)⟩
              case measure => simp [intOf]; omega
        · have h4' : (((s[k].toNat : Nat) : Int) == 47) = false := by simpa using h4
          have HG : Hid (s.data.toList[k]? ≠ some 47) := by
            rw [hget]; intro e; apply h4; simp at e; rw [e]; rfl
          clear hget h4
          go_wp2
          go_roundw
          case rel => exact ⟨k + 1, f, ds, by go_num, rfl, hfd.skip (by rw [← Lib.size_eq]; exact h3) HG.out, hown, hnx⟩
          case measure => simp [intOf]; omega
    · go_wp2
      go_ret
      exact ⟨_, ds, rfl, hfd.done (by rw [← Lib.size_eq]; exact h1), hown, hnx⟩

end Go.Proofs.YtpbkmdnnhlkfbaaDoor
