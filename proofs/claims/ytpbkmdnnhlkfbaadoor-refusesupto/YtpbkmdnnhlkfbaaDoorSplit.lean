/-
  OWN TEXT. strings.SplitSeq at the separator '/': the iterator keeps the rest of the text in a cell of its own.
-/
import Derived.Test.YtpbkmdnnhlkfbaaDoorRaw
import Derived.Test.YtpbkmdnnhlkfbaaDoorMath
import Derived.Test.YtpbkmdnnhlkfbaaDoorIdx
import Derived.Shelf.Abstract
import Derived.Shelf.RegionOpen
import Derived.OwnWalkIn
import Derived.TacticsInMore
import Derived.LoopNIn
import Derived.LoopIn
namespace Go.Proofs.YtpbkmdnnhlkfbaaDoor
open Go Go.RowKit Go.Shelf

attribute [local go_sem] Oper.semAt_some

/-- The cell of block b is as it was. -/
def keepsBox (b : Nat) (W W' : World) : Prop := W'.cell? ⟨b, 0, none⟩ = W.cell? ⟨b, 0, none⟩ ∧ W'.frozen? ⟨b, 0, none⟩ = W.frozen? ⟨b, 0, none⟩

/-- How long the text in a block's cell is. -/
def textLen (b : Nat) (W : World) : Nat := match W.cell? ⟨b, 0, none⟩ with
  | some (.string t) => t.size
  | _ => 0

theorem textLen_eq {b : Nat} {W : World} {t : ByteArray} (h : W.cell? ⟨b, 0, none⟩ = some (.string t)) : textLen b W = t.size := by simp [textLen, h]

set_option maxRecDepth 100000 in
set_option maxHeartbeats 1000000 in
theorem split1_in (n : Nat) (hn : 1 ≤ n) (l Bsep Bs Bsave : Nat) (s : ByteArray) (J Jx : List (List UInt8) → World → Prop)
    (hJs : ∀ pre W v, J pre W → J pre (W.setCell ⟨Bs, 0, none⟩ v))
    (hY : ∀ pre (x : ByteArray) W, x.size ≤ maxLen → J pre W → YieldAt Fence.wide (n - 1) Tryd.prog l #[.string x] W fun e W' =>
      (e = .returned (.bool true) ∧ J (pre ++ [x.data.toList]) W' ∧ keepsBox Bsep W W' ∧ keepsBox Bs W W' ∧ keepsBox Bsave W W') ∨ (e = .returned (.bool false) ∧ Jx (pre ++ [x.data.toList]) W'))
    (W : World) (h1 : Bsep ≠ Bs) (h2 : Bsave ≠ Bs) (hsep : W.cell? ⟨Bsep, 0, none⟩ = some (.string ⟨#[47]⟩)) (hs : W.cell? ⟨Bs, 0, none⟩ = some (.string s)) (hf : W.frozen? ⟨Bs, 0, none⟩ = false)
    (hsave : W.cell? ⟨Bsave, 0, none⟩ = some (.int .i64 0)) (hsz : s.size ≤ maxLen) (h0 : J [] W) :
    CallsIn Fence.wide n Tryd.prog 85 #[.func (.yield l) #[] #[], .pointer (some ⟨Bsep, 0, none⟩), .pointer (some ⟨Bs, 0, none⟩), .pointer (some ⟨Bsave, 0, none⟩)] W fun e W' => (∃ v, e = .returned v) ∧
      (J (cuts s.data.toList) W' ∨ (∃ pre, pre <+: cuts s.data.toList ∧ Jx pre W')) := by
  unfold maxLen at hsz
  refine callsIn_of_wp Tryd.func85 rfl trivial ?_ rfl
  simp only [Tryd.ntmps85, List.size_toArray, List.length_cons, List.length_nil, Nat.reduceAdd, Nat.reduceSub, Array.replicate_succ, Array.replicate_zero, List.push_toArray, List.append_toArray, List.nil_append, List.cons_append]
  gi_wp2
  gi_loopw [7] (fun _ wr => ∃ (pre : List (List UInt8)) (t : ByteArray), t.size ≤ 2 ^ 63 - 1 ∧ wr.cell? ⟨Bs, 0, none⟩ = some (.string t) ∧ wr.frozen? ⟨Bs, 0, none⟩ = false ∧ wr.cell? ⟨Bsep, 0, none⟩ = some (.string ⟨#[47]⟩) ∧ wr.cell? ⟨Bsave, 0, none⟩ = some (.int .i64 0) ∧ cuts s.data.toList = pre ++ cuts t.data.toList ∧ J pre wr)
    (fun _ wr => textLen Bs wr)
  case atStart =>
    exact ⟨[], s, hsz, hs, hf, hsep, hsave, rfl, h0⟩
  case round =>
    obtain ⟨pre, t, ht, hc, hfz, hcs, hcv, hx, hj⟩ := hrel
    have HX : Hid (cuts s.data.toList = pre ++ cuts t.data.toList) := hx
    clear hx hsz hs hf hsep hsave
    by_cases hi : Lib.indexByte t.data.toList 47 < 0
    · obtain ⟨fn, tmps, assign, body, hy, hR⟩ := hY pre t wr ht hj
      gi_wp2_with (refine ⟨trivial, ?_⟩; gi_at_call 49; refine (callsIn_wide.2 (index_slash _ _)).mono ?_; rintro e w' ⟨rfl, rfl⟩)
      refine hR.mono ?_
      rintro e W3 (⟨rfl, hJ3, _⟩ | ⟨rfl, hJx3⟩)
      · gi_wp2
        go_end0
        exact ⟨⟨_, rfl⟩, .inl (by rw [HX.out, cuts_idx_none hi]; exact hJ3)⟩
      · gi_wp2
        go_end0
        exact ⟨⟨_, rfl⟩, .inr ⟨_, by rw [HX.out, cuts_idx_none hi]; exact List.prefix_rfl, hJx3⟩⟩
    · obtain ⟨k, hk⟩ : ∃ k : Nat, Lib.indexByte t.data.toList 47 = k := ⟨(Lib.indexByte t.data.toList 47).toNat, by omega⟩
      have hcall : ∀ w, Calls Tryd.prog 49 #[.string t, .string ⟨#[47]⟩] w fun e w' => e = .returned (.int .i64 (k : Int)) ∧ w' = w := fun w => by
        have := index_slash t w; rwa [hk] at this
      have hkl : k < t.size := by have := (idx_split hk).1; rw [← Lib.size_eq] at this; exact this
      have hcut := cuts_idx_some hk
      have HC : Hid (cuts t.data.toList = t.data.toList.take k :: cuts (t.data.toList.drop (k + 1))) := hcut
      clear hcut hk hi
      obtain ⟨fn, tmps, assign, body, hy, hR⟩ := hY pre (t.extract 0 k) wr (by unfold maxLen; simp; omega) hj
      gi_wp2_with (refine ⟨trivial, ?_⟩; gi_at_call 49; refine (callsIn_wide.2 (hcall _)).mono ?_; rintro e w' ⟨rfl, rfl⟩)
      refine hR.mono ?_
      rintro e W3 (⟨rfl, hJ3, k1, k2, k3⟩ | ⟨rfl, hJx3⟩)
      · have e1 := k1.1.trans hcs
        have e2 := k2.1.trans hc
        have e3 := k3.1.trans hcv
        have e4 := k2.2.trans hfz
        clear k1 k2 k3
        gi_wp2
        go_roundw
        case rel => 
          refine ⟨pre ++ [(t.extract 0 k).data.toList], t.extract (k + 1) t.size, ?_, ?_, ?_, ?_, ?_, ?_, ?_⟩
          · simp; omega
          · exact World.cell?_setCell_same' _ _ _ (by rw [e2]; rfl)
          · rw [World.frozen?_setCell]; exact e4
          · rw [cell_far (by simp; omega)]; exact e1
          · rw [cell_far (by simp; omega)]; exact e3
          · rw [HX.out, HC.out, Lib.extract_data, Lib.extract_data]
            simp only [List.drop_zero, Nat.sub_zero, List.append_assoc, List.cons_append, List.nil_append]
            have ed : (t.data.toList.drop (k + 1)).take (t.size - (k + 1)) = t.data.toList.drop (k + 1) := List.take_of_length_le (by rw [List.length_drop, ← Lib.size_eq]; omega)
            rw [ed]
          · exact hJs _ _ _ hJ3
        case measure => 
          rw [textLen_eq hc, textLen_eq (World.cell?_setCell_same' _ _ _ (by rw [e2]; rfl))]
          simp; omega
      · gi_wp2
        refine bodyPost_ret (results_none rfl _ _ _) rfl ?_
        refine ⟨⟨_, rfl⟩, .inr ⟨_, ?_, hJx3⟩⟩
        rw [HX.out, HC.out, Lib.extract_data]
        exact ⟨cuts (t.data.toList.drop (k + 1)), by simp⟩

theorem split_iter (n : Nat) (hn : 1 ≤ n) (Bsep Bs Bsave : Nat) (s : ByteArray)
    (W : World) (h1 : Bsep ≠ Bs) (h2 : Bsave ≠ Bs) (hsep : W.cell? ⟨Bsep, 0, none⟩ = some (.string ⟨#[47]⟩)) (hs : W.cell? ⟨Bs, 0, none⟩ = some (.string s)) (hf : W.frozen? ⟨Bs, 0, none⟩ = false)
    (hsave : W.cell? ⟨Bsave, 0, none⟩ = some (.int .i64 0)) (hsz : s.size ≤ maxLen) :
    Iter n Tryd.prog 85 #[.pointer (some ⟨Bsep, 0, none⟩), .pointer (some ⟨Bs, 0, none⟩), .pointer (some ⟨Bsave, 0, none⟩)] (fun xs => xs = cuts s.data.toList) (fun pre => pre <+: cuts s.data.toList)
      (fun A B => ∃ v, B = A.setCell ⟨Bs, 0, none⟩ v) (fun A B => keepsBox Bsep A B ∧ keepsBox Bs A B ∧ keepsBox Bsave A B) W := by
  intro l J Jx hJ _ hY h0
  refine (split1_in n hn l Bsep Bs Bsave s J Jx (fun pre A v h => hJ pre A _ h ⟨v, rfl⟩) ?_ W h1 h2 hsep hs hf hsave hsz h0).mono ?_
  · intro pre x A hx hj
    obtain ⟨fn, tmps, assign, body, hy, hR⟩ := hY pre x A hx hj
    exact ⟨fn, tmps, assign, body, hy, hR.mono (fun e B h => h.elim .inl (fun h => .inr ⟨h.1, h.2.1⟩))⟩
  rintro e B ⟨hv, h | h⟩
  · exact ⟨hv, .inl ⟨_, rfl, h⟩⟩
  · exact ⟨hv, .inr h⟩

set_option maxHeartbeats 400000 in
theorem splitSeq_any (s : ByteArray) (w : World) :
    Calls Tryd.prog 51 #[.string s, .string ⟨#[47]⟩] w fun e w' =>
      e = .returned (.func (.func 85) #[] #[.pointer (some ⟨w.heap.size + 1, 0, none⟩), .pointer (some ⟨w.heap.size, 0, none⟩), .pointer (some ⟨w.heap.size + 1 + 1, 0, none⟩)]) ∧
      w' = ((w.alloc (.cells #[.string s] 9)).alloc (.cells #[.string ⟨#[47]⟩] 9)).alloc (.cells #[.int .i64 0] 3) := by
  go_enter Tryd.func51, Tryd.ntmps51
  go_wp2
  go_ret
  exact ⟨rfl, rfl⟩

end Go.Proofs.YtpbkmdnnhlkfbaaDoor
