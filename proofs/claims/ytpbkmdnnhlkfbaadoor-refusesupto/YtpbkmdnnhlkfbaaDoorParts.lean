/-
  OWN TEXT. stow.parts: the parts of a path, one behind the other.
-/
import Derived.Test.YtpbkmdnnhlkfbaaDoorSplit
namespace Go.Proofs.YtpbkmdnnhlkfbaaDoor
open Go Go.RowKit Go.Shelf

attribute [local go_sem] Oper.semAt_some

/-- From block N on all is as it was. -/
def above (N : Nat) (A B : World) : Prop := A.heap.size ≤ B.heap.size ∧ ∀ k, N ≤ k → k < A.heap.size → B.heap[k]? = A.heap[k]?

/-- At the wide fence a round is one at whatever depth, and within whatever round. -/
theorem yieldAt_wide {m : Nat} (l₀ m' : Nat) {P : Program} {l : Nat} {args : Array Value} {W : World} {R : Ending → World → Prop} (h : YieldAt Fence.wide m P l args W R) : YieldAt (Fence.wide.inRound l₀) m' P l args W R := by
  obtain ⟨fn, tmps, assign, body, hy, hR⟩ := h
  exact ⟨fn, tmps, assign, body, hy, hR.1, fun c cs _ => hR.2 c cs (room_wide _)⟩

theorem okp_no {x : List UInt8} (h : okp x = false) (pre : Parts) : (pre ++ [x]).filter okp = pre.filter okp := by simp [List.filter_append, h]
theorem okp_yes {x : List UInt8} (h : okp x = true) (pre : Parts) : (pre ++ [x]).filter okp = pre.filter okp ++ [x] := by simp [List.filter_append, h]

set_option maxRecDepth 100000 in
set_option maxHeartbeats 1000000 in
theorem parts1_iter (n : Nat) (hn : 5 ≤ n) (Bp : Nat) (path : ByteArray) (W : World) (hB : Bp < W.heap.size) (hc : W.cell? ⟨Bp, 0, none⟩ = some (.string path)) (hsz : path.size ≤ maxLen) :
    Iter n Tryd.prog 50 #[.pointer (some ⟨Bp, 0, none⟩)] (fun xs => xs = prts path.data.toList) (fun pre => pre <+: prts path.data.toList) (Below W.heap.size) (above W.heap.size) W := by
  intro l J Jx hJ hJx hY h0
  have h1n : 1 ≤ n := by omega
  refine callsIn_of_wp_marks Tryd.func50 rfl trivial ?_ rfl
  simp only [Tryd.ntmps50, List.size_toArray, List.length_cons, List.length_nil, Nat.reduceAdd, Nat.reduceSub, Array.replicate_succ, Array.replicate_zero, List.push_toArray, List.append_toArray, List.nil_append, List.cons_append]
  have hc1 : ∀ o, (W.alloc o).cell? ⟨Bp, 0, none⟩ = some (.string path) := fun o => (World.cell?_alloc_lt _ _ _ hB).trans hc
  gi_wp2_with (refine ⟨trivial, ?_⟩; gi_at_call 51; refine (callsIn_wide.2 (splitSeq_any _ _)).mono ?_; rintro e w' ⟨rfl, rfl⟩)
  obtain ⟨W4, hW4⟩ : ∃ W4, ((((W.alloc (Obj.cells #[Value.func (Fn.yield l) #[] #[]] 33)).alloc (Obj.cells #[Value.string path] 9)).alloc
          (Obj.cells #[Value.string { data := #[47] }] 9)).alloc (Obj.cells #[Value.int IntKind.i64 0] 3)) = W4 := ⟨_, rfl⟩
  rw [hW4]
  obtain ⟨hz4, hb4, b0, b1, b2, b3⟩ := four_boxes W _ _ _ _ 33 9 9 3 W4 hW4
  have c0 := cell_of_heap b0
  have c1 := cell_of_heap b1
  have c2 := cell_of_heap b2
  have c3 := cell_of_heap b3
  have f1 := frozen_of_heap b1
  clear hW4
  refine rangeFunc_iter (gf := 85) (lb := #[.pointer (some ⟨W.heap.size + 1 + 1, 0, none⟩), .pointer (some ⟨W.heap.size + 1, 0, none⟩), .pointer (some ⟨W.heap.size + 1 + 1 + 1, 0, none⟩)]) h1n rfl (enters_of Tryd.func85 (by kernel_rfl) rfl)
    (fun W1 hb hs => split_iter (n - 1) (by omega) (W.heap.size + 1 + 1) (W.heap.size + 1) (W.heap.size + 1 + 1 + 1) path W1 (by omega) (by omega)
      ((hb.cell (p := ⟨_, 0, none⟩) (by simp; omega)).trans c2) ((hb.cell (p := ⟨_, 0, none⟩) (by simp; omega)).trans c1) ((hb.frozen (p := ⟨_, 0, none⟩) (by simp; omega)).trans f1)
      ((hb.cell (p := ⟨_, 0, none⟩) (by simp; omega)).trans c3) hsz)
    rfl ?hSt ?hKt ?hKp (fun pre A => J (pre.filter okp) A ∧ A.cell? ⟨W.heap.size, 0, none⟩ = some (.func (.yield l) #[] #[])) (fun pre A => Jx (pre.filter okp) A)
    ?hI ?hIx ?hIp ?hIxp ?h0
    (fun x => { tmps := #[Value.func (Fn.yield l) #[] #[], Value.pointer (some { block := Bp, off := 0 }),
          Value.pointer (some { block := W.heap.size, off := 0 }), .string x, Value.string path,
          Value.func (Fn.func 85) #[]
            #[Value.pointer (some { block := W.heap.size + 1 + 1, off := 0 }),
              Value.pointer (some { block := W.heap.size + 1, off := 0 }),
              Value.pointer (some { block := W.heap.size + 1 + 1 + 1, off := 0 })],
          .string x, undef, undef, undef, undef, undef, undef, undef, undef, undef, undef, undef, undef], defers := [] })
    ?assign ?body ?done ?stop
  case hSt =>
    rintro A B hA ⟨v, rfl⟩
    refine ⟨⟨Below.heap_setCell _ _ _ _ (by simp; omega), Below.heap_setCell _ _ _ _ (by simp; omega)⟩, by simp [World.setCell]⟩
  case hKt =>
    rintro A B C ⟨a1, a2, a3⟩ ⟨b1, b2, b3⟩
    exact ⟨⟨b1.1.trans a1.1, b1.2.trans a1.2⟩, ⟨b2.1.trans a2.1, b2.2.trans a2.2⟩, ⟨b3.1.trans a3.1, b3.2.trans a3.2⟩⟩
  case hKp =>
    intro A o
    refine ⟨⟨?_, ?_⟩, ⟨?_, ?_⟩, ⟨?_, ?_⟩⟩
    all_goals first | exact World.cell?_of_block (World.putObj_heap_other (by simp; omega)) | exact World.frozen?_of_block (World.putObj_heap_other (by simp; omega))
  case hI =>
    rintro pre A B ⟨hj, hy⟩ ⟨v, rfl⟩
    exact ⟨hJ _ _ _ hj ((Below.refl _ A).setCell (by simp) v), (cell_far (by simp)).trans hy⟩
  case hIx =>
    rintro pre A B hj ⟨v, rfl⟩
    exact hJx _ _ _ hj ((Below.refl _ A).setCell (by simp) v)
  case hIp =>
    rintro pre A o ⟨hj, hy⟩
    exact ⟨hJ _ _ _ hj (below_putObj (Below.refl _ A) (by omega) _), (World.cell?_of_block (World.putObj_heap_other (by simp; omega))).trans hy⟩
  case hIxp =>
    rintro pre A o hj
    exact hJx _ _ _ hj (below_putObj (Below.refl _ A) (by omega) _)
  case h0 =>
    intro W1 hb hs
    exact ⟨hJ _ _ _ h0 (hb4.trans (hb.mono (by omega))), (hb.cell (p := ⟨_, 0, none⟩) (by simp; omega)).trans c0⟩
  case assign =>
    intro x A K hK
    gi_wp2
    exact hK
  case body =>
    rintro pre x A hx ⟨hj, hy⟩ hz
    have hn1 : 1 ≤ n - 1 - 1 := by omega
    by_cases e1 : x.toList.isEmpty = true
    · gi_wp2
      refine ⟨fun _ h => (by cases h), ?_⟩
      gi_wp2
      refine ⟨⟨rfl, rfl⟩, ⟨⟨rfl, rfl⟩, ⟨rfl, rfl⟩, ⟨rfl, rfl⟩⟩, ?_, hy⟩
      rw [okp_no (by rw [← Lib.toList_data]; simp [okp, e1])]
      exact hj
    · have e1' : x.toList.isEmpty = false := by simpa using e1
      by_cases e2 : (x.toList == [46]) = true
      · gi_wp2
        refine ⟨fun _ h => (by cases h), ?_⟩
        gi_wp2
        refine ⟨⟨rfl, rfl⟩, ⟨⟨rfl, rfl⟩, ⟨rfl, rfl⟩, ⟨rfl, rfl⟩⟩, ?_, hy⟩
        rw [okp_no (by rw [← Lib.toList_data]; simp [okp, e2])]
        exact hj
      · have e2' : (x.toList == [46]) = false := by simpa using e2
        have hok : okp x.data.toList = true := by rw [← Lib.toList_data]; simp [okp, e1', e2']
        have hfil := okp_yes hok (pre := pre)
        clear e1 e2
        obtain ⟨fn, tmps, assign, body, hyy, hR⟩ := yieldAt_wide (W4.heap.size + 1) (n - 1 - 1 - 1) (hY (pre.filter okp) x A hx hj)
        have HF : Hid ((pre ++ [x.data.toList]).filter okp = pre.filter okp ++ [x.data.toList]) := hfil
        clear hfil hok
        gi_wp2
        refine hR.mono ?_
        rintro e B (⟨rfl, hJ3, hab⟩ | ⟨rfl, hJx3, hab⟩)
        · gi_wp2
          have hb := fun k (h1 : W.heap.size ≤ k) (h2 : k < W4.heap.size + 2) => hab.2 k h1 (by omega)
          refine ⟨⟨hb _ (by omega) (by omega), hb _ (by omega) (by omega)⟩, ⟨⟨World.cell?_of_block (hb _ ?_ ?_), World.frozen?_of_block (hb _ ?_ ?_)⟩, ⟨World.cell?_of_block (hb _ ?_ ?_), World.frozen?_of_block (hb _ ?_ ?_)⟩, ⟨World.cell?_of_block (hb _ ?_ ?_), World.frozen?_of_block (hb _ ?_ ?_)⟩⟩, ?_, (World.cell?_of_block (hb _ ?_ ?_)).trans hy⟩
          all_goals first | (dsimp only; omega) | (rw [HF.out]; exact hJ3)
        · gi_wp2
          have hb := fun k (h1 : W.heap.size ≤ k) (h2 : k < W4.heap.size + 2) => hab.2 k h1 (by omega)
          refine ⟨⟨hb _ (by omega) (by omega), hb _ (by omega) (by omega)⟩, ⟨⟨World.cell?_of_block (hb _ ?_ ?_), World.frozen?_of_block (hb _ ?_ ?_)⟩, ⟨World.cell?_of_block (hb _ ?_ ?_), World.frozen?_of_block (hb _ ?_ ?_)⟩, ⟨World.cell?_of_block (hb _ ?_ ?_), World.frozen?_of_block (hb _ ?_ ?_)⟩⟩, ?_⟩
          all_goals first | (dsimp only; omega) | (show Jx _ B; rw [HF.out]; exact hJx3)
  case done =>
    rintro xs A rfl ⟨hj, _⟩ hD
    gi_wp2
    refine ⟨by simp, .inl ⟨_, _, rfl, run_takeDeferred hD, ?_⟩⟩
    refine ⟨_, results_none rfl _ _ _, ⟨_, rfl⟩, .inl ⟨_, rfl, hJ _ _ _ hj (below_putObj (Below.refl _ A) (by omega) _)⟩⟩
  case stop =>
    rintro pre A hp hj hD
    gi_wp2
    refine ⟨by simp, .inl ⟨_, _, rfl, run_takeDeferred hD, ?_⟩⟩
    refine ⟨_, results_none rfl _ _ _, ⟨_, rfl⟩, .inr ⟨_, prts_prefix hp, hJx _ _ _ hj (below_putObj (Below.refl _ A) (by omega) _)⟩⟩

end Go.Proofs.YtpbkmdnnhlkfbaaDoor
