/-
  OWN TEXT. stow.strays, stow.fits.
-/
import Derived.Test.YtpbkmdnnhlkfbaaDoorParts
namespace Go.Proofs.YtpbkmdnnhlkfbaaDoor
open Go Go.RowKit Go.Shelf

attribute [local go_sem] Oper.semAt_some

/-- A path that begins with a slash, has a zero byte or a part '..'. -/
def badB (l : List UInt8) : Bool := decide (l.head? = some (47 : UInt8)) || decide ((0 : UInt8) ∈ l) || (prts l).any (fun p => p == [46, 46])

theorem above_refl (N : Nat) (A : World) : above N A A := ⟨Nat.le_refl _, fun _ _ _ => rfl⟩
theorem above_trans {N : Nat} {A B C : World} (h : above N A B) (k : above N B C) : above N A C :=
  ⟨Nat.le_trans h.1 k.1, fun i h1 h2 => (k.2 i h1 (Nat.lt_of_lt_of_le h2 h.1)).trans (h.2 i h1 h2)⟩
theorem above_putObj {N : Nat} (A : World) {l : Nat} (hl : l < N) (o : Obj) : above N A (A.putObj l o) := ⟨by simp, fun i h1 _ => World.putObj_heap_other (by omega)⟩
theorem above_setCell {N : Nat} (A : World) {a : Addr} (hl : a.block < N) (v : Value) : above N A (A.setCell a v) := ⟨by simp [World.setCell], fun i h1 _ => Below.heap_setCell _ _ _ _ (by omega)⟩
theorem any_prefix {a b : Parts} {f : List UInt8 → Bool} (h : a <+: b) (ha : a.any f = true) : b.any f = true := by
  obtain ⟨c, rfl⟩ := h; rw [List.any_append, ha]; rfl

set_option maxHeartbeats 400000 in
theorem parts_any (s : ByteArray) (w : World) :
    Calls Tryd.prog 32 #[.string s] w fun e w' => e = .returned (.func (.func 50) #[] #[.pointer (some ⟨w.heap.size, 0, none⟩)]) ∧ w' = w.alloc (.cells #[.string s] 9) := by
  go_enter Tryd.func32, Tryd.ntmps32
  go_wp2
  go_ret
  exact ⟨rfl, rfl⟩

set_option maxRecDepth 100000 in
set_option maxHeartbeats 1000000 in
theorem strays_in (n : Nat) (hn : 10 ≤ n) (s : ByteArray) (hs : s.size ≤ maxLen) (w : World) :
    CallsIn Fence.wide n Tryd.prog 17 #[.string s] w fun e w' => e = .returned (.bool (badB s.data.toList)) ∧ Below w.heap.size w w' := by
  have h1n : 1 ≤ n := by omega
  by_cases hp : s.data.toList.head? = some (47 : UInt8)
  · have hpc : ∀ w, Calls Tryd.prog 30 #[.string s, .string ⟨#[47]⟩] w fun e w' => e = .returned (.bool true) ∧ w' = w := fun w => by
      have := hasPrefix_slash s w hs; rwa [decide_eq_true hp] at this
    have hbad : badB s.data.toList = true := by simp [badB, hp]
    rw [hbad]
    clear hbad hp
    refine callsIn_of_wp_marks Tryd.func17 rfl trivial ?_ rfl
    simp only [Tryd.ntmps17, List.size_toArray, List.length_cons, List.length_nil, Nat.reduceAdd, Nat.reduceSub, Array.replicate_succ, Array.replicate_zero, List.push_toArray, List.append_toArray, List.nil_append, List.cons_append]
    gi_wp2_with (refine ⟨trivial, ?_⟩; gi_at_call 30; refine (callsIn_wide.2 (hpc _)).mono ?_; rintro e w' ⟨rfl, rfl⟩)
    refine ⟨trivial, ?_⟩
    gi_wp2
    have hh := World.alloc_heap_new w (.cells #[Value.bool true] 4)
    refine ⟨.bool true, by simp [results, Tryd.f17, go_sem, cell_of_heap hh], rfl, (Below.refl _ w).alloc (Nat.le_refl _) _⟩
  · have hpc : ∀ w, Calls Tryd.prog 30 #[.string s, .string ⟨#[47]⟩] w fun e w' => e = .returned (.bool false) ∧ w' = w := fun w => by
      have := hasPrefix_slash s w hs; rwa [decide_eq_false hp] at this
    by_cases hz : (0 : UInt8) ∈ s.data.toList
    · have hzc : ∀ w, Calls Tryd.prog 31 #[.string s, .string ⟨#[0]⟩] w fun e w' => e = .returned (.bool true) ∧ w' = w := fun w => by
        have := contains_zero s w; rwa [decide_eq_true hz] at this
      have hbad : badB s.data.toList = true := by simp [badB, hz]
      rw [hbad]
      clear hbad hp hz
      refine callsIn_of_wp_marks Tryd.func17 rfl trivial ?_ rfl
      simp only [Tryd.ntmps17, List.size_toArray, List.length_cons, List.length_nil, Nat.reduceAdd, Nat.reduceSub, Array.replicate_succ, Array.replicate_zero, List.push_toArray, List.append_toArray, List.nil_append, List.cons_append]
      gi_wp2_with (first | (refine ⟨trivial, ?_⟩; gi_at_call 30; refine (callsIn_wide.2 (hpc _)).mono ?_; rintro e w' ⟨rfl, rfl⟩) | (refine ⟨trivial, ?_⟩; gi_at_call 31; refine (callsIn_wide.2 (hzc _)).mono ?_; rintro e w' ⟨rfl, rfl⟩))
      have hh := World.alloc_heap_new w (.cells #[Value.bool true] 4)
      refine ⟨.bool true, by simp [results, Tryd.f17, go_sem, cell_of_heap hh], rfl, (Below.refl _ w).alloc (Nat.le_refl _) _⟩
    · have hzc : ∀ w, Calls Tryd.prog 31 #[.string s, .string ⟨#[0]⟩] w fun e w' => e = .returned (.bool false) ∧ w' = w := fun w => by
        have := contains_zero s w; rwa [decide_eq_false hz] at this
      have hbad : badB s.data.toList = (prts s.data.toList).any (fun p => p == [46, 46]) := by simp [badB, hz, hp]
      rw [hbad]
      clear hbad hp hz
      refine callsIn_of_wp_marks Tryd.func17 rfl trivial ?_ rfl
      simp only [Tryd.ntmps17, List.size_toArray, List.length_cons, List.length_nil, Nat.reduceAdd, Nat.reduceSub, Array.replicate_succ, Array.replicate_zero, List.push_toArray, List.append_toArray, List.nil_append, List.cons_append]
      gi_wp2_with (first | (refine ⟨trivial, ?_⟩; gi_at_call 30; refine (callsIn_wide.2 (hpc _)).mono ?_; rintro e w' ⟨rfl, rfl⟩) | (refine ⟨trivial, ?_⟩; gi_at_call 31; refine (callsIn_wide.2 (hzc _)).mono ?_; rintro e w' ⟨rfl, rfl⟩) | (refine ⟨trivial, ?_⟩; gi_at_call 32; refine (callsIn_wide.2 (parts_any _ _)).mono ?_; rintro e w' ⟨rfl, rfl⟩))
      obtain ⟨W4, hW4⟩ : ∃ W4, ((w.alloc (Obj.cells #[Value.bool false] 4)).alloc (Obj.cells #[Value.string s] 9)) = W4 := ⟨_, rfl⟩
      rw [hW4]
      obtain ⟨hz4, hb4, b0, b1⟩ := two_boxes w _ _ 4 9 W4 hW4
      clear hW4
      refine rangeFunc_iter (gf := 50) (lb := #[.pointer (some ⟨w.heap.size + 1, 0, none⟩)]) (St := Below (W4.heap.size + 2)) (Kp := above (W4.heap.size + 2)) h1n rfl (enters_of Tryd.func50 (by kernel_rfl) rfl)
        (fun W1 hb hs1 => by
          have := parts1_iter (n - 1) (by omega) (w.heap.size + 1) s W1 (by omega) ((hb.cell (p := ⟨_, 0, none⟩) (by dsimp only; omega)).trans (cell_of_heap b1)) hs
          rwa [hs1] at this)
        rfl ?hSt ?hKt ?hKp
        (fun pre A => Boxed A w.heap.size 4 (.bool false) ∧ pre.any (fun p => p == [46, 46]) = false ∧ Below w.heap.size w A)
        (fun pre A => Boxed A w.heap.size 4 (.bool true) ∧ pre.any (fun p => p == [46, 46]) = true ∧ Below w.heap.size w A)
        ?hI ?hIx ?hIp ?hIxp ?h0
        (fun x => { tmps := #[Value.string s, undef, Value.pointer (some { block := w.heap.size, off := 0 }), .string x, Value.string s,
          Value.bool false, Value.bool false, Value.string s, Value.bool false, Value.bool false, Value.string s,
          Value.func (Fn.func 50) #[] #[Value.pointer (some { block := w.heap.size + 1, off := 0 })], .string x, undef, undef], defers := [] })
        ?assign ?body ?done ?stop
      case hSt =>
        intro A B hA hst
        exact ⟨⟨hst.block _ (by omega), hst.block _ (by omega)⟩, hst.size⟩
      case hKt =>
        intro A B C h1 h2
        exact above_trans h1 h2
      case hKp =>
        intro A o
        exact above_putObj A (by omega) o
      case hI =>
        rintro pre A B ⟨h1, h2, h3⟩ hst
        exact ⟨(hst.block _ (by omega)).trans h1, h2, h3.trans (hst.mono (by omega))⟩
      case hIx =>
        rintro pre A B ⟨h1, h2, h3⟩ hst
        exact ⟨(hst.block _ (by omega)).trans h1, h2, h3.trans (hst.mono (by omega))⟩
      case hIp =>
        rintro pre A o ⟨h1, h2, h3⟩
        exact ⟨(World.putObj_heap_other (by omega)).trans h1, h2, below_putObj h3 (by omega) _⟩
      case hIxp =>
        rintro pre A o ⟨h1, h2, h3⟩
        exact ⟨(World.putObj_heap_other (by omega)).trans h1, h2, below_putObj h3 (by omega) _⟩
      case h0 =>
        intro W1 hb _
        exact ⟨(hb.block _ (by omega)).trans b0, rfl, hb4.trans (hb.mono (by omega))⟩
      case assign =>
        intro x A K hK
        gi_wp2
        exact hK
      case body =>
        rintro pre x A hx ⟨h1, h2, h3⟩ hz
        have hc := h1.cell
        have hf := h1.frozen
        by_cases e1 : (x.toList == [46, 46]) = true
        · gi_wp2
          refine ⟨⟨Below.heap_setCell _ _ _ _ (by dsimp only; omega), Below.heap_setCell _ _ _ _ (by dsimp only; omega)⟩, above_setCell _ (by dsimp only; omega) _, h1.set _, ?_, h3.setCell (by simp) _⟩
          rw [List.any_append, ← Lib.toList_data]; simp [e1]
        · have e1' : (x.toList == [46, 46]) = false := by simpa using e1
          clear e1
          gi_wp2
          refine ⟨⟨rfl, rfl⟩, above_refl _ _, h1, ?_, h3⟩
          rw [List.any_append, ← Lib.toList_data, h2]; simp [e1']
      case done =>
        rintro xs A rfl ⟨h1, h2, h3⟩ hD
        have hc := h1.cell
        have hf := h1.frozen
        gi_wp2
        have hD' : (A.setCell ⟨w.heap.size, 0, none⟩ (.bool false)).heap[W4.heap.size]? = some (.deferred (some [])) := (Below.heap_setCell _ _ _ _ (by dsimp only; omega)).trans hD
        refine ⟨by simp, .inl ⟨_, _, rfl, run_takeDeferred hD', ?_⟩⟩
        have hb5 : Boxed ((A.setCell ⟨w.heap.size, 0, none⟩ (.bool false)).putObj W4.heap.size (.deferred none)) w.heap.size 4 (.bool false) := (World.putObj_heap_other (by omega)).trans (h1.set _)
        have hc5 := hb5.cell
        refine ⟨.bool false, by simp [results, Tryd.f17, go_sem, hc5], by rw [h2], below_putObj (h3.setCell (by simp) _) (by omega) _⟩
      case stop =>
        rintro pre A hp ⟨h1, h2, h3⟩ hD
        gi_wp2
        refine ⟨by simp, .inl ⟨_, _, rfl, run_takeDeferred hD, ?_⟩⟩
        have hb5 : Boxed (A.putObj W4.heap.size (.deferred none)) w.heap.size 4 (.bool true) := (World.putObj_heap_other (by omega)).trans h1
        have hc5 := hb5.cell
        refine ⟨.bool true, by simp [results, Tryd.f17, go_sem, hc5], ?_, below_putObj h3 (by omega) _⟩
        rw [any_prefix hp h2]

/-- Not too many parts, none too long. -/
def shortB (l : Parts) : Bool := decide (l.length ≤ 6) && l.all (fun p => decide (p.length ≤ 30))
def fitsB (l : List UInt8) (least : Int) : Bool := shortB (prts l) && decide (least ≤ ((prts l).length : Int))

theorem short_prefix {a b : Parts} (h : a <+: b) (ha : shortB a = false) : shortB b = false := by
  obtain ⟨c, rfl⟩ := h
  rw [Bool.eq_false_iff] at ha ⊢
  intro hb
  apply ha
  simp only [shortB, Bool.and_eq_true, decide_eq_true_eq, List.length_append, List.all_append] at hb ⊢
  exact ⟨by omega, hb.2.1⟩

theorem short_snoc {a : Parts} {x : List UInt8} (ha : shortB a = true) : shortB (a ++ [x]) = (decide (a.length + 1 ≤ 6) && decide (x.length ≤ 30)) := by
  simp only [shortB, Bool.and_eq_true, decide_eq_true_eq] at ha
  simp [shortB, ha.2]

set_option maxRecDepth 100000 in
set_option maxHeartbeats 1000000 in
theorem fits_in (n : Nat) (hn : 10 ≤ n) (s : ByteArray) (least : Int) (hs : s.size ≤ maxLen) (w : World) :
    CallsIn Fence.wide n Tryd.prog 18 #[.string s, .int .i64 least] w fun e w' => e = .returned (.bool (fitsB s.data.toList least)) ∧ Below w.heap.size w w' := by
  have h1n : 1 ≤ n := by omega
  refine callsIn_of_wp_marks Tryd.func18 rfl trivial ?_ rfl
  simp only [Tryd.ntmps18, List.size_toArray, List.length_cons, List.length_nil, Nat.reduceAdd, Nat.reduceSub, Array.replicate_succ, Array.replicate_zero, List.push_toArray, List.append_toArray, List.nil_append, List.cons_append]
  gi_wp2_with (refine ⟨trivial, ?_⟩; gi_at_call 32; refine (callsIn_wide.2 (parts_any _ _)).mono ?_; rintro e w' ⟨rfl, rfl⟩)
  obtain ⟨W4, hW4⟩ : ∃ W4, (((w.alloc (Obj.cells #[Value.bool false] 4)).alloc (Obj.cells #[Value.int .i64 0] 3)).alloc (Obj.cells #[Value.string s] 9)) = W4 := ⟨_, rfl⟩
  rw [hW4]
  obtain ⟨hz4, hb4, b0, b1, b2⟩ := three_boxes w _ _ _ 4 3 9 W4 hW4
  clear hW4
  refine rangeFunc_iter (gf := 50) (lb := #[.pointer (some ⟨w.heap.size + 1 + 1, 0, none⟩)]) (St := Below (W4.heap.size + 2)) (Kp := above (W4.heap.size + 2)) h1n rfl (enters_of Tryd.func50 (by kernel_rfl) rfl)
    (fun W1 hb hs1 => by
      have := parts1_iter (n - 1) (by omega) (w.heap.size + 1 + 1) s W1 (by omega) ((hb.cell (p := ⟨_, 0, none⟩) (by dsimp only; omega)).trans (cell_of_heap b2)) hs
      rwa [hs1] at this)
    rfl ?hSt ?hKt ?hKp
    (fun pre A => Boxed A w.heap.size 4 (.bool false) ∧ Boxed A (w.heap.size + 1) 3 (.int .i64 pre.length) ∧ shortB pre = true ∧ Below w.heap.size w A)
    (fun pre A => Boxed A w.heap.size 4 (.bool false) ∧ shortB pre = false ∧ Below w.heap.size w A)
    ?hI ?hIx ?hIp ?hIxp ?h0
    (fun x => { tmps := #[Value.string s, .int .i64 least, undef, undef, Value.pointer (some { block := w.heap.size, off := 0 }), Value.pointer (some { block := w.heap.size + 1, off := 0 }), .string x, Value.string s,
      Value.func (Fn.func 50) #[] #[Value.pointer (some { block := w.heap.size + 1 + 1, off := 0 })], .string x, undef, undef, undef, undef, undef, undef, undef, undef, undef, undef, undef, undef], defers := [] })
    ?assign ?body ?done ?stop
  case hSt =>
    intro A B hA hst
    exact ⟨⟨hst.block _ (by omega), hst.block _ (by omega)⟩, hst.size⟩
  case hKt =>
    intro A B C h1 h2
    exact above_trans h1 h2
  case hKp =>
    intro A o
    exact above_putObj A (by omega) o
  case hI =>
    rintro pre A B ⟨h1, h2, h4, h3⟩ hst
    exact ⟨(hst.block _ (by omega)).trans h1, (hst.block _ (by omega)).trans h2, h4, h3.trans (hst.mono (by omega))⟩
  case hIx =>
    rintro pre A B ⟨h1, h2, h3⟩ hst
    exact ⟨(hst.block _ (by omega)).trans h1, h2, h3.trans (hst.mono (by omega))⟩
  case hIp =>
    rintro pre A o ⟨h1, h2, h4, h3⟩
    exact ⟨(World.putObj_heap_other (by omega)).trans h1, (World.putObj_heap_other (by omega)).trans h2, h4, below_putObj h3 (by omega) _⟩
  case hIxp =>
    rintro pre A o ⟨h1, h2, h3⟩
    exact ⟨(World.putObj_heap_other (by omega)).trans h1, h2, below_putObj h3 (by omega) _⟩
  case h0 =>
    intro W1 hb _
    exact ⟨(hb.block _ (by omega)).trans b0, (hb.block _ (by omega)).trans b1, rfl, hb4.trans (hb.mono (by omega))⟩
  case assign =>
    intro x A K hK
    gi_wp2
    exact hK
  case body =>
    rintro pre x A hx ⟨h1, h2, h4, h3⟩ hz
    have hk : pre.length ≤ 6 := by simp only [shortB, Bool.and_eq_true, decide_eq_true_eq] at h4; exact h4.1
    have hsn := short_snoc (x := x.data.toList) h4
    rw [← Lib.size_eq] at hsn
    have HS : Hid (shortB (pre ++ [x.data.toList]) = (decide (pre.length + 1 ≤ 6) && decide (x.size ≤ 30))) := hsn
    clear hsn h4
    unfold maxLen at hx
    obtain ⟨k, hkk⟩ : ∃ k, pre.length = k := ⟨_, rfl⟩
    have hl : (pre ++ [x.data.toList]).length = k + 1 := by simp [hkk]
    have HL : Hid ((pre ++ [x.data.toList]).length = k + 1) := hl
    rw [hkk] at h2 HS hk
    clear hl hkk
    have hc1 := h1.cell
    have hf1 := h1.frozen
    have hc2 := h2.cell
    have hf2 := h2.frozen
    have hB1 : Boxed (A.setCell ⟨w.heap.size + 1, 0, none⟩ (.int .i64 (k + 1))) w.heap.size 4 (.bool false) := h1.other (by omega) _
    have hc3 := hB1.cell
    have hf3 := hB1.frozen
    by_cases e1 : 6 < (k : Int) + 1
    · gi_wp2
      refine ⟨⟨(Below.heap_setCell _ _ _ _ (by dsimp only; omega)).trans (Below.heap_setCell _ _ _ _ (by dsimp only; omega)), (Below.heap_setCell _ _ _ _ (by dsimp only; omega)).trans (Below.heap_setCell _ _ _ _ (by dsimp only; omega))⟩,
        above_trans (above_setCell _ (by dsimp only; omega) _) (above_setCell _ (by dsimp only; omega) _), hB1.set _, ?_, (h3.setCell (by simp) _).setCell (by simp) _⟩
      rw [HS.out, decide_eq_false (by omega : ¬ k + 1 ≤ 6)]; rfl
    · by_cases e2 : 30 < x.size
      · gi_wp2
        refine ⟨⟨(Below.heap_setCell _ _ _ _ (by dsimp only; omega)).trans (Below.heap_setCell _ _ _ _ (by dsimp only; omega)), (Below.heap_setCell _ _ _ _ (by dsimp only; omega)).trans (Below.heap_setCell _ _ _ _ (by dsimp only; omega))⟩,
          above_trans (above_setCell _ (by dsimp only; omega) _) (above_setCell _ (by dsimp only; omega) _), hB1.set _, ?_, (h3.setCell (by simp) _).setCell (by simp) _⟩
        rw [HS.out, decide_eq_false (by omega : ¬ x.size ≤ 30)]; simp
      · gi_wp2
        refine ⟨⟨Below.heap_setCell _ _ _ _ (by dsimp only; omega), Below.heap_setCell _ _ _ _ (by dsimp only; omega)⟩, above_setCell _ (by dsimp only; omega) _, hB1, ?_, ?_, h3.setCell (by simp) _⟩
        · have := h2.set (.int .i64 (k + 1))
          rw [HL.out]
          exact this
        · rw [HS.out, decide_eq_true (by omega : k + 1 ≤ 6), decide_eq_true (by omega : x.size ≤ 30)]; rfl
  case done =>
    rintro xs A rfl ⟨h1, h2, h4, h3⟩ hD
    have hc1 := h1.cell
    have hf1 := h1.frozen
    have hc2 := h2.cell
    gi_wp2
    have hD' : (A.setCell ⟨w.heap.size, 0, none⟩ (.bool (decide (least ≤ ((prts s.data.toList).length : Int))))).heap[W4.heap.size]? = some (.deferred (some [])) := (Below.heap_setCell _ _ _ _ (by dsimp only; omega)).trans hD
    refine ⟨by simp, .inl ⟨_, _, rfl, run_takeDeferred hD', ?_⟩⟩
    have hb5 : Boxed ((A.setCell ⟨w.heap.size, 0, none⟩ (.bool (decide (least ≤ ((prts s.data.toList).length : Int))))).putObj W4.heap.size (.deferred none)) w.heap.size 4 (.bool (decide (least ≤ ((prts s.data.toList).length : Int)))) := (World.putObj_heap_other (by omega)).trans (h1.set _)
    have hc5 := hb5.cell
    refine ⟨.bool (decide (least ≤ ((prts s.data.toList).length : Int))), by simp [results, Tryd.f18, go_sem, hc5], ?_, below_putObj (h3.setCell (by simp) _) (by omega) _⟩
    rw [fitsB, h4]; rfl
  case stop =>
    rintro pre A hp ⟨h1, h2, h3⟩ hD
    gi_wp2
    refine ⟨by simp, .inl ⟨_, _, rfl, run_takeDeferred hD, ?_⟩⟩
    have hb5 : Boxed (A.putObj W4.heap.size (.deferred none)) w.heap.size 4 (.bool false) := (World.putObj_heap_other (by omega)).trans h1
    have hc5 := hb5.cell
    refine ⟨.bool false, by simp [results, Tryd.f18, go_sem, hc5], ?_, below_putObj h3 (by omega) _⟩
    rw [fitsB, short_prefix hp h2]; rfl

end Go.Proofs.YtpbkmdnnhlkfbaaDoor
