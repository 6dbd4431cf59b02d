/-
  OWN TEXT. A range over a function, told with the loop's record open: the caller says of the record and of the block for deferred calls what lies in them; the iterator may keep cells of its own.
-/
import Derived.RangeFuncNested
import Derived.RangeFuncBound
import Derived.RangeFuncCalls
import Derived.RangeFuncLeaves
namespace Go.Proofs.YtpbkmdnnhlkfbaaDoor
open Go Go.RowKit

variable {F : Fence} {n : Nat} {P : Program}

/-- The record of a loop. -/
def lrec (fn : FuncId) (tmps : Array Value) (ps : Array Tmp) (assign body : Code) (D : Nat) (st : LoopState) (pe : Option Code) : Loop :=
  { state := st, pending := pe, fn := fn, tmps := tmps, params := ps, assign := assign, body := body, defers := D }

theorem rangeFunc_raw {g : Operand} {ps : Array Tmp} {assign body : Code} {Q : Exit → Act → World → Prop} {a : Act} {w : World}
    (hro : F.round = none) (h1 : 1 ≤ n) {gf : Nat} {lb : Array Value} (hg : a.eval g = .func (.func gf) #[] lb) (hFg : F.fn gf)
    (eg : ∀ args w, (callFunc gf args).run P w = .ok (.enter gf args) w)
    (h : ∀ fn, F.fn fn → CallsIn F (n - 1) P gf (#[.func (.yield (w.heap.size + 1)) #[] #[]] ++ lb)
      ((w.alloc (.deferred (some []))).alloc (.loop (lrec fn a.tmps ps assign body w.heap.size .ready none)))
      fun e W2 => ∃ v, e = .returned v ∧
        ((W2.heap[w.heap.size + 1]? = some (.loop (lrec fn a.tmps ps assign body w.heap.size .ready none)) ∧
          Q .normal { a with defers := { target := .collected w.heap.size, args := #[] } :: a.defers }
            (W2.putObj (w.heap.size + 1) (.loop (lrec fn a.tmps ps assign body w.heap.size .exhausted none)))) ∨
         (∃ c, W2.heap[w.heap.size + 1]? = some (.loop (lrec fn a.tmps ps assign body w.heap.size .done (some c))) ∧
          c.wpIn F n P Q { a with defers := { target := .collected w.heap.size, args := #[] } :: a.defers }
            (W2.putObj (w.heap.size + 1) (.loop (lrec fn a.tmps ps assign body w.heap.size .exhausted (some c))))))) :
    (Code.rangeFunc g ps assign body).wpIn F n P Q a w := by
  refine wpIn_rangeFunc ?_
  intro fn hfn
  rw [hro]
  obtain ⟨W1, hW1⟩ : ∃ W1, (w.alloc (.deferred (some []))).alloc (.loop (lrec fn a.tmps ps assign body w.heap.size .ready none)) = W1 := ⟨_, rfl⟩
  refine ⟨w.heap.size + 1, [{ target := .collected w.heap.size, args := #[] }], W1, { target := .fn (.func gf) lb, args := #[.func (.yield (w.heap.size + 1)) #[] #[]] }, W1, gf,
    #[.func (.yield (w.heap.size + 1)) #[] #[]] ++ lb, W1, ?_, ?_, ?_, ?_, fun _ => h1, ?_⟩
  · rw [← hW1]; exact run_enterLoop_outer _ _ _ _ _
  · simp only [resolve, hg]
    simp [go_sem]
  · intro f' hf'; simp [Target.leads] at hf'; subst hf'; exact hFg
  · simp [invoke, go_sem, eg]
  · have hc := h fn hfn
    rw [hW1] at hc
    refine hc.mono ?_
    rintro e W2 ⟨v, rfl, (⟨hl, hq⟩ | ⟨c, hl, hq⟩)⟩
    · exact ⟨none, _, run_endLoop (P := P) hl (by simp [lrec]), hq⟩
    · exact ⟨some c, _, run_endLoop (P := P) hl (by simp [lrec]), hq⟩

/-- How a round is left, the record open. -/
def roundOpen (l : Nat) (fn : FuncId) (tmps : Array Value) (ps : Array Tmp) (assign body : Code) (D : Nat) (R : Ending → World → Prop) : Exit → Act → World → Prop
  | .normal, _, W => W.heap[l]? = some (.loop (lrec fn tmps ps assign body D .busy none)) ∧ R (.returned (.bool true)) (W.putObj l (.loop (lrec fn tmps ps assign body D .ready none)))
  | .ret, _, W => W.heap[l]? = some (.loop (lrec fn tmps ps assign body D .busy none)) ∧ R (.returned (.bool false)) (W.putObj l (.loop (lrec fn tmps ps assign body D .done (some .ret))))
  | .exit _, _, _ => False
  | .goto _, _, _ => False
  | .panic _, _, _ => False
  | .outgrown, _, _ => False

theorem yield_raw {l : Nat} {fn : FuncId} {tmps : Array Value} {ps : Array Tmp} {assign body : Code} {D : Nat} {args : Array Value} {W : World} {R : Ending → World → Prop}
    (hfn : F.fn fn) (hl : W.heap[l]? = some (.loop (lrec fn tmps ps assign body D .ready none))) (hs : args.size = ps.size) (a₁ : Act)
    (hassign : ∀ (K : Act → World → Prop), K a₁ W →
      assign.wpIn (F.inRound l) n P (Exit.then K (fun _ _ _ => False)) { tmps := (ps.zip args).foldl (fun t (p, v) => t.setIfInBounds p v) tmps, defers := [] } W)
    (hbody : body.wpIn (F.inRound l) n P (roundOpen l fn tmps ps assign body D R) a₁ (W.putObj l (.loop (lrec fn tmps ps assign body D .busy none)))) :
    YieldAt F n P l args W R := by
  have hy := run_yield (P := P) (args := args) hl hs
  refine ⟨fn, _, assign, body, hy, roundIn_of_wpIn hfn (hassign _ ⟨_, run_beginRound hl rfl, ?_⟩)⟩
  refine wpIn_mono hbody ?_
  rintro e a3 W3 hp
  cases e with
  | normal => obtain ⟨hl3, hr⟩ := hp; exact ⟨_, _, run_endRound (P := P) none hl3, hr⟩
  | ret => obtain ⟨hl3, hr⟩ := hp; exact ⟨_, _, run_endRound (P := P) (some .ret) hl3, hr⟩
  | exit id => exact hp.elim
  | goto t => exact hp.elim
  | panic ch => exact hp.elim
  | outgrown => exact hp.elim

/-! ### Blocks that are turned by number -/
theorem below_putObj {B : Nat} {a W : World} (h : Below B a W) {l : Nat} (hl : B ≤ l) (o : Obj) : Below B a (W.putObj l o) :=
  ⟨h.os, h.tape, h.output, by rw [World.putObj_size]; exact h.size, fun k hk => (World.putObj_heap_other (by omega)).trans (h.block k hk)⟩

theorem cell_far {W : World} {a : Addr} {v : Value} {b : Addr} (h : b.block ≠ a.block) : (W.setCell a v).cell? b = W.cell? b :=
  World.cell?_of_block (Below.heap_setCell W a v _ h)

/-- Blocks laid one behind the other. -/
theorem alloc_heap_lt {W : World} {o o' : Obj} {k : Nat} (h : W.heap[k]? = some o') : (W.alloc o).heap[k]? = some o' :=
  (Below.heap_alloc W o k (Array.getElem?_eq_some_iff.1 h).1).trans h
theorem cell_of_heap {W : World} {B : Nat} {v : Value} {t : TypeId} (h : W.heap[B]? = some (.cells #[v] t (0, 0))) : W.cell? ⟨B, 0, none⟩ = some v := by simp [World.cell?, h]
theorem frozen_of_heap {W : World} {B : Nat} {v : Value} {t : TypeId} (h : W.heap[B]? = some (.cells #[v] t (0, 0))) : W.frozen? ⟨B, 0, none⟩ = false := by simp [World.frozen?, h]

theorem four_boxes (W : World) (v0 v1 v2 v3 : Value) (t0 t1 t2 t3 : TypeId) (W4 : World) (h : (((W.alloc (.cells #[v0] t0)).alloc (.cells #[v1] t1)).alloc (.cells #[v2] t2)).alloc (.cells #[v3] t3) = W4) :
    W4.heap.size = W.heap.size + 4 ∧ Below W.heap.size W W4 ∧ W4.heap[W.heap.size]? = some (.cells #[v0] t0) ∧ W4.heap[W.heap.size + 1]? = some (.cells #[v1] t1) ∧
    W4.heap[W.heap.size + 1 + 1]? = some (.cells #[v2] t2) ∧ W4.heap[W.heap.size + 1 + 1 + 1]? = some (.cells #[v3] t3) := by
  subst h
  refine ⟨by simp, ((((Below.refl _ W).alloc (Nat.le_refl _) _).alloc (by simp) _).alloc (by simp; omega) _).alloc (by simp; omega) _, ?_, ?_, ?_, ?_⟩
  · exact alloc_heap_lt (alloc_heap_lt (alloc_heap_lt (World.alloc_heap_new W _)))
  · have := World.alloc_heap_new (W.alloc (.cells #[v0] t0)) (.cells #[v1] t1)
    rw [World.size_alloc] at this
    exact alloc_heap_lt (alloc_heap_lt this)
  · have := World.alloc_heap_new ((W.alloc (.cells #[v0] t0)).alloc (.cells #[v1] t1)) (.cells #[v2] t2)
    rw [World.size_alloc, World.size_alloc] at this
    exact alloc_heap_lt this
  · have := World.alloc_heap_new (((W.alloc (.cells #[v0] t0)).alloc (.cells #[v1] t1)).alloc (.cells #[v2] t2)) (.cells #[v3] t3)
    rw [World.size_alloc, World.size_alloc, World.size_alloc] at this
    exact this

theorem one_box (W : World) (v0 : Value) (t0 : TypeId) (W4 : World) (h : W.alloc (.cells #[v0] t0) = W4) :
    W4.heap.size = W.heap.size + 1 ∧ Below W.heap.size W W4 ∧ W4.heap[W.heap.size]? = some (.cells #[v0] t0) := by
  subst h
  exact ⟨by simp, (Below.refl _ W).alloc (Nat.le_refl _) _, World.alloc_heap_new W _⟩

theorem two_boxes (W : World) (v0 v1 : Value) (t0 t1 : TypeId) (W4 : World) (h : (W.alloc (.cells #[v0] t0)).alloc (.cells #[v1] t1) = W4) :
    W4.heap.size = W.heap.size + 2 ∧ Below W.heap.size W W4 ∧ W4.heap[W.heap.size]? = some (.cells #[v0] t0) ∧ W4.heap[W.heap.size + 1]? = some (.cells #[v1] t1) := by
  subst h
  refine ⟨by simp, ((Below.refl _ W).alloc (Nat.le_refl _) _).alloc (by simp) _, alloc_heap_lt (World.alloc_heap_new W _), ?_⟩
  have := World.alloc_heap_new (W.alloc (.cells #[v0] t0)) (.cells #[v1] t1)
  rw [World.size_alloc] at this
  exact this

theorem three_boxes (W : World) (v0 v1 v2 : Value) (t0 t1 t2 : TypeId) (W4 : World) (h : ((W.alloc (.cells #[v0] t0)).alloc (.cells #[v1] t1)).alloc (.cells #[v2] t2) = W4) :
    W4.heap.size = W.heap.size + 3 ∧ Below W.heap.size W W4 ∧ W4.heap[W.heap.size]? = some (.cells #[v0] t0) ∧ W4.heap[W.heap.size + 1]? = some (.cells #[v1] t1) ∧
    W4.heap[W.heap.size + 1 + 1]? = some (.cells #[v2] t2) := by
  subst h
  refine ⟨by simp, (((Below.refl _ W).alloc (Nat.le_refl _) _).alloc (by simp) _).alloc (by simp; omega) _, alloc_heap_lt (alloc_heap_lt (World.alloc_heap_new W _)), ?_, ?_⟩
  · have := World.alloc_heap_new (W.alloc (.cells #[v0] t0)) (.cells #[v1] t1)
    rw [World.size_alloc] at this
    exact alloc_heap_lt this
  · have := World.alloc_heap_new ((W.alloc (.cells #[v0] t0)).alloc (.cells #[v1] t1)) (.cells #[v2] t2)
    rw [World.size_alloc, World.size_alloc] at this
    exact this

/-! ### Iterators over texts -/
abbrev Parts := List (List UInt8)

/-- An iterator over texts: it hands yield the texts one behind the other; between two rounds it does steps St; a round that goes on keeps Kp. -/
def Iter (n : Nat) (P : Program) (gf : Nat) (lb : Array Value) (S Sp : Parts → Prop) (St Kp : World → World → Prop) (W : World) : Prop :=
  ∀ (l : Nat) (J Jx : Parts → World → Prop), (∀ pre A B, J pre A → St A B → J pre B) → (∀ pre A B, Jx pre A → St A B → Jx pre B) →
    (∀ pre (x : ByteArray) A, x.size ≤ maxLen → J pre A → YieldAt Fence.wide (n - 1) P l #[.string x] A fun e B =>
      (e = .returned (.bool true) ∧ J (pre ++ [x.data.toList]) B ∧ Kp A B) ∨ (e = .returned (.bool false) ∧ Jx (pre ++ [x.data.toList]) B ∧ Kp A B)) →
    J [] W →
    CallsIn Fence.wide n P gf (#[.func (.yield l) #[] #[]] ++ lb) W fun e B => (∃ v, e = .returned v) ∧ ((∃ xs, S xs ∧ J xs B) ∨ (∃ pre, Sp pre ∧ Jx pre B))

/-- Two blocks are as they were. -/
def keepsTwo (D L : Nat) (A B : World) : Prop := B.heap[D]? = A.heap[D]? ∧ B.heap[L]? = A.heap[L]?

/-- How the body of a round may be left. -/
def iterPost (D L : Nat) (Kp : World → World → Prop) (I Ix : Parts → World → Prop) (xs : Parts) (A : World) : Exit → Act → World → Prop
  | .normal, _, B => keepsTwo D L A B ∧ Kp A B ∧ I xs B
  | .ret, _, B => keepsTwo D L A B ∧ Kp A B ∧ Ix xs B
  | .exit _, _, _ => False
  | .goto _, _, _ => False
  | .panic _, _, _ => False
  | .outgrown, _, _ => False

theorem rangeFunc_iter {g : Operand} {ps : Array Tmp} {assign body : Code} {Q : Exit → Act → World → Prop} {a : Act} {w : World}
    (h1 : 1 ≤ n) {gf : Nat} {lb : Array Value} (hg : a.eval g = .func (.func gf) #[] lb)
    (eg : ∀ args w, (callFunc gf args).run P w = .ok (.enter gf args) w)
    {S Sp : Parts → Prop} {St Kp : World → World → Prop}
    (hit : ∀ W1, Below w.heap.size w W1 → W1.heap.size = w.heap.size + 2 → Iter (n - 1) P gf lb S Sp St Kp W1)
    (hps : ps.size = 1)
    (hSt : ∀ A B, w.heap.size + 2 ≤ A.heap.size → St A B → keepsTwo w.heap.size (w.heap.size + 1) A B ∧ A.heap.size ≤ B.heap.size)
    (hKt : ∀ {A B C : World}, Kp A B → Kp B C → Kp A C) (hKp : ∀ A o, Kp A (A.putObj (w.heap.size + 1) o))
    (I Ix : Parts → World → Prop)
    (hI : ∀ pre A B, I pre A → St A B → I pre B) (hIx : ∀ pre A B, Ix pre A → St A B → Ix pre B)
    (hIp : ∀ pre A o, I pre A → I pre (A.putObj (w.heap.size + 1) o)) (hIxp : ∀ pre A o, Ix pre A → Ix pre (A.putObj (w.heap.size + 1) o))
    (h0 : ∀ W1, Below w.heap.size w W1 → W1.heap.size = w.heap.size + 2 → I [] W1) (a₁ : ByteArray → Act)
    (hassign : ∀ (x : ByteArray) (A : World) (K : Act → World → Prop), K (a₁ x) A →
      assign.wpIn (Fence.wide.inRound (w.heap.size + 1)) (n - 1 - 1) P (Exit.then K (fun _ _ _ => False)) { tmps := (ps.zip #[.string x]).foldl (fun t (p, v) => t.setIfInBounds p v) a.tmps, defers := [] } A)
    (hbody : ∀ (pre : Parts) (x : ByteArray) (A : World), x.size ≤ maxLen → I pre A → w.heap.size + 2 ≤ A.heap.size →
      body.wpIn (Fence.wide.inRound (w.heap.size + 1)) (n - 1 - 1) P (iterPost w.heap.size (w.heap.size + 1) Kp I Ix (pre ++ [x.data.toList]) A) (a₁ x) A)
    (hdone : ∀ (xs : Parts) (A : World), S xs → I xs A → A.heap[w.heap.size]? = some (.deferred (some [])) →
      Q .normal { a with defers := { target := .collected w.heap.size, args := #[] } :: a.defers } A)
    (hstop : ∀ (pre : Parts) (A : World), Sp pre → Ix pre A → A.heap[w.heap.size]? = some (.deferred (some [])) →
      Code.ret.wpIn Fence.wide n P Q { a with defers := { target := .collected w.heap.size, args := #[] } :: a.defers } A) :
    (Code.rangeFunc g ps assign body).wpIn Fence.wide n P Q a w := by
  refine rangeFunc_raw rfl h1 hg trivial eg ?_
  intro fn _
  obtain ⟨R, hR⟩ : ∃ R : LoopState → Option Code → Loop, R = lrec fn a.tmps ps assign body w.heap.size := ⟨_, rfl⟩
  simp only [← hR]
  obtain ⟨W1, hW1⟩ : ∃ W1, (w.alloc (.deferred (some []))).alloc (.loop (R .ready none)) = W1 := ⟨_, rfl⟩
  rw [hW1]
  have hL1 : W1.heap[w.heap.size + 1]? = some (.loop (R .ready none)) := by
    rw [← hW1]; have := World.alloc_heap_new (w.alloc (.deferred (some []))) (.loop (R .ready none)); rwa [World.size_alloc] at this
  have hK1 : W1.heap[w.heap.size]? = some (.deferred (some [])) := by
    rw [← hW1]; exact (Below.heap_alloc _ _ _ (by simp)).trans (World.alloc_heap_new w _)
  have hb1 : Below w.heap.size w W1 := by
    rw [← hW1]; exact ((Below.refl _ w).alloc (Nat.le_refl _) _).alloc (by simp) _
  have hs1 : W1.heap.size = w.heap.size + 2 := by rw [← hW1]; simp
  clear hW1
  refine (hit W1 hb1 hs1 (w.heap.size + 1)
    (fun pre A => I pre A ∧ A.heap[w.heap.size + 1]? = some (.loop (R .ready none)) ∧ A.heap[w.heap.size]? = some (.deferred (some [])) ∧ w.heap.size + 2 ≤ A.heap.size)
    (fun pre A => Ix pre A ∧ A.heap[w.heap.size + 1]? = some (.loop (R .done (some .ret))) ∧ A.heap[w.heap.size]? = some (.deferred (some [])) ∧ w.heap.size + 2 ≤ A.heap.size)
    ?_ ?_ ?_ ⟨h0 W1 hb1 hs1, hL1, hK1, by omega⟩).mono ?_
  · rintro pre A B ⟨hi, hl, hk, hz⟩ hst
    obtain ⟨⟨e1, e2⟩, e3⟩ := hSt A B hz hst
    exact ⟨hI pre A B hi hst, e2.trans hl, e1.trans hk, by omega⟩
  · rintro pre A B ⟨hi, hl, hk, hz⟩ hst
    obtain ⟨⟨e1, e2⟩, e3⟩ := hSt A B hz hst
    exact ⟨hIx pre A B hi hst, e2.trans hl, e1.trans hk, by omega⟩
  · rintro pre x A hx ⟨hi, hl, hk, hz⟩
    rw [hR] at hl
    refine yield_raw trivial hl (by simp [hps]) (a₁ x) (hassign x A) ?_
    have hk2 : (A.putObj (w.heap.size + 1) (.loop (lrec fn a.tmps ps assign body w.heap.size .busy none))).heap[w.heap.size]? = some (.deferred (some [])) := (World.putObj_heap_other (by omega)).trans hk
    have hl2 : (A.putObj (w.heap.size + 1) (.loop (lrec fn a.tmps ps assign body w.heap.size .busy none))).heap[w.heap.size + 1]? = some (.loop (lrec fn a.tmps ps assign body w.heap.size .busy none)) := World.putObj_heap_same (by omega)
    refine wpIn_mono (hbody pre x (A.putObj (w.heap.size + 1) (.loop (lrec fn a.tmps ps assign body w.heap.size .busy none))) hx (hIp _ _ _ hi) (by simpa using hz)) ?_
    rintro e a3 B hp
    cases e with
    | normal =>
      obtain ⟨⟨k1, k2⟩, hkp, hi3⟩ := hp
      have hB : w.heap.size + 1 < B.heap.size := (Array.getElem?_eq_some_iff.1 (k2.trans hl2)).1
      refine ⟨k2.trans hl2, .inl ⟨rfl, ⟨hIp _ _ _ hi3, by rw [hR]; exact World.putObj_heap_same hB, (World.putObj_heap_other (by omega)).trans (k1.trans hk2), by simp; omega⟩, ?_⟩⟩
      exact hKt (hKt (hKp _ _) hkp) (hKp _ _)
    | ret =>
      obtain ⟨⟨k1, k2⟩, hkp, hi3⟩ := hp
      have hB : w.heap.size + 1 < B.heap.size := (Array.getElem?_eq_some_iff.1 (k2.trans hl2)).1
      exact ⟨k2.trans hl2, .inr ⟨rfl, ⟨hIxp _ _ _ hi3, by rw [hR]; exact World.putObj_heap_same hB, (World.putObj_heap_other (by omega)).trans (k1.trans hk2), by simp; omega⟩, hKt (hKt (hKp _ _) hkp) (hKp _ _)⟩⟩
    | exit id => exact hp.elim
    | goto t => exact hp.elim
    | panic ch => exact hp.elim
    | outgrown => exact hp.elim
  · rintro e B ⟨⟨v, rfl⟩, (⟨xs, hS, hi, hl, hk, hz⟩ | ⟨pre, hSp, hi, hl, hk, hz⟩)⟩
    · exact ⟨v, rfl, .inl ⟨hl, hdone xs _ hS (hIp _ _ _ hi) ((World.putObj_heap_other (by omega)).trans hk)⟩⟩
    · exact ⟨v, rfl, .inr ⟨.ret, hl, hstop pre _ hSp (hIxp _ _ _ hi) ((World.putObj_heap_other (by omega)).trans hk)⟩⟩

end Go.Proofs.YtpbkmdnnhlkfbaaDoor
