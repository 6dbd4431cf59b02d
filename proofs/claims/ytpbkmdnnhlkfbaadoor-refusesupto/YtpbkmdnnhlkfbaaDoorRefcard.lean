/-
  OWN TEXT. The law Refuses, its row and its card.
-/
import Derived.Test.YtpbkmdnnhlkfbaaDoorRefr
import Derived.Test.YtpbkmdnnhlkfbaaDoorRows
import Derived.Test.YtpbkmdnnhlkfbaaDoorCards
import Derived.Test.YtpbkmdnnhlkfbaaDoorTie
import Derived.WalkKit
import Derived.ProofKit
import Derived.OpenShut
import Derived.Deep.DeepHandedRow
import Derived.JoinedCond
import Derived.Lay
namespace Go.Proofs.YtpbkmdnnhlkfbaaDoor
open Go Go.RowKit
open Go.ChangeShapes Go.WideShapes Go.ChangeAt
open Go.ChangeMaps (open_string shut_string)

theorem below_grown {w w' : World} (h : Below w.heap.size w w') (may : MemPlace → Prop) : w.keptBut w' may := h.frame may

set_option maxRecDepth 100000 in
set_option maxHeartbeats 400000 in
theorem refuses_walk (k : Int) (p l : ByteArray) (hp : p.size ≤ 1048576) (hl : l.size ≤ 1048576) (w : World) :
    Calls Tryd.prog 4 #[.int .i64 k, .string p, .string l] w fun e w' => e = .returned (.bool true) ∧ Below w.heap.size w w' := by
  obtain ⟨b, hb⟩ : ∃ b, refB k p.data.toList l.data.toList = b := ⟨_, rfl⟩
  have k1 : ∀ d w, Calls Tryd.prog 9 #[.agg #[.int .i64 k, .string p, .string l, .string d]] w fun e w' => e = .returned (.bool b) ∧ Below w.heap.size w w' := fun d w => by
    rw [← hb]; exact refused_any k p l d (by unfold maxLen; omega) (by unfold maxLen; omega) w
  have k2 : ∀ d w, Calls Tryd.prog 10 #[.agg #[.int .i64 k, .string p, .string l, .string d]] w fun e w' => e = .returned (.bool b) ∧ Below w.heap.size w w' := fun d w => by
    rw [← hb]; exact rrefused_any k p l d hp hl w
  clear hb
  go_enter Tryd.func4, Tryd.ntmps4
  go_wp2_with fail
  refine (k1 _ _).mono ?_
  rintro e w1 ⟨rfl, hb1⟩
  go_wp2_with fail
  refine (k2 _ _).mono ?_
  rintro e w2 ⟨rfl, hb2⟩
  go_wp2
  go_ret
  exact ⟨ret_bool (by simp), bl2 hb1 hb2⟩

theorem own : ownKnob Tryd.prog.godebug = none := by kernel_rfl

/-- What the bound gives: the texts' lengths. -/
theorem short {H : Type} {k : Lit} {p l : ByteArray} (hk : Rows.uptoSmall H [.lit k, .lit (.string p.data.toList), .lit (.string l.data.toList)] = true) : p.size ≤ 1048576 ∧ l.size ≤ 1048576 := by
  have h : Rows.uptoBulkAll [DataW.lit (H := H) k, .lit (.string p.data.toList), .lit (.string l.data.toList)] ≤ 1048576 := of_decide_eq_true hk
  simp only [Rows.uptoBulkAll, Rows.uptoBulk] at h
  rw [Lib.size_eq, Lib.size_eq]
  omega

set_option maxRecDepth 100000 in
theorem refuses_contract (H : Type) (enc : TypeId × Value → H) (W : World) (base : Nat) (args : Array Value) (ds gs : List (DataW H)) (before : List MemPlace)
    (hval : ∀ (j : Nat) t v, Tryd.f4.params[j]? = some t → args[j]? = some v → Value.okWide Tryd.prog W .any base t v)
    (hW : DataW.Whole enc Tryd.prog Tryd.f4.params.toList Rows.refusesSpec.vars false W args.toList ds gs before) (hk : Rows.uptoSmall H (ds ++ gs) = true) :
    Calls Tryd.prog 4 args W fun e W' => ∃ v, e = .returned v ∧ Rows.refusesSpec.post enc Tryd.prog Tryd.f4 false true false false W args v W' := by
  have hW' := hW
  obtain ⟨p, q, hA0, hV, rfl, hfz, hnd⟩ := hW
  have hA : DataW.TrodAll enc Tryd.prog W 0 (fun _ => true) true Tryd.f4.params.toList args.toList ds p := hA0
  rw [Tryd.params4] at hA hval
  obtain ⟨v0, v1, v2, d0, d1, d2, p0, p1, p2, rfl, rfl, rfl, h0, h1, h2⟩ := trodAll_three hA
  obtain ⟨rfl, rfl⟩ := trodVars_none hV
  obtain ⟨k, rfl, rfl, rfl, wk⟩ := open_int Tryd.underlying3 (hval 0 3 v0 rfl rfl) h0
  obtain ⟨s, rfl, rfl, rfl, hs⟩ := open_string Tryd.underlying9 (hval 1 9 v1 rfl rfl) h1
  obtain ⟨l, rfl, rfl, rfl, hl⟩ := open_string Tryd.underlying9 (hval 2 9 v2 rfl rfl) h2
  clear hA0
  simp only [List.append_nil] at hW' hk
  have hsh := short hk
  refine (refuses_walk k s l hsh.1 hsh.2 W).mono fun e W' ⟨he, hb⟩ => ?_
  subst he
  exact ⟨_, rfl, _, _, _, [], [], [], hW', trodAll_mk1 (shut_bool Tryd.underlying4 _), trodAll_mk3 (shut_int Tryd.underlying3 wk) (shut_string Tryd.underlying9 hs) (shut_string Tryd.underlying9 hl), rfl, hb.frame _, fun h => by cases h⟩

set_option maxRecDepth 100000 in
theorem refuses_lifted (os : Os) (started : os.Started) (H : Type) (enc : TypeId × Value → H) (F : Stop.Interp) :
    ReturnsInHanded {} Tryd.checked os 4 .any ((Rows.OpenSpec.upto Rows.refusesSpec).preRow enc Tryd.prog Tryd.f4 Rows.refusesUptoRow.domain false Rows.refusesUptoRow.laid) (((Rows.OpenSpec.upto Rows.refusesSpec).at F).post enc Tryd.prog Tryd.f4 false true false false) := by
  refine returnsInHanded_of_row (C := Tryd.checked) (s := Rows.OpenSpec.upto Rows.refusesSpec) own started (by kernel_rfl) Tryd.func4
    (witness_row_at (enc := enc) (C := Tryd.checked) false (World.laidAll Tryd.prog os Rows.refusesUptoRow.laid) #[.int .i64 0, .string .empty, .string .empty] (World.laidAll_os _ _ _) (by kernel_rfl) (by kernel_rfl) (by kernel_rfl)
      (OpenSpec.preRow_of_cond 8 (x := ([.lit (.int .i64 0), .lit (.string []), .lit (.string [])], [], [])) (by kernel_rfl) (by kernel_rfl) (fun k hk => by cases hk; kernel_rfl) (by kernel_rfl)
        (by rw [MakeChecks.laidMetH_plain _ _ _ (by kernel_rfl)]; exact laidMet_laidAll _ (by kernel_rfl) (by kernel_rfl)))) ?_
  intro W base args ds gs before hval hW _ hcond _ hL _ _
  exact refuses_contract H enc W base args ds gs before hval hW (hcond _ rfl)

theorem refuses_upto : Rows.RefusesUptoSaid :=
  OpenClaim.holds_of_cond 4 Tryd.f4 rfl rfl rfl rfl rfl rfl rfl ⟨rfl, rfl, rfl, rfl, rfl⟩ rfl rfl rfl rfl rfl (by kernel_rfl) Tryd.func4 (by kernel_rfl)
    (of_decide_eq_true (by kernel_rfl)) (by unfold Func.isWrapper; first | (rw [if_pos (by decide +kernel)]; kernel_rfl) | (rw [if_neg (by decide +kernel)]; exact ⟨rfl, rfl⟩))
    (fun os started H enc _ F => by rw [OpenClaim.pre_eq_preRow]; exact refuses_lifted os started H enc F)

theorem refuses_plain (f : FuncId) (fn : Func) (hf : Tryd.pinned.checked.prog.funcNamed Rows.refusesUptoRow.func = some f) (hfn : Tryd.pinned.checked.prog.funcs[f]? = some fn) :
    false = Tryd.pinned.checked.prog.looks [] ∧ ∀ (j : Nat) t, fn.params[j]? = some t → Tryd.pinned.checked.prog.wantsStandIn t = false := by
  obtain rfl : f = 4 := Option.some.inj ((show Tryd.prog.funcNamed Rows.refusesUptoRow.func = some 4 by kernel_rfl).symm.trans hf) |>.symm
  obtain rfl : fn = Tryd.f4 := (Option.some.inj (Tryd.func4.symm.trans hfn)).symm
  refine ⟨by kernel_rfl, fun j t ht => ?_⟩
  rw [Tryd.params4] at ht
  have hm : t ∈ [3, 9, 9] := by simpa using Array.mem_of_getElem? ht
  have hall : ([3, 9, 9].all fun u => !Tryd.prog.wantsStandIn u) = true := by kernel_rfl
  exact (show Tryd.prog.wantsStandIn t = false by simpa using List.all_eq_true.1 hall t hm)

theorem refuses_sixth : Claim7.isSixth { stood := { row := Rows.refusesUptoRow, standIns := [], harness := Rows.refusesUptoCard.stood.harness, looks := false }, kinds := [] } = false := by kernel_rfl

theorem refuses_card : Rows.RefusesUptoCardSaid :=
  ⟨Claim7.tied_new_at .later [.data, .pinned] true (Claim7.new_of_sixth refuses_upto Rows.refusesUptoCard.stood.harness false rfl ⟨rfl, rfl⟩ (by kernel_rfl) refuses_sixth refuses_plain) (by kernel_rfl),
    fun _ h => (by cases h), refusesUpto_row_tie, fun h => (by cases h), by kernel_rfl⟩

#print axioms refuses_card
end Go.Proofs.YtpbkmdnnhlkfbaaDoor
