/-
  The examples of the chapter on facts: the law FactKnown returns true. No condition.
-/
import Derived.Test.YtnmochlobfkbmaaKf
import Derived.Test.YtnmochlobfkbmaaXmD
import Derived.SliceStrings
import Derived.ChangeMaps5
import Derived.Test.YtnmochlobfkbmaaRows
namespace Go.Proofs.Ytnmochlobfkbmaa
open Go.ChangeShapes Go.WideShapes Go.ChangeAt Go.RowKit
theorem own : ownKnob Try.prog.godebug = none := by kernel_rfl
theorem laidOut : laidOutB Try.prog = true := by kernel_rfl
theorem namesOk_all : (Try.prog.funcs.toList.all fun fn => !(fn.body.isSome && (fn.name == "runtime.NumGoroutine"))) = true := by kernel_rfl
theorem namesOk : Xm.NamesOk Try.prog := fun f fn hf hb => by
  have := List.all_eq_true.1 namesOk_all fn (Array.mem_toList_iff.2 (Array.mem_of_getElem? hf))
  rw [hb] at this
  simpa using this
theorem start_ok : (Xm.startS Try.prog 4 [] (Xm.gH Xm.Kf.gs) 0).isSome = true := by kernel_rfl
set_option maxRecDepth 100000 in
theorem known_any (w : World) : Calls Try.prog 4 #[] w fun e w' => e = .returned (.bool true) ∧ Below w.heap.size w w' := by
  have h0 : Xm.startS Try.prog 4 [] (Xm.gH Xm.Kf.gs) 0 = some Xm.Kf.K0 := by
    have := start_ok
    unfold Xm.Kf.K0
    generalize Xm.startS Try.prog 4 [] (Xm.gH Xm.Kf.gs) 0 = o at this
    cases o with | none => cases this | some S => rfl
  have hl := Xm.Kf.last_ok
  split at hl
  · rename_i S' hS
    have hr := (((((((((((Xm.runK_ok namesOk 3 _ _ Xm.Kf.K1_ok).one (Xm.runK_ok namesOk 3 _ _ Xm.Kf.K2_ok)).one (Xm.runK_ok namesOk 3 _ _ Xm.Kf.K3_ok)).one (Xm.runK_ok namesOk 3 _ _ Xm.Kf.K4_ok)).one (Xm.runK_ok namesOk 3 _ _ Xm.Kf.K5_ok)).one (Xm.runK_ok namesOk 3 _ _ Xm.Kf.K6_ok)).one (Xm.runK_ok namesOk 3 _ _ Xm.Kf.K7_ok)).one (Xm.runK_ok namesOk 3 _ _ Xm.Kf.K8_ok)).one (Xm.runK_ok namesOk 3 _ _ Xm.Kf.K9_ok)).one (Xm.runK_ok namesOk 3 _ _ Xm.Kf.K10_ok)).one (Xm.runK_ok namesOk 3 _ _ Xm.Kf.K11_ok))
    exact Xm.calls_pieces namesOk (by kernel_rfl) h0 (hr.one (Xm.runK_ok namesOk 3 _ _ hS)) hl (fun x hx => by cases hx)
  · cases hl
theorem contract (H : Type) (enc : TypeId × Value → H) (W : World) (args : Array Value) (ds gs : List (DataW H)) (before : List MemPlace)
    (hW : DataW.Whole enc Try.prog Try.f4.params.toList Rows.factKnownSpec.vars false W args.toList ds gs before) :
    Calls Try.prog 4 args W fun e W' => ∃ v, e = .returned v ∧ Rows.factKnownSpec.post enc Try.prog Try.f4 false true false false W args v W' := by
  have hW' := hW
  obtain ⟨p, q, hA0, hV, rfl, _, _⟩ := hW
  have hA : DataW.TrodAll enc Try.prog W 0 (fun _ => true) true Try.f4.params.toList args.toList ds p := hA0
  have hp : Try.f4.params.toList = [] := by kernel_rfl
  rw [hp] at hA
  obtain ⟨ha, _, _⟩ := trodAll_nil hA
  obtain rfl : args = #[] := by simpa using ha
  refine (known_any W).mono fun e W' ⟨he, hb⟩ => ?_
  subst he
  refine ⟨_, rfl, Xm.law_post (tb := 4) laidOut (by kernel_rfl) (by kernel_rfl) (by kernel_rfl) rfl (fun ds hd => ?_) hW' hb⟩
  have hd : ds.length = 0 := hd.trans (by kernel_rfl)
  match ds, hd with
  | [], _ => exact ⟨rfl, rfl, rfl⟩
set_option maxRecDepth 100000 in
theorem lifted (os : Os) (started : os.Started) (H : Type) (enc : TypeId × Value → H) :
    ReturnsInHanded {} Try.checked os 4 .any (Rows.factKnownSpec.pre6 enc Try.prog Try.f4 Rows.factKnownRow.domain false) (Rows.factKnownSpec.post enc Try.prog Try.f4 false true false false) := by
  refine returnsInHanded_of_change (C := Try.checked) own started (by kernel_rfl) Try.func4
    (ChangeSpec.witness6 (enc := enc) (C := Try.checked) false ⟨#[], #[], []⟩ 8 (by kernel_rfl) (by kernel_rfl) (by kernel_rfl) (by kernel_rfl)) ?_
  intro W base args ds gs before hval hW _ _
  exact contract H enc W args ds gs before hW
theorem holds : Rows.FactKnownSaid :=
  OpenClaim.holds_of_wide 4 Try.f4 rfl rfl rfl rfl rfl rfl rfl ⟨rfl, rfl, rfl, rfl, rfl⟩ rfl rfl rfl rfl rfl (by kernel_rfl) Try.func4 (by kernel_rfl)
    (of_decide_eq_true (by kernel_rfl)) (by unfold Func.isWrapper; first | (rw [if_pos (by decide +kernel)]; kernel_rfl) | (rw [if_neg (by decide +kernel)]; exact ⟨rfl, rfl⟩))
    (fun os started H enc _ => lifted os started H enc)
end Go.Proofs.Ytnmochlobfkbmaa
