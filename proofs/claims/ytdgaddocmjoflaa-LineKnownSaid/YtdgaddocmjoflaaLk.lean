/-
  The examples of the chapter on classes in linear orders: the law LineKnown returns true. No condition.
-/
import Derived.Test.YtdgaddocmjoflaaKl
import Derived.Test.YtdgaddocmjoflaaXmD
import Derived.SliceStrings
import Derived.ChangeMaps5
import Derived.Test.YtdgaddocmjoflaaRows
namespace Go.Proofs.Ytdgaddocmjoflaa
open Go.ChangeShapes Go.WideShapes Go.ChangeAt Go.RowKit
theorem own : ownKnob Try.prog.godebug = none := by kernel_rfl
theorem laidOut : laidOutB Try.prog = true := by kernel_rfl
theorem namesOk_all : (Try.prog.funcs.toList.all fun fn => !(fn.body.isSome && (fn.name == "runtime.NumGoroutine"))) = true := by kernel_rfl
theorem namesOk : Xm.NamesOk Try.prog := fun f fn hf hb => by
  have := List.all_eq_true.1 namesOk_all fn (Array.mem_toList_iff.2 (Array.mem_of_getElem? hf))
  rw [hb] at this
  simpa using this
theorem start_ok : (Xm.startS Try.prog 5 [] (Xm.gH Xm.Kl.gs) 0).isSome = true := by kernel_rfl
set_option maxRecDepth 100000 in
theorem known_any (w : World) : Calls Try.prog 5 #[] w fun e w' => e = .returned (.bool true) ∧ Below w.heap.size w w' := by
  have h0 : Xm.startS Try.prog 5 [] (Xm.gH Xm.Kl.gs) 0 = some Xm.Kl.K0 := by
    have := start_ok
    unfold Xm.Kl.K0
    generalize Xm.startS Try.prog 5 [] (Xm.gH Xm.Kl.gs) 0 = o at this
    cases o with | none => cases this | some S => rfl
  have hl := Xm.Kl.last_ok
  split at hl
  · rename_i S' hS
    have hr := ((((((((((((((((((((((((((((((((Xm.runK_ok namesOk 40 _ _ Xm.Kl.K1_ok).one (Xm.runK_ok namesOk 40 _ _ Xm.Kl.K2_ok)).one (Xm.runK_ok namesOk 40 _ _ Xm.Kl.K3_ok)).one (Xm.runK_ok namesOk 40 _ _ Xm.Kl.K4_ok)).one (Xm.runK_ok namesOk 40 _ _ Xm.Kl.K5_ok)).one (Xm.runK_ok namesOk 40 _ _ Xm.Kl.K6_ok)).one (Xm.runK_ok namesOk 40 _ _ Xm.Kl.K7_ok)).one (Xm.runK_ok namesOk 40 _ _ Xm.Kl.K8_ok)).one (Xm.runK_ok namesOk 40 _ _ Xm.Kl.K9_ok)).one (Xm.runK_ok namesOk 40 _ _ Xm.Kl.K10_ok)).one (Xm.runK_ok namesOk 40 _ _ Xm.Kl.K11_ok)).one (Xm.runK_ok namesOk 40 _ _ Xm.Kl.K12_ok)).one (Xm.runK_ok namesOk 40 _ _ Xm.Kl.K13_ok)).one (Xm.runK_ok namesOk 40 _ _ Xm.Kl.K14_ok)).one (Xm.runK_ok namesOk 40 _ _ Xm.Kl.K15_ok)).one (Xm.runK_ok namesOk 40 _ _ Xm.Kl.K16_ok)).one (Xm.runK_ok namesOk 40 _ _ Xm.Kl.K17_ok)).one (Xm.runK_ok namesOk 40 _ _ Xm.Kl.K18_ok)).one (Xm.runK_ok namesOk 40 _ _ Xm.Kl.K19_ok)).one (Xm.runK_ok namesOk 40 _ _ Xm.Kl.K20_ok)).one (Xm.runK_ok namesOk 40 _ _ Xm.Kl.K21_ok)).one (Xm.runK_ok namesOk 40 _ _ Xm.Kl.K22_ok)).one (Xm.runK_ok namesOk 40 _ _ Xm.Kl.K23_ok)).one (Xm.runK_ok namesOk 40 _ _ Xm.Kl.K24_ok)).one (Xm.runK_ok namesOk 40 _ _ Xm.Kl.K25_ok)).one (Xm.runK_ok namesOk 40 _ _ Xm.Kl.K26_ok)).one (Xm.runK_ok namesOk 40 _ _ Xm.Kl.K27_ok)).one (Xm.runK_ok namesOk 40 _ _ Xm.Kl.K28_ok)).one (Xm.runK_ok namesOk 40 _ _ Xm.Kl.K29_ok)).one (Xm.runK_ok namesOk 40 _ _ Xm.Kl.K30_ok)).one (Xm.runK_ok namesOk 40 _ _ Xm.Kl.K31_ok)).one (Xm.runK_ok namesOk 40 _ _ Xm.Kl.K32_ok)).one (Xm.runK_ok namesOk 40 _ _ Xm.Kl.K33_ok)
    exact Xm.calls_pieces namesOk (by kernel_rfl) h0 (hr.one (Xm.runK_ok namesOk 40 _ _ hS)) hl (fun x hx => by cases hx)
  · cases hl
theorem contract (H : Type) (enc : TypeId × Value → H) (W : World) (args : Array Value) (ds gs : List (DataW H)) (before : List MemPlace)
    (hW : DataW.Whole enc Try.prog Try.f5.params.toList Rows.lineKnownSpec.vars false W args.toList ds gs before) :
    Calls Try.prog 5 args W fun e W' => ∃ v, e = .returned v ∧ Rows.lineKnownSpec.post enc Try.prog Try.f5 false true false false W args v W' := by
  have hW' := hW
  obtain ⟨p, q, hA0, hV, rfl, _, _⟩ := hW
  have hA : DataW.TrodAll enc Try.prog W 0 (fun _ => true) true Try.f5.params.toList args.toList ds p := hA0
  have hp : Try.f5.params.toList = [] := by kernel_rfl
  rw [hp] at hA
  obtain ⟨ha, _, _⟩ := trodAll_nil hA
  obtain rfl : args = #[] := by simpa using ha
  refine (known_any W).mono fun e W' ⟨he, hb⟩ => ?_
  subst he
  refine ⟨_, rfl, Xm.law_post (tb := 4) laidOut (by kernel_rfl) (by kernel_rfl) (by kernel_rfl) rfl (fun ds hd => ?_) hW' hb⟩
  have hd : ds.length = 0 := hd.trans (by kernel_rfl)
  match ds, hd with
  | [], _ => exact ⟨rfl, rfl, rfl⟩
set_option maxRecDepth 100000 in
theorem lifted (os : Os) (started : os.Started) (H : Type) (enc : TypeId × Value → H) :
    ReturnsInHanded {} Try.checked os 5 .any (Rows.lineKnownSpec.pre6 enc Try.prog Try.f5 Rows.lineKnownRow.domain false) (Rows.lineKnownSpec.post enc Try.prog Try.f5 false true false false) := by
  refine returnsInHanded_of_change (C := Try.checked) own started (by kernel_rfl) Try.func5
    (ChangeSpec.witness6 (enc := enc) (C := Try.checked) false ⟨#[], #[], []⟩ 8 (by kernel_rfl) (by kernel_rfl) (by kernel_rfl) (by kernel_rfl)) ?_
  intro W base args ds gs before hval hW _ _
  exact contract H enc W args ds gs before hW
theorem holds : Rows.LineKnownSaid :=
  OpenClaim.holds_of_wide 5 Try.f5 rfl rfl rfl rfl rfl rfl rfl ⟨rfl, rfl, rfl, rfl, rfl⟩ rfl rfl rfl rfl rfl (by kernel_rfl) Try.func5 (by kernel_rfl)
    (of_decide_eq_true (by kernel_rfl)) (by unfold Func.isWrapper; first | (rw [if_pos (by decide +kernel)]; kernel_rfl) | (rw [if_neg (by decide +kernel)]; exact ⟨rfl, rfl⟩))
    (fun os started H enc _ => lifted os started H enc)
end Go.Proofs.Ytdgaddocmjoflaa
