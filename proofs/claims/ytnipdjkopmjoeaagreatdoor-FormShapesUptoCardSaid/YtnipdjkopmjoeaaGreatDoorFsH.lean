/-
  The law FormShapes holds for every expression and every fact: which of them are formed, and the depth of an expression, are as stated. Condition: what is read is of bulk at most 1048576.
-/
import Derived.Test.YtnipdjkopmjoeaaGreatDoorFsG
import Derived.Test.YtnipdjkopmjoeaaGreatDoorXmD
import Derived.Test.YtnipdjkopmjoeaaGreatDoorKn
import Derived.SliceStrings
import Derived.ChangeMaps5
import Derived.SevenTiedAt
import Derived.OpenShut
import Derived.Deep.DeepHandedRow
import Derived.Test.YtnipdjkopmjoeaaGreatDoorTie
import Derived.Test.YtnipdjkopmjoeaaGreatDoorCards
namespace Go.Proofs.YtnipdjkopmjoeaaGreatDoor
open Go.ChangeShapes Go.WideShapes Go.ChangeAt Go.RowKit Go.Fs Go.WideMaps Go.Maps
abbrev lds : List (String × DataW Unit) := [("consort/shape.expKinds", Rows.laid_consort_shape_expKinds), ("consort/shape.factKinds", Rows.laid_consort_shape_factKinds)]
/-- the two variables as the row lays them -/
def Laid (w : World) : Prop := ∀ x ∈ Xm.Kn.gs, ∃ c t fz, w.heap[x.1]? = some (.cells c t fz) ∧ c.toList = x.2.1
theorem Laid.below {W w : World} (h : Laid W) (hb : Below W.heap.size W w) : Laid w := fun x hx => by
  obtain ⟨c, t, fz, h1, h2⟩ := h x hx
  have hlt : x.1 < W.heap.size := (Array.getElem?_eq_some_iff.1 h1).1
  exact ⟨c, t, fz, (hb.block x.1 hlt).trans h1, h2⟩
noncomputable abbrev layF : List Value := (Xm.layC Tryz.prog 8 (((Tryz.prog.globals[0]?).map (·.type)).getD 0) Rows.laid_consort_shape_factKinds).getD []
noncomputable abbrev layE : List Value := (Xm.layC Tryz.prog 8 (((Tryz.prog.globals[1]?).map (·.type)).getD 0) Rows.laid_consort_shape_expKinds).getD []
theorem lay0 : (Xm.layC Tryz.prog 8 (((Tryz.prog.globals[0]?).map (·.type)).getD 0) Rows.laid_consort_shape_factKinds).isSome = true := by kernel_rfl
theorem lay1 : (Xm.layC Tryz.prog 8 (((Tryz.prog.globals[1]?).map (·.type)).getD 0) Rows.laid_consort_shape_expKinds).isSome = true := by kernel_rfl
set_option maxRecDepth 100000 in
theorem laid_of {W : World} (hL : laidMetH Tryz.prog lds W) : Laid W := by
  rw [MakeChecks.laidMetH_plain _ _ _ (by kernel_rfl)] at hL
  intro x hx
  have get : ∀ {o : Option (List Value)}, o.isSome = true → o = some (o.getD []) := fun {o} h => by cases o with | none => cases h | some l => rfl
  have ty : ∀ {o : Option TypeId}, o.isSome = true → o = some (o.getD 0) := fun {o} h => by cases o with | none => cases h | some l => rfl
  rcases List.mem_cons.1 hx with rfl | hx
  · obtain ⟨c, t, h1, h2⟩ := Xm.laid_heap (f := 8) hL (List.mem_cons_of_mem _ List.mem_cons_self : ("consort/shape.factKinds", Rows.laid_consort_shape_factKinds) ∈ lds) (g := 0) (by kernel_rfl) (ty (by kernel_rfl)) (get lay0) (Nat.le_of_ble_eq_true (by kernel_rfl))
    exact ⟨c, t, _, h1, h2⟩
  · rw [List.mem_singleton.1 hx]
    obtain ⟨c, t, h1, h2⟩ := Xm.laid_heap (f := 8) hL (List.mem_cons_self : ("consort/shape.expKinds", Rows.laid_consort_shape_expKinds) ∈ lds) (g := 1) (by kernel_rfl) (ty (by kernel_rfl)) (get lay1) (Nat.le_of_ble_eq_true (by kernel_rfl))
    exact ⟨c, t, _, h1, h2⟩
theorem Laid.cell {w : World} (h : Laid w) {x : Nat × List Value × TypeId} (hx : x ∈ Xm.Kn.gs) {i : Nat} {v : Value} (hv : x.2.1[i]? = some v) : w.cell? ⟨x.1, i, none⟩ = some v := by
  obtain ⟨c, t, fz, h1, h2⟩ := h x hx
  have : c[i]? = some v := by rw [← Array.getElem?_toList, h2]; exact hv
  simp [World.cell?, h1, this]
set_option maxRecDepth 100000 in
theorem Laid.cellF {w : World} (h : Laid w) {i : Nat} {v : Value} (hv : layF[i]? = some v) : w.cell? ⟨0, i, none⟩ = some v :=
  h.cell (x := (0, layF, 0)) (by show _ ∈ Xm.Kn.gs; unfold Xm.Kn.gs; exact List.mem_cons_self) hv
set_option maxRecDepth 100000 in
theorem Laid.cellE {w : World} (h : Laid w) {i : Nat} {v : Value} (hv : layE[i]? = some v) : w.cell? ⟨1, i, none⟩ = some v :=
  h.cell (x := (1, layE, 0)) (by show _ ∈ Xm.Kn.gs; unfold Xm.Kn.gs; exact List.mem_cons_of_mem _ List.mem_cons_self) hv
theorem layF_at (op : Nat) (h : op < 8) : layF[op * 4]? = some (.bool (fPth op)) ∧ layF[op * 4 + 1]? = some (.bool (fCls op)) ∧ layF[op * 4 + 2]? = some (.bool (fNum op)) ∧ layF[op * 4 + 3]? = some (.int .i64 (fKid op)) := by
  rcases (by omega : op = 0 ∨ op = 1 ∨ op = 2 ∨ op = 3 ∨ op = 4 ∨ op = 5 ∨ op = 6 ∨ op = 7) with rfl | rfl | rfl | rfl | rfl | rfl | rfl | rfl <;> exact ⟨by kernel_rfl, by kernel_rfl, by kernel_rfl, by kernel_rfl⟩
theorem layE_at (op : Nat) (h : 1 ≤ op ∧ op < 19) : layE[op * 4]? = some (.bool (kNum op)) ∧ layE[op * 4 + 1]? = some (.int .i64 (kText op)) ∧ layE[op * 4 + 2]? = some (.int .i64 (kLo op)) ∧ layE[op * 4 + 3]? = some (.int .i64 (kHi op)) := by
  rcases (by omega : op = 1 ∨ op = 2 ∨ op = 3 ∨ op = 4 ∨ op = 5 ∨ op = 6 ∨ op = 7 ∨ op = 8 ∨ op = 9 ∨ op = 10 ∨ op = 11 ∨ op = 12 ∨ op = 13 ∨ op = 14 ∨ op = 15 ∨ op = 16 ∨ op = 17 ∨ op = 18) with rfl | rfl | rfl | rfl | rfl | rfl | rfl | rfl | rfl | rfl | rfl | rfl | rfl | rfl | rfl | rfl | rfl | rfl <;> exact ⟨by kernel_rfl, by kernel_rfl, by kernel_rfl, by kernel_rfl⟩
theorem Laid.kindsF {w : World} (h : Laid w) : KindsF w := fun op hop => by
  obtain ⟨h0, h1, h2, h3⟩ := layF_at op hop
  exact ⟨h.cellF h0, h.cellF h1, h.cellF h2, h.cellF h3⟩
theorem Laid.kinds {w : World} (h : Laid w) : Kinds w := fun op hop => by
  obtain ⟨h0, h1, h2, h3⟩ := layE_at op hop
  exact ⟨h.cellE h0, h.cellE h1, h.cellE h2, h.cellE h3⟩
theorem gs_ok : Xm.Kn.gs.all (fun x => Nat.blt x.1 2 && x.2.1.all (Xm.closed 30)) = true := by kernel_rfl
theorem start_ok : (Xm.startS Tryz.prog 10 [] (Xm.gH Xm.Kn.gs) 2).isSome = true := by kernel_rfl
theorem namesOk_all : (Tryz.prog.funcs.toList.all fun fn => !(fn.body.isSome && (fn.name == "runtime.NumGoroutine"))) = true := by kernel_rfl
theorem namesOk : Xm.NamesOk Tryz.prog := fun f fn hf hb => by
  have := List.all_eq_true.1 namesOk_all fn (Array.mem_toList_iff.2 (Array.mem_of_getElem? hf))
  rw [hb] at this
  simpa using this
set_option maxRecDepth 100000 in
theorem known_any (w : World) (h : Laid w) : Calls Tryz.prog 10 #[] w fun e w' => e = .returned (.bool true) ∧ Below w.heap.size w w' := by
  have h0 : Xm.startS Tryz.prog 10 [] (Xm.gH Xm.Kn.gs) 2 = some Xm.Kn.K0 := by
    have := start_ok
    unfold Xm.Kn.K0
    generalize Xm.startS Tryz.prog 10 [] (Xm.gH Xm.Kn.gs) 2 = o at this
    cases o with | none => cases this | some S => rfl
  have hl := Xm.Kn.last_ok
  split at hl
  · rename_i S' hS
    have := ((Xm.runK_ok namesOk 40 _ _ Xm.Kn.K1_ok).one (Xm.runK_ok namesOk 40 _ _ Xm.Kn.K2_ok)).one ((Xm.runK_ok namesOk 40 _ _ Xm.Kn.K3_ok).one (Xm.runK_ok namesOk 40 _ _ hS))
    exact Xm.calls_pieces namesOk gs_ok h0 this hl h
  · cases hl
end Go.Proofs.YtnipdjkopmjoeaaGreatDoor
namespace Go.Proofs.YtnipdjkopmjoeaaGreatDoor
open Go.ChangeShapes Go.WideShapes Go.ChangeAt Go.RowKit Go.Fs
theorem DepV_two (e : ET) : ∃ d er : Int, DepV e = .tuple #[.int .i64 d, .int .i64 er] := by
  unfold DepV
  cases formB e
  · exact ⟨0, 2, rfl⟩
  · exact ⟨_, 0, rfl⟩
set_option maxRecDepth 100000 in
set_option maxHeartbeats 4000000 in
theorem law_walk (W : World) (x : ET) (y : FT) (cs cf : List Value) (hx : ExpR W x cs) (hy : FctR W y cf) (hbulk : bulkF y ≤ 1099511627776) (hL : Laid W) :
    Calls Tryz.prog 3 #[.agg cs.toArray, .agg cf.toArray] W fun e w' => e = .returned (.bool true) ∧ Below W.heap.size W w' := by
  have hz : ∀ {w' : World}, Below W.heap.size W w' → FctR w' y cf := fun hb => hy.upB hb
  obtain ⟨d, er, hD⟩ := DepV_two x
  have hd1 := fun w' (h : Below W.heap.size W w') => depth_any W x cs hx w' h (hL.below h).kinds
  have hd2 := fun w' (h : Below W.heap.size W w') => rdepth_any W x cs hx w' h
  have he1 := fun w' (h : Below W.heap.size W w') => checkExp_any W x cs hx w' h (hL.below h).kinds
  have he2 := fun w' (h : Below W.heap.size W w') => rcheckExp_any W x cs hx w' h
  have hf1 := fun w' (h : Below W.heap.size W w') => checkFact_any W y cf hy w' h (hL.below h).kindsF
  have hf2 := fun w' (h : Below W.heap.size W w') => rcheckFact_any y cf w' (hz h) hbulk
  have hkn := fun w' (h : Below W.heap.size W w') => known_any w' (hL.below h)
  rw [hD] at hd1 hd2
  unfold AttP at he1 hf1
  rw [rformF_eq] at hf2
  generalize (if formB x = true then (0 : Int) else 2) = ce at he1 he2
  generalize (if formF y = true then (0 : Int) else 2) = cy at hf1 hf2
  clear hz hL
  obtain ⟨v, rfl, a, cap, rfl⟩ := hx.four
  obtain ⟨pv, v', rfl, own, a', cap', rfl⟩ := hy.six
  clear own hx hy hbulk hD
  have D1 := Lib.hid hd1; have D2 := Lib.hid hd2; have E1 := Lib.hid he1; have E2 := Lib.hid he2; have F1 := Lib.hid hf1; have F2 := Lib.hid hf2; have KN := Lib.hid hkn
  clear hd1 hd2 he1 he2 hf1 hf2 hkn
  go_enter Tryz.func3, Tryz.ntmps3
  go_wp2_with (first
    | (go_at_call 4; (refine (D1.out _ (by repeat (first | exact Below.refl _ _ | refine Below.alloc ?_ (by simp; try omega) _ | refine Below.setCell ?_ (by simp; try omega) _ | refine Below.drew ?_))).mono ?_; rintro e w1 ⟨rfl, hb1⟩; have HV := Lib.hid hb1; have HW : RowKit.Hid (Below W.heap.size W w1) := Lib.hid (Below.trans (B := W.heap.size) (by repeat (first | exact Below.refl _ _ | refine Below.alloc ?_ (by simp; try omega) _ | refine Below.setCell ?_ (by simp; try omega) _ | refine Below.drew ?_)) (hb1.mono (by simp; try omega))); obtain ⟨hc, hf⟩ := bcell hb1; clear hb1 hf))
    | (go_at_call 5; (refine (D2.out _ HW.out).mono ?_; rintro e w1 ⟨rfl, hb1⟩; have HV := Lib.hid (HV.out.trans (hb1.mono HV.out.size)); have HW := Lib.hid (HW.out.trans (hb1.mono HW.out.size)); clear hc; obtain ⟨hc, hf⟩ := bcell HV.out; clear hb1 hf)))
  have hS : ∀ w', Below w1.heap.size w1 w' → (w'.cell? ⟨W.heap.size, 0, none⟩ = some (.int .i64 x.op) ∧ w'.cell? ⟨W.heap.size, 1, none⟩ = some (.int .i64 x.n) ∧ w'.cell? ⟨W.heap.size, 2, none⟩ = some (.string x.text) ∧ w'.cell? ⟨W.heap.size, 3, none⟩ = some (.slice a x.kids.length cap) ∧ w'.cell? ⟨W.heap.size + 1, 0, none⟩ = some (.int .i64 (FT.op y)) ∧ w'.cell? ⟨W.heap.size + 1, 1, none⟩ = some (.string (FT.name y)) ∧ w'.cell? ⟨W.heap.size + 1, 2, none⟩ = some pv ∧ w'.cell? ⟨W.heap.size + 1, 3, none⟩ = some (.string (FT.cls y)) ∧ w'.cell? ⟨W.heap.size + 1, 4, none⟩ = some (.int .i64 (FT.n y)) ∧ w'.cell? ⟨W.heap.size + 1, 5, none⟩ = some (.slice a' (FT.kids y).length cap')) := fun w' hq => by
    have hz := HV.out.size
    simp at hz
    refine ⟨?_, ?_, ?_, ?_, ?_, ?_, ?_, ?_, ?_, ?_⟩ <;> (refine (hq.cell (p := ⟨_, _, none⟩) (by simp; omega)).trans ?_; rw [hc _ _ (by simp; try omega)]; simp [go_sem])
  have KS := Lib.hid hS
  clear hS hc
  have HB := Lib.hid (Below.refl w1.heap.size w1)
  go_region_held3 (fun w' => w'.cell? ⟨W.heap.size, 0, none⟩ = some (.int .i64 x.op) ∧ w'.cell? ⟨W.heap.size, 1, none⟩ = some (.int .i64 x.n) ∧ w'.cell? ⟨W.heap.size, 2, none⟩ = some (.string x.text) ∧ w'.cell? ⟨W.heap.size, 3, none⟩ = some (.slice a x.kids.length cap) ∧ w'.cell? ⟨W.heap.size + 1, 0, none⟩ = some (.int .i64 (FT.op y)) ∧ w'.cell? ⟨W.heap.size + 1, 1, none⟩ = some (.string (FT.name y)) ∧ w'.cell? ⟨W.heap.size + 1, 2, none⟩ = some pv ∧ w'.cell? ⟨W.heap.size + 1, 3, none⟩ = some (.string (FT.cls y)) ∧ w'.cell? ⟨W.heap.size + 1, 4, none⟩ = some (.int .i64 (FT.n y)) ∧ w'.cell? ⟨W.heap.size + 1, 5, none⟩ = some (.slice a' (FT.kids y).length cap')) (first | exact KS.out _ HB.out | exact KS.out _ (HB.out.drew)) (first
    | (go_at_call 6; refine (E1.out _ (by first | exact HW.out.trans (HB.out.mono HW.out.size) | exact HW.out.trans (HB.out.drew.mono HW.out.size))).mono ?_; rintro e w5 ⟨rfl, hb⟩; have HB := Lib.hid (show Below w1.heap.size w1 w5 from by first | exact HB.out.trans (hb.mono HB.out.size) | exact HB.out.drew.trans (hb.mono HB.out.drew.size)); clear hb)
    | (go_at_call 7; refine (E2.out _ (by first | exact HW.out.trans (HB.out.mono HW.out.size) | exact HW.out.trans (HB.out.drew.mono HW.out.size))).mono ?_; rintro e w5 ⟨rfl, hb⟩; have HB := Lib.hid (show Below w1.heap.size w1 w5 from by first | exact HB.out.trans (hb.mono HB.out.size) | exact HB.out.drew.trans (hb.mono HB.out.drew.size)); clear hb)
    | (go_at_call 8; refine (F1.out _ (by first | exact HW.out.trans (HB.out.mono HW.out.size) | exact HW.out.trans (HB.out.drew.mono HW.out.size))).mono ?_; rintro e w5 ⟨rfl, hb⟩; have HB := Lib.hid (show Below w1.heap.size w1 w5 from by first | exact HB.out.trans (hb.mono HB.out.size) | exact HB.out.drew.trans (hb.mono HB.out.drew.size)); clear hb)
    | (go_at_call 9; refine (F2.out _ (by first | exact HW.out.trans (HB.out.mono HW.out.size) | exact HW.out.trans (HB.out.drew.mono HW.out.size))).mono ?_; rintro e w5 ⟨rfl, hb⟩; have HB := Lib.hid (show Below w1.heap.size w1 w5 from by first | exact HB.out.trans (hb.mono HB.out.size) | exact HB.out.drew.trans (hb.mono HB.out.drew.size)); clear hb)
    | (go_at_call 10; refine (KN.out _ (by first | exact HW.out.trans (HB.out.mono HW.out.size) | exact HW.out.trans (HB.out.drew.mono HW.out.size))).mono ?_; rintro e w5 ⟨rfl, hb⟩; have HB := Lib.hid (show Below w1.heap.size w1 w5 from by first | exact HB.out.trans (hb.mono HB.out.size) | exact HB.out.drew.trans (hb.mono HB.out.drew.size)); clear hb))
  all_goals go_wp2_with fail
  all_goals go_ret
  all_goals exact ⟨rfl, HW.out.trans (HB.out.mono HW.out.size)⟩
end Go.Proofs.YtnipdjkopmjoeaaGreatDoor
namespace Go.Proofs.YtnipdjkopmjoeaaGreatDoor
open Go.ChangeShapes Go.WideShapes Go.ChangeAt Go.RowKit Go.Fs
theorem own : ownKnob Tryz.prog.godebug = none := by kernel_rfl
theorem laidOut : laidOutB Tryz.prog = true := by kernel_rfl
set_option maxRecDepth 100000 in
theorem law_any (W : World) (args : Array Value) {H : Type} {enc : TypeId × Value → H} {ds : List (DataW H)} {p : List MemPlace} (base : Nat)
    (hval : ∀ (j : Nat) t v, Tryz.f3.params[j]? = some t → args[j]? = some v → Value.okWide Tryz.prog W .any base t v)
    (hA : DataW.TrodAll enc Tryz.prog W 0 (fun _ => true) true Tryz.f3.params.toList args.toList ds p) (hk : Rows.uptoSmall H ds = true) (hL : laidMetH Tryz.prog lds W) :
    Calls Tryz.prog 3 args W fun e W' => e = .returned (.bool true) ∧ Below W.heap.size W W' := by
  have hp : Tryz.f3.params = #[25, 30] := by kernel_rfl
  rw [hp] at hval hA
  obtain ⟨v0, v1, d0, d1, p0, p1, rfl, rfl, rfl, h0, h1⟩ := trodAll_two hA
  obtain ⟨c0, rfl, _⟩ := okWide_struct Tryz.underlying25 (hval 0 25 v0 rfl rfl)
  obtain ⟨c1, rfl, _⟩ := okWide_struct Tryz.underlying30 (hval 1 30 v1 rfl rfl)
  obtain ⟨f0, hf0⟩ := h0
  obtain ⟨f1, hf1⟩ := h1
  obtain ⟨x, hx⟩ := open_exp f0 _ _ hf0
  obtain ⟨y, hy, hb⟩ := open_factB f1 _ _ hf1
  have hk' : Rows.uptoBulkAll [d0, d1] ≤ 1048576 := of_decide_eq_true hk
  simp only [Rows.uptoBulkAll] at hk'
  have hb' : bulkF y ≤ 1099511627776 := by
    have : bulkF y ≤ Rows.uptoBulk d1 := hb
    omega
  exact law_walk W x y _ _ hx hy hb' (laid_of hL)
set_option maxRecDepth 100000 in
theorem contract (H : Type) (enc : TypeId × Value → H) (W : World) (base : Nat) (args : Array Value) (ds gs : List (DataW H)) (before : List MemPlace)
    (hval : ∀ (j : Nat) t v, Tryz.f3.params[j]? = some t → args[j]? = some v → Value.okWide Tryz.prog W .any base t v)
    (hW : DataW.Whole enc Tryz.prog Tryz.f3.params.toList Rows.formShapesSpec.vars false W args.toList ds gs before) (hk : Rows.uptoSmall H (ds ++ gs) = true) (hL : laidMetH Tryz.prog lds W) :
    Calls Tryz.prog 3 args W fun e W' => ∃ v, e = .returned v ∧ Rows.formShapesSpec.post enc Tryz.prog Tryz.f3 false true false false W args v W' := by
  have hW' := hW
  obtain ⟨p, q, hA0, hV, rfl, _, _⟩ := hW
  have hA : DataW.TrodAll enc Tryz.prog W 0 (fun _ => true) true Tryz.f3.params.toList args.toList ds p := hA0
  obtain ⟨rfl, rfl⟩ := trodVars_none hV
  rw [List.append_nil] at hk
  refine (law_any W args base hval hA hk hL).mono fun e W' ⟨he, hb⟩ => ?_
  subst he
  refine ⟨_, rfl, Xm.law_post (tb := 4) laidOut (by kernel_rfl) (by kernel_rfl) (by kernel_rfl) rfl (fun ds hd => ?_) hW' hb⟩
  have hd : ds.length = 2 := hd.trans (by kernel_rfl)
  match ds, hd with
  | [a, b], _ => exact ⟨rfl, rfl, rfl⟩
abbrev wargs : Array Value := #[.agg #[.int .i64 0, .int .i64 0, .string ⟨#[]⟩, .slice none 0 0], .agg #[.int .i64 0, .string ⟨#[]⟩, .slice none 0 0, .string ⟨#[]⟩, .int .i64 0, .slice none 0 0]]
theorem reads (os : Os) {H : Type} (enc : TypeId × Value → H) : ∃ places, DataW.whole enc Tryz.prog ((World.laidAll Tryz.prog os lds).forCall (fun _ _ => 0) ⟨#[], wargs, []⟩).memory Tryz.f3.params.toList Rows.formShapesSpec.vars false wargs.toList 8 = some ([.agg [.lit (.int .i64 0), .lit (.int .i64 0), .lit (.string []), .nil], .agg [.lit (.int .i64 0), .lit (.string []), .nil, .lit (.string []), .lit (.int .i64 0), .nil]], [], places) :=
  ⟨[], by kernel_rfl⟩
set_option maxRecDepth 100000 in
theorem liftedUpto (os : Os) (started : os.Started) (H : Type) (enc : TypeId × Value → H) (F : Stop.Interp) :
    ReturnsInHanded {} Tryz.checked os 3 .any ((Rows.OpenSpec.upto Rows.formShapesSpec).preRow enc Tryz.prog Tryz.f3 Rows.formShapesUptoRow.domain false Rows.formShapesUptoRow.laid) (((Rows.OpenSpec.upto Rows.formShapesSpec).at F).post enc Tryz.prog Tryz.f3 false true false false) := by
  obtain ⟨places, hx⟩ := reads os enc
  have hok : Input.okWideB Tryz.prog ((World.laidAll Tryz.prog os lds).forCall (fun _ _ => 0) ⟨#[], wargs, []⟩) 3 ⟨#[], wargs, []⟩ = true := by kernel_rfl
  refine returnsInHanded_of_row (C := Tryz.checked) (s := Rows.OpenSpec.upto Rows.formShapesSpec) own started (by kernel_rfl) Tryz.func3
    ⟨World.laidAll Tryz.prog os lds, fun _ _ => 0, ⟨#[], wargs, []⟩, World.laidAll_os _ _ _, World.shaped_of_ZipB (by kernel_rfl) (by kernel_rfl), (Input.okWide_of_okWideB (base := 0) hok).1, (Input.okWide_of_okWideB hok).2,
      OpenSpec.preRow_of_cond 8 hx (by kernel_rfl) (fun k hk => by cases hk; kernel_rfl) (by kernel_rfl) (by show laidMetH Tryz.prog lds _; rw [MakeChecks.laidMetH_plain _ _ _ (by kernel_rfl)]; exact laidMet_laidAll _ (by kernel_rfl) (by kernel_rfl)), by
        simp only [Assume.holds]
        exact ⟨by simp, by simp, fun _ => Modest.zero, by simp, by simp⟩⟩ ?_
  intro W base args ds gs before hval hW _ hcond _ hL _ _
  exact contract H enc W base args ds gs before hval hW (hcond _ rfl) hL
theorem saidUpto : Rows.FormShapesUptoSaid :=
  OpenClaim.holds_of_cond 3 Tryz.f3 rfl rfl rfl rfl rfl rfl rfl ⟨rfl, rfl, rfl, rfl, rfl⟩ rfl rfl rfl rfl rfl (by kernel_rfl) Tryz.func3 (by kernel_rfl)
    (of_decide_eq_true (by kernel_rfl)) (by unfold Func.isWrapper; first | (rw [if_pos (by decide +kernel)]; kernel_rfl) | (rw [if_neg (by decide +kernel)]; exact ⟨rfl, rfl⟩))
    (fun os started H enc _ F => by rw [OpenClaim.pre_eq_preRow]; exact liftedUpto os started H enc F)
theorem plain (f : FuncId) (fn : Func) (hf : Tryz.pinned.checked.prog.funcNamed "consort/consortlaw01.FormShapes" = some f) (hfn : Tryz.pinned.checked.prog.funcs[f]? = some fn) :
    true = Tryz.pinned.checked.prog.looks [] ∧ ∀ (j : Nat) t, fn.params[j]? = some t → Tryz.pinned.checked.prog.wantsStandIn t = false := by
  obtain rfl : f = 3 := Option.some.inj ((show Tryz.prog.funcNamed "consort/consortlaw01.FormShapes" = some 3 by kernel_rfl).symm.trans hf) |>.symm
  obtain rfl : fn = Tryz.f3 := (Option.some.inj (Tryz.func3.symm.trans hfn)).symm
  exact ⟨by kernel_rfl, fun j t ht => by
    have hm : t ∈ Tryz.f3.params.toList := by simpa using Array.mem_of_getElem? ht
    have hall : (Tryz.f3.params.toList.all fun u => !Tryz.prog.wantsStandIn u) = true := by kernel_rfl
    exact (show Tryz.prog.wantsStandIn t = false by simpa using List.all_eq_true.1 hall t hm)⟩
theorem card_holds : Rows.FormShapesUptoCardSaid :=
  Claim7.holds_tied_plain_at .later [] _ _ _ _ saidUpto (fun _ h => by cases h) (by kernel_rfl) (fun _ h => by cases h) formShapesUpto_row_tie rfl ⟨rfl, rfl⟩ (by kernel_rfl) rfl plain (by kernel_rfl)
end Go.Proofs.YtnipdjkopmjoeaaGreatDoor
