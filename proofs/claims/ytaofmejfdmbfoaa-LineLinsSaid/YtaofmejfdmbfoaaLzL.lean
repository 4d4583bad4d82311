/-
  The law LineLins returns true for every graph and every number: linear orders are as stated; each argument reads afterwards as before. No condition.
-/
import Derived.Test.YtaofmejfdmbfoaaLnS
import Derived.Test.YtaofmejfdmbfoaaKw
import Derived.Test.YtaofmejfdmbfoaaXmD
import Derived.Test.YtaofmejfdmbfoaaLoP
import Derived.SliceStrings
import Derived.ChangeSlices
import Derived.ChangeMaps5
import Derived.ChangeArms
import Derived.Test.YtaofmejfdmbfoaaRows
namespace Go.Proofs.Ytaofmejfdmbfoaa
open Go.ChangeShapes Go.WideShapes Go.ChangeAt Go.RowKit Go.Ln
theorem namesOk_all : (Try.prog.funcs.toList.all fun fn => !(fn.body.isSome && (fn.name == "runtime.NumGoroutine"))) = true := by kernel_rfl
theorem namesOk : Xm.NamesOk Try.prog := fun f fn hf hb => by
  have := List.all_eq_true.1 namesOk_all fn (Array.mem_toList_iff.2 (Array.mem_of_getElem? hf))
  rw [hb] at this
  simpa using this
theorem works_start : (Xm.startS Try.prog 8 [] (Xm.gH Xm.Kw.gs) 0).isSome = true := by kernel_rfl
set_option maxRecDepth 100000 in
theorem works_any (w : World) : Calls Try.prog 8 #[] w fun e w' => e = .returned (.bool true) ∧ Below w.heap.size w w' := by
  have h0 : Xm.startS Try.prog 8 [] (Xm.gH Xm.Kw.gs) 0 = some Xm.Kw.K0 := by
    have := works_start
    unfold Xm.Kw.K0
    generalize Xm.startS Try.prog 8 [] (Xm.gH Xm.Kw.gs) 0 = o at this
    cases o with | none => cases this | some S => rfl
  have hl := Xm.Kw.last_ok
  split at hl
  · rename_i S' hS
    have hr := ((((((((((((((((((Xm.runK_ok namesOk 40 _ _ Xm.Kw.K1_ok).one (Xm.runK_ok namesOk 40 _ _ Xm.Kw.K2_ok)).one (Xm.runK_ok namesOk 40 _ _ Xm.Kw.K3_ok)).one (Xm.runK_ok namesOk 40 _ _ Xm.Kw.K4_ok)).one (Xm.runK_ok namesOk 40 _ _ Xm.Kw.K5_ok)).one (Xm.runK_ok namesOk 40 _ _ Xm.Kw.K6_ok)).one (Xm.runK_ok namesOk 40 _ _ Xm.Kw.K7_ok)).one (Xm.runK_ok namesOk 40 _ _ Xm.Kw.K8_ok)).one (Xm.runK_ok namesOk 40 _ _ Xm.Kw.K9_ok)).one (Xm.runK_ok namesOk 40 _ _ Xm.Kw.K10_ok)).one (Xm.runK_ok namesOk 40 _ _ Xm.Kw.K11_ok)).one (Xm.runK_ok namesOk 40 _ _ Xm.Kw.K12_ok)).one (Xm.runK_ok namesOk 40 _ _ Xm.Kw.K13_ok)).one (Xm.runK_ok namesOk 40 _ _ Xm.Kw.K14_ok)).one (Xm.runK_ok namesOk 40 _ _ Xm.Kw.K15_ok)).one (Xm.runK_ok namesOk 40 _ _ Xm.Kw.K16_ok)).one (Xm.runK_ok namesOk 40 _ _ Xm.Kw.K17_ok)).one (Xm.runK_ok namesOk 40 _ _ Xm.Kw.K18_ok)).one (Xm.runK_ok namesOk 40 _ _ Xm.Kw.K19_ok)
    exact Xm.calls_pieces namesOk (by kernel_rfl) h0 (hr.one (Xm.runK_ok namesOk 40 _ _ hS)) hl (fun x hx => by cases hx)
  · cases hl
/-- some list is longer than statements go -/
def largeB (g : Gr) : Bool := g.any (fun l => decide (60 < l.length))
def wideB (g : Gr) : Bool := decide (60 < g.length) || largeB g
set_option maxRecDepth 100000 in
set_option maxHeartbeats 1000000 in
theorem large_any (g : Gr) (a : Option Addr) (cap : Nat) (w : World) (hl : (g.length : Int) ≤ 9223372036854775807) (hi : GrAt w a g) :
    Calls Try.prog 12 #[.slice a g.length cap] w fun e w' => e = .returned (.bool (largeB g)) ∧ w = w' := by
  have HI := Lib.hid hi; clear hi
  obtain ⟨ans, hans⟩ : ∃ b, largeB g = b := ⟨_, rfl⟩
  rw [hans]
  have HA := Lib.hid hans; clear hans
  go_enter Try.func12, Try.ntmps12
  go_wp2
  go_loop [3] (fun i => ∃ k : Nat, k ≤ g.length ∧ i = .int .i64 k ∧ largeB (g.take k) = false) (fun i => g.length - (intOf i).toNat)
  case atStart => exact ⟨0, Nat.zero_le _, rfl, rfl⟩
  case round =>
    obtain ⟨k, hk, rfl, hn⟩ := hrel
    have HN := Lib.hid hn; clear hn
    by_cases hlt : k < g.length
    · obtain ⟨l, hy⟩ : ∃ l, g[k]? = some l := ⟨g[k], List.getElem?_eq_getElem hlt⟩
      obtain ⟨b, off, al, cl, rfl, hb, hc, hil, hml⟩ := HI.out k l hy
      have HY := Lib.hid hy; clear hy hil
      have hlm : (l.length : Int) ≤ 9223372036854775807 := by unfold maxLen at hml; omega
      by_cases he : 60 < (l.length : Int)
      · have hans : true = ans := by
          rw [← HA.out]; symm
          exact List.any_eq_true.2 ⟨l, List.mem_of_getElem? HY.out, decide_eq_true (by omega)⟩
        subst hans
        go_wp2
        go_ret
        exact ⟨rfl, rfl⟩
      · go_wp2
        go_round
        case rel =>
          refine ⟨k + 1, by omega, by go_num, ?_⟩
          have := HN.out
          unfold largeB at this ⊢
          rw [take_snocI g k l HY.out, List.any_append, this]
          simp; omega
        case measure => simp [intOf]; omega
    · obtain rfl : k = g.length := by omega
      have hn := HN.out
      rw [List.take_length] at hn
      have hans : false = ans := by rw [← HA.out]; exact hn.symm
      subst hans
      go_wp2
      go_ret
      exact ⟨rfl, rfl⟩
set_option maxRecDepth 100000 in
theorem wide_any (g : Gr) (a : Option Addr) (cap : Nat) (w : World) (hl : (g.length : Int) ≤ 9223372036854775807) (hi : GrAt w a g) :
    Calls Try.prog 7 #[.slice a g.length cap] w fun e w' => e = .returned (.bool (wideB g)) ∧ w = w' := by
  have HI := Lib.hid hi; clear hi
  unfold wideB
  by_cases h : 60 < (g.length : Int)
  · rw [decide_eq_true (by omega)]
    go_enter Try.func7, Try.ntmps7
    go_wp2
    go_ret
    exact ⟨rfl, rfl⟩
  · rw [decide_eq_false (by omega)]
    go_enter Try.func7, Try.ntmps7
    go_wp2_with (go_at_call 12; refine (large_any g _ _ _ hl HI.out).mono ?_; rintro e w2 ⟨rfl, rfl⟩)
    go_ret
    exact ⟨rfl, rfl⟩
end Go.Proofs.Ytaofmejfdmbfoaa
namespace Go.Proofs.Ytaofmejfdmbfoaa
open Go.ChangeShapes Go.WideShapes Go.ChangeAt Go.RowKit Go.Ln Go.Fs
theorem linL_len (g : Gr) (c : Int) : ((linL g c).length : Int) ≤ 9223372036854775807 := by
  unfold linL
  split
  · rename_i h
    obtain ⟨an, rfl, han⟩ := classB_nat h.2
    have := linO_small h.1 han
    rw [Int.toNat_natCast]; omega
  · simp
set_option maxRecDepth 100000 in
set_option maxHeartbeats 4000000 in
theorem lawL_walk (W : World) (g : Gr) (sa : Option Addr) (cap : Nat) (hl : (g.length : Int) ≤ 9223372036854775807) (hi : GrAt W sa g) (c : Int) :
    Calls Try.prog 3 #[.slice sa g.length cap, .int .i64 c] W fun e w' => e = .returned (.bool true) ∧ Below W.heap.size W w' := by
  have HWD := Lib.hid (wide_any g sa cap W hl hi)
  cases hw : wideB g with
  | true =>
    go_enter Try.func3, Try.ntmps3
    go_wp2_with (first
      | (go_at_call 7; refine HWD.out.mono ?_; rintro e w1 ⟨rfl, rfl⟩; rw [hw])
      | (go_at_call 8; refine (works_any _).mono ?_; rintro e w1 ⟨rfl, hu⟩; have HB := Lib.hid hu; clear hu))
    go_ret
    exact ⟨rfl, HB.out⟩
  | false =>
    have c1 := fun w' (h : Below W.heap.size W w') => lin_any W g sa cap hl hi c w' h
    have c2 := fun w' (h : Below W.heap.size W w') => rlin_any W g sa cap hl hi c w' h
    have hlA := linL_len g c
    generalize linL g c = lA at *
    generalize linE g c = eA at *
    have C1 := Lib.hid c1; have C2 := Lib.hid c2
    clear c1 c2 hi
    have HB := Lib.hid (Below.refl W.heap.size W)
    go_enter Try.func3, Try.ntmps3
    go_wp2_with (first
      | (go_at_call 7; refine HWD.out.mono ?_; rintro e w1 ⟨rfl, rfl⟩; rw [hw])
      | (go_at_call 9; refine (C1.out _ HB.out).mono ?_; rintro e w1 ⟨a1, k1, rfl, hu, hi1⟩; have I1 := Lib.hid hi1; have HB := Lib.hid (HB.out.trans (hu.mono HB.out.size)); clear hu hi1)
      | (go_at_call 10; refine (C2.out _ HB.out).mono ?_; rintro e w1 ⟨a2, k2, rfl, hu, hi2⟩; have I1 := Lib.hid (I1.out.below hu); have I2 := Lib.hid hi2; have HB := Lib.hid (HB.out.trans (hu.mono HB.out.size)); clear hu hi2)
      | (go_at_call 11; refine (same_any lA lA a1 a2 _ _ _ hlA hlA I1.out I2.out).mono ?_; rintro e w1 ⟨rfl, hu⟩; rw [decide_eq_true (rfl : lA = lA)]; have HB := Lib.hid (HB.out.trans (hu.mono HB.out.size)); clear hu)
      | (go_at_call 8; refine (works_any _).mono ?_; rintro e w1 ⟨rfl, hu⟩; have HB := Lib.hid (HB.out.trans (hu.mono HB.out.size)); clear hu))
    go_ret
    exact ⟨rfl, HB.out⟩
end Go.Proofs.Ytaofmejfdmbfoaa
namespace Go.Proofs.Ytaofmejfdmbfoaa
open Go.ChangeShapes Go.WideShapes Go.ChangeAt Go.RowKit Go.Ln Go.Fs
theorem own : ownKnob Try.prog.godebug = none := by kernel_rfl
theorem laidOut : laidOutB Try.prog = true := by kernel_rfl
theorem cellsOf_int : Try.prog.cellsOf 3 = 1 := by kernel_rfl
theorem cellsOf_ints : Try.prog.cellsOf 25 = 1 := by kernel_rfl
section
variable {H : Type} {enc : TypeId × Value → H} {W : World} {spare : Nat → Bool} {held : Bool}
theorem cells_one {w : World} {a : Addr} {cs : List Value} (h : w.cells? 0 a 1 = some cs) : ∃ c, cs = [c] ∧ w.cell? a = some c := by
  unfold World.cells? at h
  rw [if_pos (Nat.zero_le _)] at h
  have hl : cs.length = 1 := by simpa using mapM_some_length h
  obtain ⟨c, rfl⟩ := List.length_eq_one_iff.1 hl
  refine ⟨c, rfl, ?_⟩
  have := mapM_some_get h 0 0 (by simp)
  simpa [Addr.add] using this
theorem open_intsL {n : Nat} {cs : List Value} {x : DataW H × List MemPlace} (h : DataW.trod enc Try.prog W 0 spare held n 25 cs = some x) : ∃ a l cap, cs = [.slice a (l : List Int).length cap] ∧ IntsAt W a l ∧ (l.length ≤ cap ∧ cap ≤ maxLen) := by
  rcases DataW.trod_slice Try.underlying25 h with ⟨rfl, _⟩ | ⟨a, len, cap, elems, rest, k, _, rfl, _, _, hlc, hcm, hel, he, _, _⟩
  · exact ⟨none, [], 0, rfl, IntsAt.nil _ _, Nat.le_refl _, Nat.zero_le _⟩
  · rw [cellsOf_int] at he
    have hex : ∀ i, ∃ z : Int, i < len → W.cell? (a.add (i * 1)) = some (.int .i64 z) := by
      intro i
      by_cases hi : i < len
      · have hb := he i hi
        rw [List.getElem?_eq_getElem (by omega)] at hb
        obtain ⟨cs, hc1, hc2⟩ := Option.bind_eq_some_iff.1 hb
        obtain ⟨z, rfl, _, _⟩ := DataW.trod_int Try.underlying3 hc2
        obtain ⟨c, hc, hcell⟩ := cells_one hc1
        cases hc
        exact ⟨z, fun _ => hcell⟩
      · exact ⟨0, fun h => absurd h hi⟩
    obtain ⟨f, hf⟩ := Classical.axiomOfChoice hex
    have hlen : ((List.range len).map f).length = len := by simp
    refine ⟨some a, (List.range len).map f, cap, by rw [hlen], fun i z hz => ?_, by rw [hlen]; exact hlc, hcm⟩
    have hi : i < len := by rw [← hlen]; exact (List.getElem?_eq_some_iff.1 hz).1
    have hz' : f i = z := by simpa [hi] using hz
    have hc := hf i hi
    rw [hz', Nat.mul_one] at hc
    obtain ⟨b, o, sp⟩ := a
    have hsp : sp = none := by simpa [Addr.add] using World.cell?_spot (hf 0 (by omega))
    subst hsp
    rw [WideShapes.add_plain] at hc
    exact ⟨b, o, rfl, cell_lt hc, hc⟩
theorem open_graph {n : Nat} {cs : List Value} {x : DataW H × List MemPlace} (h : DataW.trod enc Try.prog W 0 spare held n 22 cs = some x) : ∃ a g cap, cs = [.slice a (g : Gr).length cap] ∧ GrAt W a g ∧ g.length ≤ maxLen := by
  rcases DataW.trod_slice Try.underlying22 h with ⟨rfl, _⟩ | ⟨a, len, cap, elems, rest, k, _, rfl, _, _, hlc, hcm, hel, he, _, _⟩
  · exact ⟨none, [], 0, rfl, fun k l hl => by simp at hl, Nat.zero_le _⟩
  · rw [cellsOf_ints] at he
    have hex : ∀ i, ∃ (l : List Int) (al : Option Addr) (cl : Nat), i < len → W.cell? (a.add (i * 1)) = some (.slice al l.length cl) ∧ IntsAt W al l ∧ (l.length ≤ cl ∧ cl ≤ maxLen) := by
      intro i
      by_cases hi : i < len
      · have hb := he i hi
        rw [List.getElem?_eq_getElem (by omega)] at hb
        obtain ⟨cs, hc1, hc2⟩ := Option.bind_eq_some_iff.1 hb
        obtain ⟨al, l, cl, rfl, h1, h2⟩ := open_intsL hc2
        obtain ⟨c, hc, hcell⟩ := cells_one hc1
        cases hc
        exact ⟨l, al, cl, fun _ => ⟨hcell, h1, h2⟩⟩
      · exact ⟨[], none, 0, fun h => absurd h hi⟩
    obtain ⟨f, hf⟩ := Classical.axiomOfChoice hex
    have hlen : ((List.range len).map f).length = len := by simp
    refine ⟨some a, (List.range len).map f, cap, by rw [hlen], fun i l hz => ?_, by rw [hlen]; omega⟩
    have hi : i < len := by rw [← hlen]; exact (List.getElem?_eq_some_iff.1 hz).1
    have hz' : f i = l := by simpa [hi] using hz
    obtain ⟨al, cl, hc⟩ := hf i
    obtain ⟨hc, h1, h2⟩ := hc hi
    rw [hz', Nat.mul_one] at hc
    rw [hz'] at h1 h2
    obtain ⟨b, o, sp⟩ := a
    have hsp : sp = none := by
      obtain ⟨al0, cl0, hc0⟩ := hf 0
      simpa [Addr.add] using World.cell?_spot (hc0 (by omega)).1
    subst hsp
    rw [WideShapes.add_plain] at hc
    exact ⟨b, o, al, cl, rfl, cell_lt hc, hc, h1, h2⟩
end
set_option maxRecDepth 100000 in
theorem law_any (W : World) (args : Array Value) {H : Type} {enc : TypeId × Value → H} {ds : List (DataW H)} {p : List MemPlace} (base : Nat)
    (hval : ∀ (j : Nat) t v, Try.f3.params[j]? = some t → args[j]? = some v → Value.okWide Try.prog W .any base t v)
    (hA : DataW.TrodAll enc Try.prog W 0 (fun _ => true) true Try.f3.params.toList args.toList ds p) :
    Calls Try.prog 3 args W fun e W' => e = .returned (.bool true) ∧ Below W.heap.size W W' := by
  have hp : Try.f3.params = #[22, 3] := by kernel_rfl
  rw [hp] at hval hA
  obtain ⟨v0, vs0, d0, ds0, p0, q0, hargs, rfl, rfl, h0, r0⟩ := trodAll_cons hA
  obtain ⟨v1, vs1, d1, ds1, p1, q1, rfl, rfl, rfl, h1, r1⟩ := trodAll_cons r0
  obtain ⟨rfl, rfl, rfl⟩ := trodAll_nil r1
  obtain rfl : args = #[v0, v1] := by cases args; simp_all
  obtain ⟨a0, len, cap, rfl⟩ := okWide_slice Try.underlying22 (hval 0 22 v0 rfl rfl)
  obtain ⟨c, rfl, _, _, _⟩ := open_int Try.underlying3 (hval 1 3 v1 rfl rfl) h1
  obtain ⟨fuel, hf⟩ := h0
  obtain ⟨sa, g, cp, hcs, hg, hm⟩ := open_graph hf
  simp [Value.cells] at hcs
  obtain ⟨rfl, rfl, rfl⟩ := hcs
  exact lawL_walk W g _ _ (by unfold maxLen at hm; omega) hg c
set_option maxRecDepth 100000 in
theorem contract (H : Type) (enc : TypeId × Value → H) (W : World) (base : Nat) (args : Array Value) (ds gs : List (DataW H)) (before : List MemPlace)
    (hval : ∀ (j : Nat) t v, Try.f3.params[j]? = some t → args[j]? = some v → Value.okWide Try.prog W .any base t v)
    (hW : DataW.Whole enc Try.prog Try.f3.params.toList Rows.lineLinsSpec.vars false W args.toList ds gs before) :
    Calls Try.prog 3 args W fun e W' => ∃ v, e = .returned v ∧ Rows.lineLinsSpec.post enc Try.prog Try.f3 false true false false W args v W' := by
  have hW' := hW
  obtain ⟨p, q, hA0, hV, rfl, _, _⟩ := hW
  have hA : DataW.TrodAll enc Try.prog W 0 (fun _ => true) true Try.f3.params.toList args.toList ds p := hA0
  refine (law_any W args base hval hA).mono fun e W' ⟨he, hb⟩ => ?_
  subst he
  refine ⟨_, rfl, Xm.law_post (tb := 4) laidOut (by kernel_rfl) (by kernel_rfl) (by kernel_rfl) rfl (fun ds hd => ?_) hW' hb⟩
  have hd : ds.length = 2 := hd.trans (by kernel_rfl)
  match ds, hd with
  | [a, b], _ => exact ⟨rfl, rfl, rfl⟩
set_option maxRecDepth 100000 in
theorem lifted (os : Os) (started : os.Started) (H : Type) (enc : TypeId × Value → H) :
    ReturnsInHanded {} Try.checked os 3 .any (Rows.lineLinsSpec.pre6 enc Try.prog Try.f3 Rows.lineLinsRow.domain false) (Rows.lineLinsSpec.post enc Try.prog Try.f3 false true false false) := by
  refine returnsInHanded_of_change (C := Try.checked) own started (by kernel_rfl) Try.func3
    (ChangeSpec.witness6 (enc := enc) (C := Try.checked) false ⟨#[], #[.slice none 0 0, .int .i64 0], []⟩ 8 (by kernel_rfl) (by kernel_rfl) (by kernel_rfl) (by kernel_rfl)) ?_
  intro W base args ds gs before hval hW _ _
  exact contract H enc W base args ds gs before hval hW
theorem holds : Rows.LineLinsSaid :=
  OpenClaim.holds_of_wide 3 Try.f3 rfl rfl rfl rfl rfl rfl rfl ⟨rfl, rfl, rfl, rfl, rfl⟩ rfl rfl rfl rfl rfl (by kernel_rfl) Try.func3 (by kernel_rfl)
    (of_decide_eq_true (by kernel_rfl)) (by unfold Func.isWrapper; first | (rw [if_pos (by decide +kernel)]; kernel_rfl) | (rw [if_neg (by decide +kernel)]; exact ⟨rfl, rfl⟩))
    (fun os started H enc _ => lifted os started H enc)
end Go.Proofs.Ytaofmejfdmbfoaa
