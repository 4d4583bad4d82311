/-
  The parts of the law LineCommon: what is formed, what is above a class, the library functions that it asks, and its closures. No condition.
-/
import Derived.Test.YtiohbfcjfdabmaaLnS
import Derived.Test.YtiohbfcjfdabmaaKw
import Derived.Test.YtiohbfcjfdabmaaXmD
import Derived.Test.YtiohbfcjfdabmaaLhH
import Derived.Test.YtiohbfcjfdabmaaLcG
import Derived.Deep.RegionHeld3
namespace Go.Proofs.Ytiohbfcjfdabmaa
open Go.ChangeShapes Go.WideShapes Go.ChangeAt Go.RowKit Go.Ln
theorem namesOk_all : (Try.prog.funcs.toList.all fun fn => !(fn.body.isSome && (fn.name == "runtime.NumGoroutine"))) = true := by kernel_rfl
theorem namesOk : Xm.NamesOk Try.prog := fun f fn hf hb => by
  have := List.all_eq_true.1 namesOk_all fn (Array.mem_toList_iff.2 (Array.mem_of_getElem? hf))
  rw [hb] at this
  simpa using this
theorem works_start : (Xm.startS Try.prog 8 [] (Xm.gH Xm.Kw.gs) 0).isSome = true := by kernel_rfl
set_option maxRecDepth 100000 in
theorem works_any (w : World) : Calls Try.prog 8 #[] w fun e w' => e = .returned (.bool true) ∧ Below w.heap.size w w' := by
  have h0 : Xm.startS Try.prog 8 [] (Xm.gH Xm.Kw.gs) 0 = some Xm.Kw.K0 := by
    have := works_start
    unfold Xm.Kw.K0
    generalize Xm.startS Try.prog 8 [] (Xm.gH Xm.Kw.gs) 0 = o at this
    cases o with | none => cases this | some S => rfl
  have hl := Xm.Kw.last_ok
  split at hl
  · rename_i S' hS
    have hr := ((((((((((((((((((Xm.runK_ok namesOk 40 _ _ Xm.Kw.K1_ok).one (Xm.runK_ok namesOk 40 _ _ Xm.Kw.K2_ok)).one (Xm.runK_ok namesOk 40 _ _ Xm.Kw.K3_ok)).one (Xm.runK_ok namesOk 40 _ _ Xm.Kw.K4_ok)).one (Xm.runK_ok namesOk 40 _ _ Xm.Kw.K5_ok)).one (Xm.runK_ok namesOk 40 _ _ Xm.Kw.K6_ok)).one (Xm.runK_ok namesOk 40 _ _ Xm.Kw.K7_ok)).one (Xm.runK_ok namesOk 40 _ _ Xm.Kw.K8_ok)).one (Xm.runK_ok namesOk 40 _ _ Xm.Kw.K9_ok)).one (Xm.runK_ok namesOk 40 _ _ Xm.Kw.K10_ok)).one (Xm.runK_ok namesOk 40 _ _ Xm.Kw.K11_ok)).one (Xm.runK_ok namesOk 40 _ _ Xm.Kw.K12_ok)).one (Xm.runK_ok namesOk 40 _ _ Xm.Kw.K13_ok)).one (Xm.runK_ok namesOk 40 _ _ Xm.Kw.K14_ok)).one (Xm.runK_ok namesOk 40 _ _ Xm.Kw.K15_ok)).one (Xm.runK_ok namesOk 40 _ _ Xm.Kw.K16_ok)).one (Xm.runK_ok namesOk 40 _ _ Xm.Kw.K17_ok)).one (Xm.runK_ok namesOk 40 _ _ Xm.Kw.K18_ok)).one (Xm.runK_ok namesOk 40 _ _ Xm.Kw.K19_ok)
    exact Xm.calls_pieces namesOk (by kernel_rfl) h0 (hr.one (Xm.runK_ok namesOk 40 _ _ hS)) hl (fun x hx => by cases hx)
  · cases hl
/-- some list is longer than statements go -/
def largeB (g : Gr) : Bool := g.any (fun l => decide (60 < l.length))
def wideB (g : Gr) : Bool := decide (60 < g.length) || largeB g
set_option maxRecDepth 100000 in
set_option maxHeartbeats 1000000 in
theorem large_any (g : Gr) (a : Option Addr) (cap : Nat) (w : World) (hl : (g.length : Int) ≤ 9223372036854775807) (hi : GrAt w a g) :
    Calls Try.prog 12 #[.slice a g.length cap] w fun e w' => e = .returned (.bool (largeB g)) ∧ w = w' := by
  have HI := Lib.hid hi; clear hi
  obtain ⟨ans, hans⟩ : ∃ b, largeB g = b := ⟨_, rfl⟩
  rw [hans]
  have HA := Lib.hid hans; clear hans
  go_enter Try.func12, Try.ntmps12
  go_wp2
  go_loop [3] (fun i => ∃ k : Nat, k ≤ g.length ∧ i = .int .i64 k ∧ largeB (g.take k) = false) (fun i => g.length - (intOf i).toNat)
  case atStart => exact ⟨0, Nat.zero_le _, rfl, rfl⟩
  case round =>
    obtain ⟨k, hk, rfl, hn⟩ := hrel
    have HN := Lib.hid hn; clear hn
    by_cases hlt : k < g.length
    · obtain ⟨l, hy⟩ : ∃ l, g[k]? = some l := ⟨g[k], List.getElem?_eq_getElem hlt⟩
      obtain ⟨b, off, al, cl, rfl, hb, hc, hil, hml⟩ := HI.out k l hy
      have HY := Lib.hid hy; clear hy hil
      have hlm : (l.length : Int) ≤ 9223372036854775807 := by unfold maxLen at hml; omega
      by_cases he : 60 < (l.length : Int)
      · have hans : true = ans := by
          rw [← HA.out]; symm
          exact List.any_eq_true.2 ⟨l, List.mem_of_getElem? HY.out, decide_eq_true (by omega)⟩
        subst hans
        go_wp2
        go_ret
        exact ⟨rfl, rfl⟩
      · go_wp2
        go_round
        case rel =>
          refine ⟨k + 1, by omega, by go_num, ?_⟩
          have := HN.out
          unfold largeB at this ⊢
          rw [take_snocI g k l HY.out, List.any_append, this]
          simp; omega
        case measure => simp [intOf]; omega
    · obtain rfl : k = g.length := by omega
      have hn := HN.out
      rw [List.take_length] at hn
      have hans : false = ans := by rw [← HA.out]; exact hn.symm
      subst hans
      go_wp2
      go_ret
      exact ⟨rfl, rfl⟩
set_option maxRecDepth 100000 in
theorem wide_any (g : Gr) (a : Option Addr) (cap : Nat) (w : World) (hl : (g.length : Int) ≤ 9223372036854775807) (hi : GrAt w a g) :
    Calls Try.prog 7 #[.slice a g.length cap] w fun e w' => e = .returned (.bool (wideB g)) ∧ w = w' := by
  have HI := Lib.hid hi; clear hi
  unfold wideB
  by_cases h : 60 < (g.length : Int)
  · rw [decide_eq_true (by omega)]
    go_enter Try.func7, Try.ntmps7
    go_wp2
    go_ret
    exact ⟨rfl, rfl⟩
  · rw [decide_eq_false (by omega)]
    go_enter Try.func7, Try.ntmps7
    go_wp2_with (go_at_call 12; refine (large_any g _ _ _ hl HI.out).mono ?_; rintro e w2 ⟨rfl, rfl⟩)
    go_ret
    exact ⟨rfl, rfl⟩
end Go.Proofs.Ytiohbfcjfdabmaa
namespace Go.Proofs.Ytiohbfcjfdabmaa
open Go.ChangeShapes Go.WideShapes Go.ChangeAt Go.RowKit Go.Ln Go.Fs
theorem gr1 {w : World} {la : Option Addr} {l : List Int} {lc : Nat} (h : IntsAt w la l) (h1 : l.length ≤ lc) (h2 : lc ≤ maxLen) : GrAt (w.alloc (.cells #[.slice la l.length lc] 25)) (some ⟨w.heap.size, 0, none⟩) [l] := by
  intro k x hx
  match k, hx with
  | 0, hx =>
    obtain rfl : l = x := by simpa using hx
    exact ⟨w.heap.size, 0, la, lc, rfl, by simp, by rw [World.cell?_alloc_at _ _ _ _ rfl]; rfl, h.below ((Below.refl _ _).alloc (Nat.le_refl _) _), h1, h2⟩
  | k + 1, hx => simp at hx
theorem lst_len (g : Gr) (c : Bool) (f : Nat → Bool) (hc : c = true → goodB g = true) : ((if c = true then listF f (3 + g.length) else [] : List Int).length : Int) ≤ 9223372036854775807 := by
  split
  · rename_i h
    have := listF_length f (3 + g.length)
    have := good_len (hc h)
    omega
  · simp
set_option maxRecDepth 100000 in
set_option maxHeartbeats 4000000 in
theorem lawH_walk (W : World) (g : Gr) (sa : Option Addr) (cap : Nat) (hl : (g.length : Int) ≤ 9223372036854775807) (hi : GrAt W sa g) (l : List Int) (la : Option Addr) (lc : Nat) (hll : (l.length : Int) ≤ 9223372036854775807) (hlc : l.length ≤ lc) (hlm : lc ≤ maxLen) (hli : IntsAt W la l) :
    Calls Try.prog 5 #[.slice sa g.length cap, .slice la l.length lc] W fun e w' => e = .returned (.bool true) ∧ Below W.heap.size W w' := by
  have hwd := wide_any g sa cap W hl hi
  have HWD := Lib.hid hwd; clear hwd
  have hlg := large_any [l] (some ⟨W.heap.size, 0, none⟩) 1 (W.alloc (.cells #[.slice la l.length lc] 25)) (by simp) (gr1 hli hlc hlm)
  have HLG := Lib.hid hlg; clear hlg
  have hBA : Below W.heap.size W (W.alloc (.cells #[.slice la l.length lc] 25)) := (Below.refl _ _).alloc (Nat.le_refl _) _
  have HBA := Lib.hid hBA; clear hBA
  cases hw : wideB g with
  | true =>
    go_enter Try.func5, Try.ntmps5
    go_wp2_with (first
      | (go_at_call 7; refine HWD.out.mono ?_; rintro e w1 ⟨rfl, rfl⟩; rw [hw])
      | (go_at_call 8; refine (works_any _).mono ?_; rintro e w1 ⟨rfl, hu⟩; have HB := Lib.hid hu; clear hu))
    go_ret
    exact ⟨rfl, HB.out⟩
  | false =>
    cases hw2 : largeB [l] with
    | true =>
      go_enter Try.func5, Try.ntmps5
      go_wp2_with (first
        | (go_at_call 7; refine HWD.out.mono ?_; rintro e w1 ⟨rfl, rfl⟩; rw [hw])
        | (go_at_call 12; refine HLG.out.mono ?_; rintro e w1 ⟨rfl, rfl⟩; rw [hw2])
        | (go_at_call 8; refine (works_any _).mono ?_; rintro e w1 ⟨rfl, hu⟩; have HB := Lib.hid (HBA.out.trans (hu.mono HBA.out.size)); clear hu))
      go_ret
      exact ⟨rfl, HB.out⟩
    | false =>
      have c1 := fun w' (h : Below W.heap.size W w') => heirs_any W g sa cap hl hi l la lc hll hli w' h
      have c2 := fun w' (h : Below W.heap.size W w') => rheirs_any W g sa cap hl hi l la lc hll hli w' h
      have c3 := fun w' (h : Below W.heap.size W w') => leastL_any W g sa cap hl hi l la lc hll hli w' h
      have c4 := fun w' (h : Below W.heap.size W w') => rleast_any W g sa cap hl hi l la lc hll hli w' h
      have hlA := lst_len g (okWith g l) (heirB g l) (fun h => (okWith_parts h).1)
      have hlU := lst_len g (okWith g l) (leastB g l) (fun h => (okWith_parts h).1)
      generalize (if okWith g l = true then listF (heirB g l) (3 + g.length) else []) = lA at *
      generalize (if okWith g l = true then listF (leastB g l) (3 + g.length) else []) = lU at *
      generalize (if okWith g l = true then (0 : Int) else 2) = eA at *
      have C1 := Lib.hid c1; have C2 := Lib.hid c2; have C3 := Lib.hid c3; have C4 := Lib.hid c4
      clear c1 c2 c3 c4 hi hli
      have HB := HBA
      go_enter Try.func5, Try.ntmps5
      go_wp2_with (first
        | (go_at_call 7; refine HWD.out.mono ?_; rintro e w1 ⟨rfl, rfl⟩; rw [hw])
        | (go_at_call 12; refine HLG.out.mono ?_; rintro e w1 ⟨rfl, rfl⟩; rw [hw2])
        | (go_at_call 15; refine (C1.out _ HB.out).mono ?_; rintro e w1 ⟨v, rfl, hu, hr⟩; obtain ⟨a1, k1, hv, hi1⟩ := hr.ints; subst hv; have I1 := Lib.hid hi1; have HB := Lib.hid (HB.out.trans (hu.mono HB.out.size)); clear hu hr hi1)
        | (go_at_call 16; refine (C2.out _ HB.out).mono ?_; rintro e w1 ⟨v, rfl, hu, hr⟩; obtain ⟨a2, k2, hv, hi2⟩ := hr.ints; subst hv; have I1 := Lib.hid (I1.out.below hu); have I2 := Lib.hid hi2; have HB := Lib.hid (HB.out.trans (hu.mono HB.out.size)); clear hu hr hi2)
        | (go_at_call 17; refine (C3.out _ HB.out).mono ?_; rintro e w1 ⟨v, rfl, hu, hr⟩; obtain ⟨a3, k3, hv, hi3⟩ := hr.ints; subst hv; have I1 := Lib.hid (I1.out.below hu); have I2 := Lib.hid (I2.out.below hu); have I3 := Lib.hid hi3; have HB := Lib.hid (HB.out.trans (hu.mono HB.out.size)); clear hu hr hi3)
        | (go_at_call 18; refine (C4.out _ HB.out).mono ?_; rintro e w1 ⟨v, rfl, hu, hr⟩; obtain ⟨a4, k4, hv, hi4⟩ := hr.ints; subst hv; have I1 := Lib.hid (I1.out.below hu); have I2 := Lib.hid (I2.out.below hu); have I3 := Lib.hid (I3.out.below hu); have I4 := Lib.hid hi4; have HB := Lib.hid (HB.out.trans (hu.mono HB.out.size)); clear hu hr hi4)
        | (go_at_call_of 11 a1; refine (same_any lA lA a1 a2 _ _ _ hlA hlA I1.out I2.out).mono ?_; rintro e w1 ⟨rfl, hu⟩; rw [decide_eq_true (rfl : lA = lA)]; have I3 := Lib.hid (I3.out.below hu); have I4 := Lib.hid (I4.out.below hu); have HB := Lib.hid (HB.out.trans (hu.mono HB.out.size)); clear hu)
        | (go_at_call_of 11 a3; refine (same_any lU lU a3 a4 _ _ _ hlU hlU I3.out I4.out).mono ?_; rintro e w1 ⟨rfl, hu⟩; rw [decide_eq_true (rfl : lU = lU)]; have HB := Lib.hid (HB.out.trans (hu.mono HB.out.size)); clear hu)
        | (go_at_call 8; refine (works_any _).mono ?_; rintro e w1 ⟨rfl, hu⟩; have HB := Lib.hid (HB.out.trans (hu.mono HB.out.size)); clear hu))
      go_ret
      exact ⟨rfl, HB.out⟩
end Go.Proofs.Ytiohbfcjfdabmaa
namespace Go.Proofs.Ytiohbfcjfdabmaa
open Go.ChangeShapes Go.WideShapes Go.ChangeAt Go.RowKit Go.Ln
set_option maxRecDepth 100000 in
set_option maxHeartbeats 1000000 in
theorem sindex_any (l : List Int) (a : Option Addr) (cap : Nat) (x : Int) (w : World) (hl : (l.length : Int) ≤ 9223372036854775807) (hi : IntsAt w a l) :
    Calls Try.prog 55 #[.slice a l.length cap, .int .i64 x] w fun e w' => (∃ n : Int, e = .returned (.int .i64 n) ∧ decide (0 ≤ n) = decide (x ∈ l)) ∧ w = w' := by
  have HI := Lib.hid hi; clear hi
  obtain ⟨ans, hans⟩ : ∃ b, decide (x ∈ l) = b := ⟨_, rfl⟩
  rw [hans]
  have HA := Lib.hid hans; clear hans
  go_enter Try.func55, Try.ntmps55
  go_wp2
  go_loop [8] (fun i => ∃ k : Nat, k ≤ l.length ∧ i = .int .i64 k ∧ x ∉ l.take k) (fun i => l.length - (intOf i).toNat)
  case atStart => exact ⟨0, Nat.zero_le _, rfl, by simp⟩
  case round =>
    obtain ⟨k, hk, rfl, hn⟩ := hrel
    have HN := Lib.hid hn; clear hn
    by_cases hlt : k < l.length
    · obtain ⟨y, hy⟩ : ∃ y, l[k]? = some y := ⟨l[k], List.getElem?_eq_getElem hlt⟩
      obtain ⟨b, off, rfl, hb, hc⟩ := HI.out k y hy
      have HY := Lib.hid hy; clear hy
      by_cases he : x = y
      · have hans : true = ans := by rw [← HA.out]; symm; exact decide_eq_true (he ▸ List.mem_of_getElem? HY.out)
        subst hans
        go_wp2
        go_ret
        exact ⟨⟨_, rfl, by simp⟩, rfl⟩
      · go_wp2
        go_round
        case rel =>
          refine ⟨k + 1, by omega, by go_num, ?_⟩
          rw [take_snocI l k y HY.out]
          intro hm
          rcases List.mem_append.1 hm with h | h
          · exact HN.out h
          · exact he (List.mem_singleton.1 h)
        case measure => simp [intOf]; omega
    · obtain rfl : k = l.length := by omega
      have hn := HN.out
      rw [List.take_length] at hn
      have hans : false = ans := by rw [← HA.out]; symm; exact decide_eq_false hn
      subst hans
      go_wp2
      go_ret
      exact ⟨⟨_, rfl, by simp⟩, rfl⟩
set_option maxRecDepth 100000 in
set_option maxHeartbeats 1000000 in
theorem scontains_any (l : List Int) (a : Option Addr) (cap : Nat) (x : Int) (w : World) (hl : (l.length : Int) ≤ 9223372036854775807) (hi : IntsAt w a l) :
    Calls Try.prog 26 #[.slice a l.length cap, .int .i64 x] w fun e w' => e = .returned (.bool (decide (x ∈ l))) ∧ w = w' := by
  have HI := Lib.hid hi; clear hi
  obtain ⟨ans, hans⟩ : ∃ b, decide (x ∈ l) = b := ⟨_, rfl⟩
  rw [hans]
  have HA := Lib.hid hans; clear hans
  go_enter Try.func26, Try.ntmps26
  go_wp2_with (go_at_call 55; refine (sindex_any l _ _ x _ hl HI.out).mono ?_; rintro e w2 ⟨⟨n, rfl, hn⟩, rfl⟩; rw [HA.out] at hn)
  go_ret
  exact ⟨by rw [← hn]; simp, rfl⟩
end Go.Proofs.Ytiohbfcjfdabmaa
namespace Go.Proofs.Ytiohbfcjfdabmaa
open Go.ChangeShapes Go.WideShapes Go.ChangeAt Go.RowKit Go.Ln
set_option maxRecDepth 100000 in
set_option maxHeartbeats 2000000 in
theorem lformed_any (W0 : World) (g : Gr) (a : Option Addr) (cap : Nat) (hl : (g.length : Int) ≤ 9223372036854775807) (hi : GrAt W0 a g) (w : World) (hB : Below W0.heap.size W0 w) :
    Calls Try.prog 19 #[.slice a g.length cap] w fun e w' => e = .returned (.bool (goodB g)) ∧ Below w.heap.size w w' := by
  have HI := Lib.hid hi; clear hi
  have HB := Lib.hid hB; clear hB
  unfold goodB
  by_cases h3 : 16 < (g.length : Int)
  · have e : (decide (g.length ≤ 16) && goodFrom 0 g) = false := by rw [decide_eq_false (by omega)]; rfl
    rw [e]; clear e
    go_enter Try.func19, Try.ntmps19
    go_wp2
    go_ret
    exact ⟨rfl, Below.refl _ _⟩
  · have e : (decide (g.length ≤ 16) && goodFrom 0 g) = goodFrom 0 g := by rw [decide_eq_true (by omega)]; rfl
    rw [e]; clear e
    obtain ⟨ans, hans⟩ : ∃ b, goodFrom 0 g = b := ⟨_, rfl⟩
    rw [hans]
    have HA := Lib.hid hans; clear hans
    go_enter Try.func19, Try.ntmps19
    go_wp2
    go_loopw [12] (fun i wr => ∃ k : Nat, k ≤ g.length ∧ i = .int .i64 k ∧ goodFrom 0 (g.take k) = true ∧ Below w.heap.size w wr) (fun i _ => g.length - (intOf i).toNat)
    case atStart => exact ⟨0, Nat.zero_le _, rfl, rfl, Below.refl _ _⟩
    case round =>
      obtain ⟨k, hk, rfl, hok, hup⟩ := hrel
      have HUP := Lib.hid hup; have HOK := Lib.hid hok
      clear hup hok
      by_cases hlt : k < g.length
      · obtain ⟨l, hx⟩ : ∃ l, g[k]? = some l := ⟨g[k], List.getElem?_eq_getElem hlt⟩
        have hBr := HB.out.trans (HUP.out.mono HB.out.size)
        obtain ⟨b, off, al, cl, rfl, hb, hxc, hil, hml⟩ := HI.out.below hBr k l hx
        have hc3 : (3 : Int) + ((0 : Nat) : Int) + (k : Int) = 3 + (k : Int) := by omega
        have hst := goodFrom_stop g 0 k l hx
        have htk := goodFrom_take g 0 k l hx
        rw [hc3, canB_okP] at hst htk
        have HST := Lib.hid hst; have HTK := Lib.hid htk; have HIL := Lib.hid hil
        have hlm : (l.length : Int) ≤ 9223372036854775807 := by unfold maxLen at hml; omega
        have hcap : l.length ≤ cl := hml.1
        have hcap2 : (cl : Int) ≤ 9223372036854775807 := by unfold maxLen at hml; omega
        clear hst htk hil hml hx
        by_cases h4 : 3 < (l.length : Int)
        · obtain rfl : false = ans := by rw [← HA.out]; exact (HST.out (by rw [decide_eq_false (by omega)]; rfl)).symm
          go_wp2
          go_ret
          exact ⟨rfl, HUP.out⟩
        · have e4 : decide (l.length ≤ 3) = true := decide_eq_true (by omega)
          have HTK2 := Lib.hid (show goodFrom 0 (g.take (k + 1)) = (goodFrom 0 (g.take k) && okP (3 + (k : Int)) l) by rw [HTK.out, e4]; rfl)
          have HST2 := Lib.hid (show okP (3 + (k : Int)) l = false → goodFrom 0 g = false from fun h => HST.out (by rw [h, Bool.and_false]))
          clear HTK HST
          go_wp2
          go_loopw [22] (fun j wr2 => ∃ m : Nat, m ≤ l.length ∧ j = .int .i64 m ∧ okP (3 + (k : Int)) (l.take m) = true ∧ Below wr.heap.size wr wr2) (fun j _ => l.length - (intOf j).toNat)
          case atStart => exact ⟨0, Nat.zero_le _, rfl, by simp [okP], Below.refl _ _⟩
          case round =>
            obtain ⟨m, hm, rfl, hom, hup2⟩ := hrel
            have HUP2 := Lib.hid hup2; have HOM := Lib.hid hom
            clear hom
            have hxc2 := (hup2.cell (p := ⟨b, off + k, none⟩) hb).trans hxc
            have hil2 := HIL.out.below hup2
            clear hup2 hxc
            have HIL2 := Lib.hid hil2
            by_cases hlt2 : m < l.length
            · obtain ⟨y, hy⟩ : ∃ y, l[m]? = some y := ⟨l[m], List.getElem?_eq_getElem hlt2⟩
              obtain ⟨bl, ol, rfl, hbl, hyc⟩ := hil2 m y hy
              have hmc : m ≤ cl := by omega
              have hmc2 : (m : Int) ≤ (cl : Int) := by omega
              have hlen : (l.take m).length = m := by rw [List.length_take]; omega
              have hcall : ∀ w', Below wr.heap.size wr w' → Calls Try.prog 26 #[.slice (some ⟨bl, ol, none⟩) m cl, .int .i64 y] w' fun e w'' => e = .returned (.bool (decide (y ∈ l.take m))) ∧ w'' = w' := fun w' hb' => by
                have := scontains_any (l.take m) (some ⟨bl, ol, none⟩) cl y w' (by rw [hlen]; omega) (ints_take (HIL2.out.below hb') m)
                rw [hlen] at this
                exact this.mono fun e w'' ⟨h1, h2⟩ => ⟨h1, h2.symm⟩
              have hst := okP_stop (3 + (k : Int)) l m y hy
              have hnx := okP_next (3 + (k : Int)) l m y hy HOM.out
              have HC := Lib.hid hcall; have HST := Lib.hid hst; have HNX := Lib.hid hnx
              clear hcall hst hnx hil2 hy
              by_cases q1 : y < 3
              · obtain rfl : false = ans := by rw [← HA.out]; exact (HST2.out (HST.out (.inl q1))).symm
                go_wp2
                go_ret
                exact ⟨rfl, (HUP.out.trans (HUP2.out.mono HUP.out.size))⟩
              · have hd1 : decide (y < 3) = false := decide_eq_false q1
                have hw : IntKind.i64.wrap (3 + (k : Int)) = 3 + (k : Int) := by rw [IntKind.wrap_i64]; omega
                by_cases q2 : 3 + (k : Int) ≤ y
                · obtain rfl : false = ans := by rw [← HA.out]; exact (HST2.out (HST.out (.inr (.inl q2)))).symm
                  go_wp2
                  go_ret
                  exact ⟨rfl, (HUP.out.trans (HUP2.out.mono HUP.out.size))⟩
                · have hd2 : decide (3 + (k : Int) ≤ y) = false := decide_eq_false q2
                  cases hd : decide (y ∈ l.take m) with
                  | true =>
                    obtain rfl : false = ans := by rw [← HA.out]; exact (HST2.out (HST.out (.inr (.inr (of_decide_eq_true hd))))).symm
                    have HD := Lib.hid hd; clear hd
                    have HC2 := Lib.hid (show ∀ w', Below wr.heap.size wr w' → Calls Try.prog 26 #[.slice (some ⟨bl, ol, none⟩) m cl, .int .i64 y] w' fun e w'' => e = .returned (.bool true) ∧ w'' = w' from fun w' hb' => by have := HC.out w' hb'; rw [HD.out] at this; exact this)
                    go_wp2_with (go_at_call 26; refine (HC2.out _ (Below.refl _ _)).mono ?_; rintro e w5 ⟨rfl, rfl⟩)
                    go_ret
                    exact ⟨rfl, (HUP.out.trans (HUP2.out.mono HUP.out.size))⟩
                  | false =>
                    have hnm := of_decide_eq_false hd
                    have HD := Lib.hid hd; clear hd
                    have HC2 := Lib.hid (show ∀ w', Below wr.heap.size wr w' → Calls Try.prog 26 #[.slice (some ⟨bl, ol, none⟩) m cl, .int .i64 y] w' fun e w'' => e = .returned (.bool false) ∧ w'' = w' from fun w' hb' => by have := HC.out w' hb'; rw [HD.out] at this; exact this)
                    go_wp2_with (go_at_call 26; refine (HC2.out _ (Below.refl _ _)).mono ?_; rintro e w5 ⟨rfl, rfl⟩)
                    exact ⟨⟨m + 1, by omega, by go_num, HNX.out (by omega) (by omega) hnm, HUP2.out⟩, by simp [intOf]; omega⟩
            · obtain rfl : m = l.length := by omega
              have hom := HOM.out
              rw [List.take_length] at hom
              go_wp2
              exact ⟨⟨k + 1, by omega, by go_num, by rw [HTK2.out, HOK.out, hom]; rfl, HUP.out.trans (HUP2.out.mono HUP.out.size)⟩, by simp [intOf]; omega⟩
      · obtain rfl : k = g.length := by omega
        have hok := HOK.out
        rw [List.take_length] at hok
        obtain rfl : true = ans := by rw [← HA.out]; exact hok.symm
        go_wp2
        go_ret
        exact ⟨rfl, HUP.out⟩
end Go.Proofs.Ytiohbfcjfdabmaa
namespace Go.Proofs.Ytiohbfcjfdabmaa
open Go.ChangeShapes Go.WideShapes Go.ChangeAt Go.RowKit Go.Ln
theorem infoBool : (Try.prog.info? 4).map (fun i => (i.zero, i.size, i.bytes)) = some (some (.bool false), 1, 1) := by kernel_rfl
theorem underBools : Try.prog.underlying 41 = some (.slice 4) := by kernel_rfl
theorem make_bools (w : World) (n : Nat) (hn : n ≤ 19) : (Instr.makeSlice 41 (.int .i64 (n : Int)) (.int .i64 (n : Int))).run Try.prog w = .ok (.slice (some ⟨w.heap.size, 0, none⟩) n n) (w.alloc (.cells (madeCells #[.bool false] n) 4)) := by
  have hI := infoBool
  cases hi : Try.prog.info? 4 with
  | none => rw [hi] at hI; cases hI
  | some i =>
    rw [hi] at hI
    simp only [Option.map_some, Option.some.injEq, Prod.mk.injEq] at hI
    have := run_make (P := Try.prog) w 41 4 i _ underBools hi hI.1 .i64 .i64 n n (by omega) (Int.le_refl _) (by rw [hI.2.2]; omega) (by omega)
    rw [Int.toNat_natCast, hI.2.1, Nat.mul_one] at this
    exact this
/-- a row of marks -/
def MarkR (B len n : Nat) (w : World) : Prop := ∀ i, i < len → w.cell? ⟨B, i, none⟩ = some (.bool (n.testBit i)) ∧ w.frozen? ⟨B, i, none⟩ = false
theorem MarkR.set {B len n : Nat} {w : World} (h : MarkR B len n w) (p : Nat) (hp : p < len) : MarkR B len (n ||| 2 ^ p) (w.setCell ⟨B, p, none⟩ (.bool true)) := fun i hi => by
  refine ⟨?_, by rw [World.frozen?_setCell]; exact (h i hi).2⟩
  by_cases e : i = p
  · subst e
    rw [World.cell?_setCell_same _ _ _ (h i hi).1]
    simp [Nat.testBit_or]
  · rw [World.cell?_setCell_other _ _ _ _ (by intro e'; injection e' with e1 e2; omega), (h i hi).1, Nat.testBit_or, Nat.testBit_two_pow, decide_eq_false (by omega), Bool.or_false]
theorem MarkR.setB {B len n : Nat} {w : World} (h : MarkR B len n w) (p : Nat) (hp : p < len) (b : Bool) : MarkR B len (if b = true then n ||| 2 ^ p else n) (w.setCell ⟨B, p, none⟩ (.bool (n.testBit p || b))) := by
  cases b with
  | true => rw [Bool.or_true, if_pos rfl]; exact h.set p hp
  | false =>
    rw [Bool.or_false, if_neg (by simp)]
    intro i hi
    refine ⟨?_, by rw [World.frozen?_setCell]; exact (h i hi).2⟩
    by_cases e : i = p
    · subst e
      rw [World.cell?_setCell_same _ _ _ (h i hi).1]
    · rw [World.cell?_setCell_other _ _ _ _ (by intro e'; injection e' with e1 e2; omega), (h i hi).1]
theorem MarkR.below {B len n : Nat} {w w' : World} (h : MarkR B len n w) (hb : Below w.heap.size w w') (hB : B < w.heap.size) : MarkR B len n w' := fun i hi =>
  ⟨(hb.cell (p := ⟨B, i, none⟩) hB).trans (h i hi).1, (hb.frozen (p := ⟨B, i, none⟩) hB).trans (h i hi).2⟩
theorem markR_start (w : World) (n : Nat) : MarkR w.heap.size n 0 (w.alloc (.cells (madeCells #[.bool false] n) 4)) := fun i hi => by
  refine ⟨?_, by simp⟩
  rw [World.cell?_alloc_at _ _ _ _ rfl]
  simp [madeCells, hi, Nat.mod_one]
set_option maxRecDepth 100000 in
set_option maxHeartbeats 2000000 in
theorem labove_any (W0 : World) (g : Gr) (sa : Option Addr) (cap : Nat) (hg : goodB g = true) (hi : GrAt W0 sa g) (c : Nat) (hc : c < 3 + g.length) (w : World) (hB : Below W0.heap.size W0 w) :
    Calls Try.prog 24 #[.slice sa g.length cap, .int .i64 c] w fun e w' => e = .returned (.slice (some ⟨w.heap.size, 0, none⟩) (3 + g.length) (3 + g.length)) ∧ Below w.heap.size w w' ∧ w.heap.size < w'.heap.size ∧ ∀ b, b < 3 + g.length → w'.cell? ⟨w.heap.size, b, none⟩ = some (.bool (belowR g c b)) := by
  have hlen := good_len hg
  have HI := Lib.hid hi; clear hi
  have HB := Lib.hid hB; clear hB
  have hw3 : IntKind.i64.wrap (3 + (g.length : Int)) = 3 + (g.length : Int) := by rw [IntKind.wrap_i64]; omega
  have hmk := make_bools w (3 + g.length) (by omega)
  rw [show ((3 + g.length : Nat) : Int) = 3 + (g.length : Int) by omega] at hmk
  have hst := markR_start w (3 + g.length)
  have hsz : (w.alloc (.cells (madeCells #[.bool false] (3 + g.length)) 4)).heap.size = w.heap.size + 1 := by simp
  have hbw : Below w.heap.size w (w.alloc (.cells (madeCells #[.bool false] (3 + g.length)) 4)) := (Below.refl _ _).alloc (Nat.le_refl _) _
  generalize w.alloc (.cells (madeCells #[.bool false] (3 + g.length)) 4) = w1 at *
  obtain ⟨k0, k0f⟩ := hst 0 (by omega)
  rw [Nat.zero_testBit] at k0
  have m1 := hst.set 0 (by omega)
  rw [show (0 : Nat) ||| 2 ^ 0 = 1 by rfl] at m1
  obtain ⟨kc, kcf⟩ := m1 c hc
  have m2 := m1.set c hc
  have HM2 := Lib.hid m2; have HBW := Lib.hid hbw
  clear hst hbw m1 m2
  go_enter Try.func24, Try.ntmps24
  go_wp2
  go_loopw [6] (fun i wr => ∃ k : Nat, k ≤ c - 2 ∧ i = .int .i64 ((c - k : Nat) : Int) ∧ Below w.heap.size w wr ∧ w.heap.size < wr.heap.size ∧ MarkR w.heap.size (3 + g.length) (mkE g c k) wr) (fun i _ => (intOf i).toNat)
  case atStart => exact ⟨0, by omega, rfl, ((HBW.out.setCell (Nat.le_refl _) _).setCell (Nat.le_refl _) _), by simp; omega, HM2.out⟩
  case round =>
    obtain ⟨k, hk, hi6, hup, hsz2, hmk2⟩ := hrel
    have HUP := Lib.hid hup; have HMK := Lib.hid hmk2
    clear hup hmk2
    by_cases hge : (3 : Int) ≤ ((c - k : Nat) : Int)
    · obtain ⟨q, hq⟩ : ∃ q, c - k = q + 3 := ⟨c - k - 3, by omega⟩
      have hqc : ((c - k : Nat) : Int) = (q : Int) + 3 := by omega
      rw [hqc] at hi6 hge
      subst hi6
      obtain ⟨l, hl⟩ : ∃ l, g[q]? = some l := ⟨g[q]'(by omega), List.getElem?_eq_getElem (by omega)⟩
      obtain ⟨bg, og, al, cl, rfl, hbg, hlc0, hil, hml⟩ := HI.out q l hl
      have hlc := ((HB.out.trans (HUP.out.mono HB.out.size)).cell (p := ⟨bg, og + q, none⟩) hbg).trans hlc0
      have hbg2 : bg < wr.heap.size := Nat.lt_of_lt_of_le hbg (HB.out.trans (HUP.out.mono HB.out.size)).size
      have hpar : par g (q + 3) = l := by rw [par_big g (q + 3) (by omega), Nat.add_sub_cancel, List.getD, hl]; rfl
      have hmem := fun p (hp : p ∈ l) => par_mem hg (c := q + 3) (by rw [hpar]; exact hp)
      have hlm : (l.length : Int) ≤ 9223372036854775807 := by unfold maxLen at hml; omega
      have hstep : mkE g c (k + 1) = mk1 g (mkE g c k) (q + 3) := by rw [← hq]; rfl
      have HL := Lib.hid hl; have HIL := Lib.hid hil; have HME := Lib.hid hmem; have HSTP := Lib.hid hstep; have HPAR := Lib.hid hpar
      clear hil hmem hml hl hpar hstep
      generalize hn : mkE g c k = n at *
      have hw1 : IntKind.i64.wrap (q : Int) = q := by rw [IntKind.wrap_i64]; omega
      have hw4 : IntKind.i64.wrap ((q : Int) + 3 - 3) = q := by rw [IntKind.wrap_i64]; omega
      obtain ⟨wX, hwX⟩ : ∃ x, x = wr := ⟨wr, rfl⟩
      subst hwX
      go_wp2
      go_loopw [29] (fun j wr2 => ∃ m : Nat, m ≤ l.length ∧ j = .int .i64 m ∧ Below w.heap.size w wr2 ∧ w.heap.size < wr2.heap.size ∧ MarkR w.heap.size (3 + g.length) (if n.testBit (q + 3) = true then (l.take m).foldl (fun s p => s ||| 2 ^ p.toNat) n else n) wr2) (fun j _ => l.length - (intOf j).toNat)
      case atStart => exact ⟨0, Nat.zero_le _, rfl, HUP.out, hsz2, by simp; exact HMK.out⟩
      case round =>
        obtain ⟨m, hm, rfl, hup2, hsz3, hmk3⟩ := hrel
        have HUP2 := Lib.hid hup2
        generalize hN : (if n.testBit (q + 3) = true then (l.take m).foldl (fun s p => s ||| 2 ^ p.toNat) n else n) = N at *
        have hbit : N.testBit (q + 3) = n.testBit (q + 3) := by
          rw [← hN]
          split
          · rw [foldl_or_bit]
            have : ((l.take m).any fun p => (2 ^ p.toNat).testBit (q + 3)) = false := by
              rw [Bool.eq_false_iff]
              intro hh
              obtain ⟨p, hp, hpb⟩ := List.any_eq_true.1 hh
              have h5 := HME.out p (List.mem_of_mem_take hp)
              rw [Nat.testBit_two_pow] at hpb
              have := of_decide_eq_true hpb
              omega
            rw [this, Bool.or_false]
          · rfl
        have hma := (hmk3 (q + 3) (by omega)).1
        rw [hbit] at hma
        have HMK3 := Lib.hid hmk3; have HNN := Lib.hid hN
        have hil2 := HIL.out.below (HB.out.trans (hup2.mono HB.out.size))
        clear hup2 hmk3 hN
        by_cases hlt : m < l.length
        · obtain ⟨y, hy⟩ : ∃ y, l[m]? = some y := ⟨l[m], List.getElem?_eq_getElem hlt⟩
          obtain ⟨bl, ol, rfl, hbl, hyc⟩ := hil2 m y hy
          have hyr := HME.out y (List.mem_of_getElem? hy)
          obtain ⟨yn, rfl⟩ : ∃ yn : Nat, y = (yn : Int) := ⟨y.toNat, by omega⟩
          have hyn : ((yn : Int)).toNat = yn := by omega
          obtain ⟨hyk1, hyk2⟩ := HMK3.out yn (by omega)
          have hset := HMK3.out.setB yn (by omega) (n.testBit (q + 3))
          have hnx : (if n.testBit (q + 3) = true then (l.take (m + 1)).foldl (fun s p => s ||| 2 ^ p.toNat) n else n) = (if n.testBit (q + 3) = true then N ||| 2 ^ yn else N) := by
            rw [← HNN.out]
            cases n.testBit (q + 3) with
            | true => simp only [if_true]; rw [take_snocI l m _ hy, List.foldl_append]; simp
            | false => simp
          have HSE := Lib.hid hset; have HNX := Lib.hid hnx
          clear hset hnx hy hil2
          cases hby : N.testBit yn with
          | true =>
            rw [hby] at hyk1 HSE
            rw [Bool.true_or] at HSE
            go_wp2
            exact ⟨⟨m + 1, by omega, by go_num, HUP2.out.setCell (by simp) _, by simp; omega, by rw [HNX.out]; exact HSE.out⟩, by simp [intOf]; omega⟩
          | false =>
            rw [hby] at hyk1 HSE
            rw [Bool.false_or] at HSE
            go_wp2
            exact ⟨⟨m + 1, by omega, by go_num, HUP2.out.setCell (by simp) _, by simp; omega, by rw [HNX.out]; exact HSE.out⟩, by simp [intOf]; omega⟩
        · obtain rfl : m = l.length := by omega
          have hmk1 : mk1 g n (q + 3) = N := by
            unfold mk1; rw [HPAR.out, ← HNN.out, List.take_length]
          go_wp2
          refine ⟨⟨k + 1, by omega, ?_, HUP2.out, hsz3, by rw [HSTP.out, hmk1]; exact HMK3.out⟩, ?_⟩
          · rw [show ((c - (k + 1) : Nat) : Int) = (q : Int) + 3 - 1 by omega]
          · simp [intOf]; omega
    · have hkc : k = c - 2 := by omega
      subst hi6
      go_wp2
      go_ret
      refine ⟨rfl, HUP.out, hsz2, fun b hb => ?_⟩
      rw [belowR_eq hg c b hc, ← mkE_end hg c hc b, ← hkc]
      exact (HMK.out b hb).1
end Go.Proofs.Ytiohbfcjfdabmaa
namespace Go.Proofs.Ytiohbfcjfdabmaa
open Go.ChangeShapes Go.WideShapes Go.ChangeAt Go.RowKit Go.Ln
set_option maxRecDepth 100000 in
set_option maxHeartbeats 1000000 in
theorem if_1 (c0 : Value) (W : World) (l : List Int) (a : Option Addr) (cap : Nat) (hl : (l.length : Int) ≤ 9223372036854775807) (hi : IntsAt W a l) (p : Int → Bool)
    (hc : ∀ x ∈ l, ∀ w', Below W.heap.size W w' → Calls Try.prog 22 #[.int .i64 x, c0] w' fun e w'' => e = .returned (.bool (p x)) ∧ Below w'.heap.size w' w'') (w : World) (hB : Below W.heap.size W w) :
    Calls Try.prog 54 #[.slice a l.length cap, .func (.func 22) #[] #[c0]] w fun e w' => ∃ n : Int, e = .returned (.int .i64 n) ∧ decide (0 ≤ n) = l.any p ∧ Below w.heap.size w w' := by
  have HI := Lib.hid hi; have HC := Lib.hid hc; have HB := Lib.hid hB
  clear hi hc hB
  obtain ⟨ans, hans⟩ : ∃ b, l.any p = b := ⟨_, rfl⟩
  rw [hans]
  have HA := Lib.hid hans; clear hans
  go_enter Try.func54, Try.ntmps54
  go_wp2
  go_loopw [8] (fun i wr => ∃ k : Nat, k ≤ l.length ∧ i = .int .i64 k ∧ (l.take k).any p = false ∧ Below w.heap.size w wr) (fun i _ => l.length - (intOf i).toNat)
  case atStart => exact ⟨0, Nat.zero_le _, rfl, rfl, Below.refl _ _⟩
  case round =>
    obtain ⟨k, hk, rfl, hn, hup⟩ := hrel
    have HN := Lib.hid hn; have HUP := Lib.hid hup
    have hBr := HB.out.trans (hup.mono HB.out.size)
    have HBR := Lib.hid hBr
    clear hn hup
    by_cases hlt : k < l.length
    · obtain ⟨y, hy⟩ : ∃ y, l[k]? = some y := ⟨l[k], List.getElem?_eq_getElem hlt⟩
      obtain ⟨b, off, rfl, hb, hcc⟩ := HI.out.below hBr k y hy
      have hmem := List.mem_of_getElem? hy
      have htk := take_snocI l k y hy
      have HY := Lib.hid hy; have HTK := Lib.hid htk; have HM := Lib.hid hmem
      clear hy htk hmem hBr
      cases hpy : p y with
      | true =>
        have hans : true = ans := by rw [← HA.out]; symm; exact List.any_eq_true.2 ⟨y, HM.out, hpy⟩
        subst hans
        have HP := Lib.hid hpy; clear hpy
        go_wp2_with (go_at_call 22; refine (HC.out y HM.out _ HBR.out).mono ?_; rintro e w2 ⟨rfl, hu⟩; rw [HP.out]; have HU := Lib.hid hu; clear hu)
        go_ret
        exact ⟨_, rfl, by simp, HUP.out.trans (HU.out.mono HUP.out.size)⟩
      | false =>
        have HP := Lib.hid hpy; clear hpy
        go_wp2_with (go_at_call 22; refine (HC.out y HM.out _ HBR.out).mono ?_; rintro e w2 ⟨rfl, hu⟩; rw [HP.out]; have HU := Lib.hid hu; clear hu)
        exact ⟨⟨k + 1, by omega, by go_num, by rw [HTK.out, List.any_append, HN.out]; simp [HP.out], HUP.out.trans (HU.out.mono HUP.out.size)⟩, by simp [intOf]; omega⟩
    · obtain rfl : k = l.length := by omega
      have hn := HN.out
      rw [List.take_length] at hn
      have hans : false = ans := by rw [← HA.out]; exact hn.symm
      subst hans
      go_wp2
      go_ret
      exact ⟨_, rfl, by simp, HUP.out⟩
set_option maxRecDepth 100000 in
set_option maxHeartbeats 1000000 in
theorem cf_1 (c0 : Value) (W : World) (l : List Int) (a : Option Addr) (cap : Nat) (hl : (l.length : Int) ≤ 9223372036854775807) (hi : IntsAt W a l) (p : Int → Bool)
    (hc : ∀ x ∈ l, ∀ w', Below W.heap.size W w' → Calls Try.prog 22 #[.int .i64 x, c0] w' fun e w'' => e = .returned (.bool (p x)) ∧ Below w'.heap.size w' w'') (w : World) (hB : Below W.heap.size W w) :
    Calls Try.prog 21 #[.slice a l.length cap, .func (.func 22) #[] #[c0]] w fun e w' => e = .returned (.bool (l.any p)) ∧ Below w.heap.size w w' := by
  have h := if_1 c0 W l a cap hl hi p hc w hB
  have H := Lib.hid h
  clear h hi hc hB
  generalize l.any p = ans at *
  go_enter Try.func21, Try.ntmps21
  go_wp2_with (go_at_call 54; refine H.out.mono ?_; rintro e w2 ⟨n, rfl, hn, hu⟩; have HU := Lib.hid hu; clear hu)
  go_ret
  exact ⟨by rw [← hn]; simp, HU.out⟩
set_option maxRecDepth 100000 in
set_option maxHeartbeats 1000000 in
theorem if_2 (c0 c1 : Value) (W : World) (l : List Int) (a : Option Addr) (cap : Nat) (hl : (l.length : Int) ≤ 9223372036854775807) (hi : IntsAt W a l) (p : Int → Bool)
    (hc : ∀ x ∈ l, ∀ w', Below W.heap.size W w' → Calls Try.prog 23 #[.int .i64 x, c0, c1] w' fun e w'' => e = .returned (.bool (p x)) ∧ Below w'.heap.size w' w'') (w : World) (hB : Below W.heap.size W w) :
    Calls Try.prog 54 #[.slice a l.length cap, .func (.func 23) #[] #[c0, c1]] w fun e w' => ∃ n : Int, e = .returned (.int .i64 n) ∧ decide (0 ≤ n) = l.any p ∧ Below w.heap.size w w' := by
  have HI := Lib.hid hi; have HC := Lib.hid hc; have HB := Lib.hid hB
  clear hi hc hB
  obtain ⟨ans, hans⟩ : ∃ b, l.any p = b := ⟨_, rfl⟩
  rw [hans]
  have HA := Lib.hid hans; clear hans
  go_enter Try.func54, Try.ntmps54
  go_wp2
  go_loopw [8] (fun i wr => ∃ k : Nat, k ≤ l.length ∧ i = .int .i64 k ∧ (l.take k).any p = false ∧ Below w.heap.size w wr) (fun i _ => l.length - (intOf i).toNat)
  case atStart => exact ⟨0, Nat.zero_le _, rfl, rfl, Below.refl _ _⟩
  case round =>
    obtain ⟨k, hk, rfl, hn, hup⟩ := hrel
    have HN := Lib.hid hn; have HUP := Lib.hid hup
    have hBr := HB.out.trans (hup.mono HB.out.size)
    have HBR := Lib.hid hBr
    clear hn hup
    by_cases hlt : k < l.length
    · obtain ⟨y, hy⟩ : ∃ y, l[k]? = some y := ⟨l[k], List.getElem?_eq_getElem hlt⟩
      obtain ⟨b, off, rfl, hb, hcc⟩ := HI.out.below hBr k y hy
      have hmem := List.mem_of_getElem? hy
      have htk := take_snocI l k y hy
      have HY := Lib.hid hy; have HTK := Lib.hid htk; have HM := Lib.hid hmem
      clear hy htk hmem hBr
      cases hpy : p y with
      | true =>
        have hans : true = ans := by rw [← HA.out]; symm; exact List.any_eq_true.2 ⟨y, HM.out, hpy⟩
        subst hans
        have HP := Lib.hid hpy; clear hpy
        go_wp2_with (go_at_call 23; refine (HC.out y HM.out _ HBR.out).mono ?_; rintro e w2 ⟨rfl, hu⟩; rw [HP.out]; have HU := Lib.hid hu; clear hu)
        go_ret
        exact ⟨_, rfl, by simp, HUP.out.trans (HU.out.mono HUP.out.size)⟩
      | false =>
        have HP := Lib.hid hpy; clear hpy
        go_wp2_with (go_at_call 23; refine (HC.out y HM.out _ HBR.out).mono ?_; rintro e w2 ⟨rfl, hu⟩; rw [HP.out]; have HU := Lib.hid hu; clear hu)
        exact ⟨⟨k + 1, by omega, by go_num, by rw [HTK.out, List.any_append, HN.out]; simp [HP.out], HUP.out.trans (HU.out.mono HUP.out.size)⟩, by simp [intOf]; omega⟩
    · obtain rfl : k = l.length := by omega
      have hn := HN.out
      rw [List.take_length] at hn
      have hans : false = ans := by rw [← HA.out]; exact hn.symm
      subst hans
      go_wp2
      go_ret
      exact ⟨_, rfl, by simp, HUP.out⟩
set_option maxRecDepth 100000 in
set_option maxHeartbeats 1000000 in
theorem cf_2 (c0 c1 : Value) (W : World) (l : List Int) (a : Option Addr) (cap : Nat) (hl : (l.length : Int) ≤ 9223372036854775807) (hi : IntsAt W a l) (p : Int → Bool)
    (hc : ∀ x ∈ l, ∀ w', Below W.heap.size W w' → Calls Try.prog 23 #[.int .i64 x, c0, c1] w' fun e w'' => e = .returned (.bool (p x)) ∧ Below w'.heap.size w' w'') (w : World) (hB : Below W.heap.size W w) :
    Calls Try.prog 21 #[.slice a l.length cap, .func (.func 23) #[] #[c0, c1]] w fun e w' => e = .returned (.bool (l.any p)) ∧ Below w.heap.size w w' := by
  have h := if_2 c0 c1 W l a cap hl hi p hc w hB
  have H := Lib.hid h
  clear h hi hc hB
  generalize l.any p = ans at *
  go_enter Try.func21, Try.ntmps21
  go_wp2_with (go_at_call 54; refine H.out.mono ?_; rintro e w2 ⟨n, rfl, hn, hu⟩; have HU := Lib.hid hu; clear hu)
  go_ret
  exact ⟨by rw [← hn]; simp, HU.out⟩
set_option maxRecDepth 100000 in
set_option maxHeartbeats 1000000 in
theorem if_3 (c0 c1 : Value) (W : World) (l : List Int) (a : Option Addr) (cap : Nat) (hl : (l.length : Int) ≤ 9223372036854775807) (hi : IntsAt W a l) (p : Int → Bool)
    (hc : ∀ x ∈ l, ∀ w', Below W.heap.size W w' → Calls Try.prog 25 #[.int .i64 x, c0, c1] w' fun e w'' => e = .returned (.bool (p x)) ∧ Below w'.heap.size w' w'') (w : World) (hB : Below W.heap.size W w) :
    Calls Try.prog 54 #[.slice a l.length cap, .func (.func 25) #[] #[c0, c1]] w fun e w' => ∃ n : Int, e = .returned (.int .i64 n) ∧ decide (0 ≤ n) = l.any p ∧ Below w.heap.size w w' := by
  have HI := Lib.hid hi; have HC := Lib.hid hc; have HB := Lib.hid hB
  clear hi hc hB
  obtain ⟨ans, hans⟩ : ∃ b, l.any p = b := ⟨_, rfl⟩
  rw [hans]
  have HA := Lib.hid hans; clear hans
  go_enter Try.func54, Try.ntmps54
  go_wp2
  go_loopw [8] (fun i wr => ∃ k : Nat, k ≤ l.length ∧ i = .int .i64 k ∧ (l.take k).any p = false ∧ Below w.heap.size w wr) (fun i _ => l.length - (intOf i).toNat)
  case atStart => exact ⟨0, Nat.zero_le _, rfl, rfl, Below.refl _ _⟩
  case round =>
    obtain ⟨k, hk, rfl, hn, hup⟩ := hrel
    have HN := Lib.hid hn; have HUP := Lib.hid hup
    have hBr := HB.out.trans (hup.mono HB.out.size)
    have HBR := Lib.hid hBr
    clear hn hup
    by_cases hlt : k < l.length
    · obtain ⟨y, hy⟩ : ∃ y, l[k]? = some y := ⟨l[k], List.getElem?_eq_getElem hlt⟩
      obtain ⟨b, off, rfl, hb, hcc⟩ := HI.out.below hBr k y hy
      have hmem := List.mem_of_getElem? hy
      have htk := take_snocI l k y hy
      have HY := Lib.hid hy; have HTK := Lib.hid htk; have HM := Lib.hid hmem
      clear hy htk hmem hBr
      cases hpy : p y with
      | true =>
        have hans : true = ans := by rw [← HA.out]; symm; exact List.any_eq_true.2 ⟨y, HM.out, hpy⟩
        subst hans
        have HP := Lib.hid hpy; clear hpy
        go_wp2_with (go_at_call 25; refine (HC.out y HM.out _ HBR.out).mono ?_; rintro e w2 ⟨rfl, hu⟩; rw [HP.out]; have HU := Lib.hid hu; clear hu)
        go_ret
        exact ⟨_, rfl, by simp, HUP.out.trans (HU.out.mono HUP.out.size)⟩
      | false =>
        have HP := Lib.hid hpy; clear hpy
        go_wp2_with (go_at_call 25; refine (HC.out y HM.out _ HBR.out).mono ?_; rintro e w2 ⟨rfl, hu⟩; rw [HP.out]; have HU := Lib.hid hu; clear hu)
        exact ⟨⟨k + 1, by omega, by go_num, by rw [HTK.out, List.any_append, HN.out]; simp [HP.out], HUP.out.trans (HU.out.mono HUP.out.size)⟩, by simp [intOf]; omega⟩
    · obtain rfl : k = l.length := by omega
      have hn := HN.out
      rw [List.take_length] at hn
      have hans : false = ans := by rw [← HA.out]; exact hn.symm
      subst hans
      go_wp2
      go_ret
      exact ⟨_, rfl, by simp, HUP.out⟩
set_option maxRecDepth 100000 in
set_option maxHeartbeats 1000000 in
theorem cf_3 (c0 c1 : Value) (W : World) (l : List Int) (a : Option Addr) (cap : Nat) (hl : (l.length : Int) ≤ 9223372036854775807) (hi : IntsAt W a l) (p : Int → Bool)
    (hc : ∀ x ∈ l, ∀ w', Below W.heap.size W w' → Calls Try.prog 25 #[.int .i64 x, c0, c1] w' fun e w'' => e = .returned (.bool (p x)) ∧ Below w'.heap.size w' w'') (w : World) (hB : Below W.heap.size W w) :
    Calls Try.prog 21 #[.slice a l.length cap, .func (.func 25) #[] #[c0, c1]] w fun e w' => e = .returned (.bool (l.any p)) ∧ Below w.heap.size w w' := by
  have h := if_3 c0 c1 W l a cap hl hi p hc w hB
  have H := Lib.hid h
  clear h hi hc hB
  generalize l.any p = ans at *
  go_enter Try.func21, Try.ntmps21
  go_wp2_with (go_at_call 54; refine H.out.mono ?_; rintro e w2 ⟨n, rfl, hn, hu⟩; have HU := Lib.hid hu; clear hu)
  go_ret
  exact ⟨by rw [← hn]; simp, HU.out⟩
set_option maxRecDepth 100000 in
set_option maxHeartbeats 1000000 in
theorem if_4 (c0 c1 : Value) (W : World) (l : List Int) (a : Option Addr) (cap : Nat) (hl : (l.length : Int) ≤ 9223372036854775807) (hi : IntsAt W a l) (p : Int → Bool)
    (hc : ∀ x ∈ l, ∀ w', Below W.heap.size W w' → Calls Try.prog 27 #[.int .i64 x, c0, c1] w' fun e w'' => e = .returned (.bool (p x)) ∧ Below w'.heap.size w' w'') (w : World) (hB : Below W.heap.size W w) :
    Calls Try.prog 54 #[.slice a l.length cap, .func (.func 27) #[] #[c0, c1]] w fun e w' => ∃ n : Int, e = .returned (.int .i64 n) ∧ decide (0 ≤ n) = l.any p ∧ Below w.heap.size w w' := by
  have HI := Lib.hid hi; have HC := Lib.hid hc; have HB := Lib.hid hB
  clear hi hc hB
  obtain ⟨ans, hans⟩ : ∃ b, l.any p = b := ⟨_, rfl⟩
  rw [hans]
  have HA := Lib.hid hans; clear hans
  go_enter Try.func54, Try.ntmps54
  go_wp2
  go_loopw [8] (fun i wr => ∃ k : Nat, k ≤ l.length ∧ i = .int .i64 k ∧ (l.take k).any p = false ∧ Below w.heap.size w wr) (fun i _ => l.length - (intOf i).toNat)
  case atStart => exact ⟨0, Nat.zero_le _, rfl, rfl, Below.refl _ _⟩
  case round =>
    obtain ⟨k, hk, rfl, hn, hup⟩ := hrel
    have HN := Lib.hid hn; have HUP := Lib.hid hup
    have hBr := HB.out.trans (hup.mono HB.out.size)
    have HBR := Lib.hid hBr
    clear hn hup
    by_cases hlt : k < l.length
    · obtain ⟨y, hy⟩ : ∃ y, l[k]? = some y := ⟨l[k], List.getElem?_eq_getElem hlt⟩
      obtain ⟨b, off, rfl, hb, hcc⟩ := HI.out.below hBr k y hy
      have hmem := List.mem_of_getElem? hy
      have htk := take_snocI l k y hy
      have HY := Lib.hid hy; have HTK := Lib.hid htk; have HM := Lib.hid hmem
      clear hy htk hmem hBr
      cases hpy : p y with
      | true =>
        have hans : true = ans := by rw [← HA.out]; symm; exact List.any_eq_true.2 ⟨y, HM.out, hpy⟩
        subst hans
        have HP := Lib.hid hpy; clear hpy
        go_wp2_with (go_at_call 27; refine (HC.out y HM.out _ HBR.out).mono ?_; rintro e w2 ⟨rfl, hu⟩; rw [HP.out]; have HU := Lib.hid hu; clear hu)
        go_ret
        exact ⟨_, rfl, by simp, HUP.out.trans (HU.out.mono HUP.out.size)⟩
      | false =>
        have HP := Lib.hid hpy; clear hpy
        go_wp2_with (go_at_call 27; refine (HC.out y HM.out _ HBR.out).mono ?_; rintro e w2 ⟨rfl, hu⟩; rw [HP.out]; have HU := Lib.hid hu; clear hu)
        exact ⟨⟨k + 1, by omega, by go_num, by rw [HTK.out, List.any_append, HN.out]; simp [HP.out], HUP.out.trans (HU.out.mono HUP.out.size)⟩, by simp [intOf]; omega⟩
    · obtain rfl : k = l.length := by omega
      have hn := HN.out
      rw [List.take_length] at hn
      have hans : false = ans := by rw [← HA.out]; exact hn.symm
      subst hans
      go_wp2
      go_ret
      exact ⟨_, rfl, by simp, HUP.out⟩
set_option maxRecDepth 100000 in
set_option maxHeartbeats 1000000 in
theorem cf_4 (c0 c1 : Value) (W : World) (l : List Int) (a : Option Addr) (cap : Nat) (hl : (l.length : Int) ≤ 9223372036854775807) (hi : IntsAt W a l) (p : Int → Bool)
    (hc : ∀ x ∈ l, ∀ w', Below W.heap.size W w' → Calls Try.prog 27 #[.int .i64 x, c0, c1] w' fun e w'' => e = .returned (.bool (p x)) ∧ Below w'.heap.size w' w'') (w : World) (hB : Below W.heap.size W w) :
    Calls Try.prog 21 #[.slice a l.length cap, .func (.func 27) #[] #[c0, c1]] w fun e w' => e = .returned (.bool (l.any p)) ∧ Below w.heap.size w w' := by
  have h := if_4 c0 c1 W l a cap hl hi p hc w hB
  have H := Lib.hid h
  clear h hi hc hB
  generalize l.any p = ans at *
  go_enter Try.func21, Try.ntmps21
  go_wp2_with (go_at_call 54; refine H.out.mono ?_; rintro e w2 ⟨n, rfl, hn, hu⟩; have HU := Lib.hid hu; clear hu)
  go_ret
  exact ⟨by rw [← hn]; simp, HU.out⟩
set_option maxRecDepth 100000 in
set_option maxHeartbeats 1000000 in
theorem if_5 (c0 c1 : Value) (W : World) (l : List Int) (a : Option Addr) (cap : Nat) (hl : (l.length : Int) ≤ 9223372036854775807) (hi : IntsAt W a l) (p : Int → Bool)
    (hc : ∀ x ∈ l, ∀ w', Below W.heap.size W w' → Calls Try.prog 28 #[.int .i64 x, c0, c1] w' fun e w'' => e = .returned (.bool (p x)) ∧ Below w'.heap.size w' w'') (w : World) (hB : Below W.heap.size W w) :
    Calls Try.prog 54 #[.slice a l.length cap, .func (.func 28) #[] #[c0, c1]] w fun e w' => ∃ n : Int, e = .returned (.int .i64 n) ∧ decide (0 ≤ n) = l.any p ∧ Below w.heap.size w w' := by
  have HI := Lib.hid hi; have HC := Lib.hid hc; have HB := Lib.hid hB
  clear hi hc hB
  obtain ⟨ans, hans⟩ : ∃ b, l.any p = b := ⟨_, rfl⟩
  rw [hans]
  have HA := Lib.hid hans; clear hans
  go_enter Try.func54, Try.ntmps54
  go_wp2
  go_loopw [8] (fun i wr => ∃ k : Nat, k ≤ l.length ∧ i = .int .i64 k ∧ (l.take k).any p = false ∧ Below w.heap.size w wr) (fun i _ => l.length - (intOf i).toNat)
  case atStart => exact ⟨0, Nat.zero_le _, rfl, rfl, Below.refl _ _⟩
  case round =>
    obtain ⟨k, hk, rfl, hn, hup⟩ := hrel
    have HN := Lib.hid hn; have HUP := Lib.hid hup
    have hBr := HB.out.trans (hup.mono HB.out.size)
    have HBR := Lib.hid hBr
    clear hn hup
    by_cases hlt : k < l.length
    · obtain ⟨y, hy⟩ : ∃ y, l[k]? = some y := ⟨l[k], List.getElem?_eq_getElem hlt⟩
      obtain ⟨b, off, rfl, hb, hcc⟩ := HI.out.below hBr k y hy
      have hmem := List.mem_of_getElem? hy
      have htk := take_snocI l k y hy
      have HY := Lib.hid hy; have HTK := Lib.hid htk; have HM := Lib.hid hmem
      clear hy htk hmem hBr
      cases hpy : p y with
      | true =>
        have hans : true = ans := by rw [← HA.out]; symm; exact List.any_eq_true.2 ⟨y, HM.out, hpy⟩
        subst hans
        have HP := Lib.hid hpy; clear hpy
        go_wp2_with (go_at_call 28; refine (HC.out y HM.out _ HBR.out).mono ?_; rintro e w2 ⟨rfl, hu⟩; rw [HP.out]; have HU := Lib.hid hu; clear hu)
        go_ret
        exact ⟨_, rfl, by simp, HUP.out.trans (HU.out.mono HUP.out.size)⟩
      | false =>
        have HP := Lib.hid hpy; clear hpy
        go_wp2_with (go_at_call 28; refine (HC.out y HM.out _ HBR.out).mono ?_; rintro e w2 ⟨rfl, hu⟩; rw [HP.out]; have HU := Lib.hid hu; clear hu)
        exact ⟨⟨k + 1, by omega, by go_num, by rw [HTK.out, List.any_append, HN.out]; simp [HP.out], HUP.out.trans (HU.out.mono HUP.out.size)⟩, by simp [intOf]; omega⟩
    · obtain rfl : k = l.length := by omega
      have hn := HN.out
      rw [List.take_length] at hn
      have hans : false = ans := by rw [← HA.out]; exact hn.symm
      subst hans
      go_wp2
      go_ret
      exact ⟨_, rfl, by simp, HUP.out⟩
set_option maxRecDepth 100000 in
set_option maxHeartbeats 1000000 in
theorem cf_5 (c0 c1 : Value) (W : World) (l : List Int) (a : Option Addr) (cap : Nat) (hl : (l.length : Int) ≤ 9223372036854775807) (hi : IntsAt W a l) (p : Int → Bool)
    (hc : ∀ x ∈ l, ∀ w', Below W.heap.size W w' → Calls Try.prog 28 #[.int .i64 x, c0, c1] w' fun e w'' => e = .returned (.bool (p x)) ∧ Below w'.heap.size w' w'') (w : World) (hB : Below W.heap.size W w) :
    Calls Try.prog 21 #[.slice a l.length cap, .func (.func 28) #[] #[c0, c1]] w fun e w' => e = .returned (.bool (l.any p)) ∧ Below w.heap.size w w' := by
  have h := if_5 c0 c1 W l a cap hl hi p hc w hB
  have H := Lib.hid h
  clear h hi hc hB
  generalize l.any p = ans at *
  go_enter Try.func21, Try.ntmps21
  go_wp2_with (go_at_call 54; refine H.out.mono ?_; rintro e w2 ⟨n, rfl, hn, hu⟩; have HU := Lib.hid hu; clear hu)
  go_ret
  exact ⟨by rw [← hn]; simp, HU.out⟩
end Go.Proofs.Ytiohbfcjfdabmaa
namespace Go.Proofs.Ytiohbfcjfdabmaa
open Go.ChangeShapes Go.WideShapes Go.ChangeAt Go.RowKit Go.Ln Go.Fs
set_option maxRecDepth 100000 in
set_option maxHeartbeats 1000000 in
theorem c1_any (G : Nat) (g : Gr) (sa : Option Addr) (cap : Nat) (hlen : g.length ≤ 16) (c : Int) (h0 : 0 ≤ c) (h1 : c < 3 + (g.length : Int)) (w : World) (hG : w.cell? ⟨G, 0, none⟩ = some (.slice sa g.length cap)) :
    Calls Try.prog 22 #[.int .i64 c, .pointer (some ⟨G, 0, none⟩)] w fun e w' => e = .returned (.bool false) ∧ Below w.heap.size w w' := by
  have hw3 : IntKind.i64.wrap (3 + (g.length : Int)) = 3 + (g.length : Int) := by rw [IntKind.wrap_i64]; omega
  have hd1 : decide (c < 0) = false := decide_eq_false (by omega)
  have hd2 : decide (3 + (g.length : Int) ≤ c) = false := decide_eq_false (by omega)
  go_enter Try.func22, Try.ntmps22
  go_wp2
  go_ret
  exact ⟨rfl, Below.refl _ _⟩
theorem labove2_any (W0 : World) (g : Gr) (sa : Option Addr) (cap : Nat) (hg : goodB g = true) (hi : GrAt W0 sa g) (c b : Nat) (hc : c < 3 + g.length) (hb : b < 3 + g.length) (w : World) (hB : Below W0.heap.size W0 w) :
    Calls Try.prog 24 #[.slice sa g.length cap, .int .i64 c] w fun e w' => ∃ z, e = .returned (.slice (some ⟨z, 0, none⟩) (3 + g.length) (3 + g.length)) ∧ Below w.heap.size w w' ∧ w'.cell? ⟨z, b, none⟩ = some (.bool (belowR g c b)) :=
  (labove_any W0 g sa cap hg hi c hc w hB).mono fun e w' ⟨h1, h2, _, h3⟩ => ⟨_, h1, h2, h3 b hb⟩
set_option maxRecDepth 100000 in
set_option maxHeartbeats 2000000 in
theorem c3_any (W0 : World) (g : Gr) (sa : Option Addr) (cap : Nat) (hg : goodB g = true) (hi : GrAt W0 sa g) (G B : Nat) (c b : Nat) (hc : c < 3 + g.length) (hb : b < 3 + g.length) (w : World) (hB : Below W0.heap.size W0 w) (hG : w.cell? ⟨G, 0, none⟩ = some (.slice sa g.length cap)) (hBx : w.cell? ⟨B, 0, none⟩ = some (.int .i64 b)) :
    Calls Try.prog 25 #[.int .i64 c, .pointer (some ⟨G, 0, none⟩), .pointer (some ⟨B, 0, none⟩)] w fun e w' => e = .returned (.bool (!belowR g b c)) ∧ Below w.heap.size w w' := by
  have hcI : (c : Int) < 3 + (g.length : Int) := by omega
  have hcJ : (c : Int) < ((3 + g.length : Nat) : Int) := by omega
  have hlen := good_len hg
  have HC := Lib.hid (labove2_any W0 g sa cap hg hi b c hb hc w hB)
  clear hi hB
  generalize belowR g b c = ans at *
  go_enter Try.func25, Try.ntmps25
  go_wp2_with (go_at_call 24; refine HC.out.mono ?_; rintro e w2 ⟨z, rfl, hu, hcell⟩; have HU := Lib.hid hu; clear hu)
  go_ret
  exact ⟨rfl, HU.out⟩
set_option maxRecDepth 100000 in
set_option maxHeartbeats 2000000 in
theorem c2_any (W0 : World) (g : Gr) (sa : Option Addr) (cap : Nat) (hg : goodB g = true) (hi : GrAt W0 sa g) (G B : Nat) (c b : Nat) (hc : c < 3 + g.length) (hb : b < 3 + g.length) (w : World) (hB : Below W0.heap.size W0 w) (hG : w.cell? ⟨G, 0, none⟩ = some (.slice sa g.length cap)) (hBx : w.cell? ⟨B, 0, none⟩ = some (.int .i64 b)) :
    Calls Try.prog 23 #[.int .i64 c, .pointer (some ⟨G, 0, none⟩), .pointer (some ⟨B, 0, none⟩)] w fun e w' => e = .returned (.bool (!belowR g c b)) ∧ Below w.heap.size w w' := by
  have hbI : (b : Int) < 3 + (g.length : Int) := by omega
  have hbJ : (b : Int) < ((3 + g.length : Nat) : Int) := by omega
  have hlen := good_len hg
  have HC := Lib.hid (fun w' (h : Below W0.heap.size W0 w') => labove2_any W0 g sa cap hg hi c b hc hb w' h)
  have HBW := Lib.hid hB
  have hGl := cell_lt hG
  have hBl := cell_lt hBx
  have KS : RowKit.Hid (∀ w', Below w.heap.size w w' → (w'.cell? ⟨G, 0, none⟩ = some (.slice sa g.length cap) ∧ w'.cell? ⟨B, 0, none⟩ = some (.int .i64 b))) := Lib.hid (fun w' hq => ⟨(hq.cell (p := ⟨G, 0, none⟩) hGl).trans hG, (hq.cell (p := ⟨B, 0, none⟩) hBl).trans hBx⟩)
  clear hi hB
  generalize belowR g c b = ans at *
  have HB := Lib.hid (Below.refl w.heap.size w)
  go_enter Try.func23, Try.ntmps23
  go_wp2_with fail
  go_region_with (go_at_call 24; refine (HC.out _ (by first | exact HBW.out | exact HBW.out.drew)).mono ?_; rintro e w2 ⟨z, rfl, hu, hcell⟩; have hb2 := (hu.cell (p := ⟨B, 0, none⟩) hBl).trans hBx; have HB := Lib.hid (show Below w.heap.size w w2 from by first | exact HB.out.trans (hu.mono HB.out.size) | exact ⟨hu.os, hu.tape, hu.output, hu.size, hu.block⟩); clear hu)
  all_goals go_wp2_with fail
  all_goals go_ret
  all_goals exact ⟨rfl, HB.out⟩
set_option maxRecDepth 100000 in
set_option maxHeartbeats 2000000 in
theorem c4_any (W0 : World) (g : Gr) (sa : Option Addr) (cap : Nat) (hg : goodB g = true) (hi : GrAt W0 sa g) (G B : Nat) (c b : Nat) (hc : c < 3 + g.length) (hb : b < 3 + g.length) (w : World) (hB : Below W0.heap.size W0 w) (hG : w.cell? ⟨G, 0, none⟩ = some (.slice sa g.length cap)) (hBx : w.cell? ⟨B, 0, none⟩ = some (.int .i64 b)) :
    Calls Try.prog 27 #[.int .i64 c, .pointer (some ⟨G, 0, none⟩), .pointer (some ⟨B, 0, none⟩)] w fun e w' => e = .returned (.bool (belowR g c b)) ∧ Below w.heap.size w w' := by
  have hbI : (b : Int) < 3 + (g.length : Int) := by omega
  have hbJ : (b : Int) < ((3 + g.length : Nat) : Int) := by omega
  have hlen := good_len hg
  have HC := Lib.hid (fun w' (h : Below W0.heap.size W0 w') => labove2_any W0 g sa cap hg hi c b hc hb w' h)
  have HBW := Lib.hid hB
  have hGl := cell_lt hG
  have hBl := cell_lt hBx
  have KS : RowKit.Hid (∀ w', Below w.heap.size w w' → (w'.cell? ⟨G, 0, none⟩ = some (.slice sa g.length cap) ∧ w'.cell? ⟨B, 0, none⟩ = some (.int .i64 b))) := Lib.hid (fun w' hq => ⟨(hq.cell (p := ⟨G, 0, none⟩) hGl).trans hG, (hq.cell (p := ⟨B, 0, none⟩) hBl).trans hBx⟩)
  clear hi hB
  generalize belowR g c b = ans at *
  have HB := Lib.hid (Below.refl w.heap.size w)
  go_enter Try.func27, Try.ntmps27
  go_wp2_with fail
  go_region_with (go_at_call 24; refine (HC.out _ (by first | exact HBW.out | exact HBW.out.drew)).mono ?_; rintro e w2 ⟨z, rfl, hu, hcell⟩; have hb2 := (hu.cell (p := ⟨B, 0, none⟩) hBl).trans hBx; have HB := Lib.hid (show Below w.heap.size w w2 from by first | exact HB.out.trans (hu.mono HB.out.size) | exact ⟨hu.os, hu.tape, hu.output, hu.size, hu.block⟩); clear hu)
  all_goals go_wp2_with fail
  all_goals go_ret
  all_goals exact ⟨rfl, HB.out⟩
set_option maxRecDepth 100000 in
set_option maxHeartbeats 2000000 in
theorem c5_any (W0 : World) (g : Gr) (sa : Option Addr) (cap : Nat) (hg : goodB g = true) (hi : GrAt W0 sa g) (G B : Nat) (c b : Nat) (hc : c < 3 + g.length) (hb : b < 3 + g.length) (w : World) (hB : Below W0.heap.size W0 w) (hG : w.cell? ⟨G, 0, none⟩ = some (.slice sa g.length cap)) (hBx : w.cell? ⟨B, 0, none⟩ = some (.int .i64 b)) :
    Calls Try.prog 28 #[.int .i64 c, .pointer (some ⟨B, 0, none⟩), .pointer (some ⟨G, 0, none⟩)] w fun e w' => e = .returned (.bool (decide (c ≠ b) && belowR g c b)) ∧ Below w.heap.size w w' := by
  have hbI : (b : Int) < 3 + (g.length : Int) := by omega
  have hbJ : (b : Int) < ((3 + g.length : Nat) : Int) := by omega
  have hlen := good_len hg
  have HC := Lib.hid (fun w' (h : Below W0.heap.size W0 w') => labove2_any W0 g sa cap hg hi c b hc hb w' h)
  have HBW := Lib.hid hB
  have hGl := cell_lt hG
  have hBl := cell_lt hBx
  have KS : RowKit.Hid (∀ w', Below w.heap.size w w' → (w'.cell? ⟨G, 0, none⟩ = some (.slice sa g.length cap) ∧ w'.cell? ⟨B, 0, none⟩ = some (.int .i64 b))) := Lib.hid (fun w' hq => ⟨(hq.cell (p := ⟨G, 0, none⟩) hGl).trans hG, (hq.cell (p := ⟨B, 0, none⟩) hBl).trans hBx⟩)
  clear hi hB
  generalize belowR g c b = ans at *
  have HB := Lib.hid (Below.refl w.heap.size w)
  by_cases hcb : c = b
  · subst hcb
    have hq : ((c : Int) != (c : Int)) = false := by simp
    have hq2 : ((c : Int) == (c : Int)) = true := by simp
    have hr : (decide (c ≠ c) && ans) = false := by simp
    rw [hr]
    go_enter Try.func28, Try.ntmps28
    go_wp2_with fail
    go_quiet (fail)
    all_goals go_wp2_with fail
    all_goals go_ret
    all_goals exact ⟨rfl, by first | exact below_drewN _ _ | exact Below.refl _ _⟩
  · have hq : ((c : Int) != (b : Int)) = true := by simp; omega
    have hq2 : ((c : Int) == (b : Int)) = false := by simp; omega
    have hr : (decide (c ≠ b) && ans) = ans := by simp [hcb]
    rw [hr]
    go_enter Try.func28, Try.ntmps28
    go_wp2_with fail
    go_region_with (go_at_call 24; refine (HC.out _ (by first | exact HBW.out | exact HBW.out.drew)).mono ?_; rintro e w2 ⟨z, rfl, hu, hcell⟩; have hb2 := (hu.cell (p := ⟨B, 0, none⟩) hBl).trans hBx; have HB := Lib.hid (show Below w.heap.size w w2 from by first | exact HB.out.trans (hu.mono HB.out.size) | exact ⟨hu.os, hu.tape, hu.output, hu.size, hu.block⟩); clear hu)
    all_goals go_wp2_with fail
    all_goals go_ret
    all_goals exact ⟨rfl, HB.out⟩
end Go.Proofs.Ytiohbfcjfdabmaa
namespace Go.Proofs.Ytiohbfcjfdabmaa
open Go.ChangeShapes Go.WideShapes Go.ChangeAt Go.RowKit Go.Ln Go.Fs
set_option maxRecDepth 100000 in
theorem isnan_any (x : Int) (w : World) : Calls Try.prog 75 #[.int .i64 x] w fun e w' => e = .returned (.bool false) ∧ w = w' := by
  go_enter Try.func75, Try.ntmps75
  go_wp2
  go_ret
  exact ⟨by simp, rfl⟩
set_option maxRecDepth 100000 in
theorem less_any (x y : Int) (w : World) : Calls Try.prog 53 #[.int .i64 x, .int .i64 y] w fun e w' => e = .returned (.bool (decide (x < y))) ∧ w = w' := by
  go_enter Try.func53, Try.ntmps53
  go_wp2_with (go_at_call 75; refine (isnan_any _ _).mono ?_; rintro e w2 ⟨rfl, rfl⟩)
  go_ret
  exact ⟨rfl, rfl⟩
def UpL (l : List Int) : Prop := ∀ k x y, l[k]? = some x → l[k + 1]? = some y → x ≤ y
set_option maxRecDepth 100000 in
set_option maxHeartbeats 2000000 in
theorem sorted_any (l : List Int) (a : Option Addr) (cap : Nat) (hu : UpL l) (w : World) (hl : (l.length : Int) ≤ 1000) (hi : IntsAt w a l) :
    Calls Try.prog 20 #[.slice a l.length cap] w fun e w' => e = .returned (.bool true) ∧ Below w.heap.size w w' := by
  have HI := Lib.hid hi; have HU := Lib.hid hu
  clear hi hu
  have hw0 : IntKind.i64.wrap ((l.length : Int) - 1) = (l.length : Int) - 1 := by rw [IntKind.wrap_i64]; omega
  go_enter Try.func20, Try.ntmps20
  go_wp2
  go_loopw [3] (fun i wr => ∃ k : Nat, k ≤ l.length ∧ i = .int .i64 ((k : Int) - 1) ∧ Below w.heap.size w wr) (fun i _ => (intOf i).toNat)
  case atStart => exact ⟨l.length, Nat.le_refl _, rfl, Below.refl _ _⟩
  case round =>
    obtain ⟨k, hk, hi3, hup⟩ := hrel
    have HUP := Lib.hid hup
    by_cases hgt : 0 < (k : Int) - 1
    · obtain ⟨j, rfl⟩ : ∃ j, k = j + 2 := ⟨k - 2, by omega⟩
      rw [show (((j + 2 : Nat) : Int) - 1) = (j : Int) + 1 by omega] at hi3 hgt
      subst hi3
      obtain ⟨x, hx⟩ : ∃ y, l[j + 1]? = some y := ⟨l[j + 1], List.getElem?_eq_getElem (by omega)⟩
      obtain ⟨y, hy⟩ : ∃ y, l[j]? = some y := ⟨l[j], List.getElem?_eq_getElem (by omega)⟩
      have hI := HI.out.below hup
      obtain ⟨b, off, rfl, hb, hxc⟩ := hI (j + 1) x hx
      obtain ⟨b2, off2, e2, hb2, hyc⟩ := hI j y hy
      injection e2 with e2
      injection e2 with e3 e4
      subst e3; subst e4
      have hxy : ¬ x < y := by have := HU.out j y x hy hx; omega
      have hw1 : IntKind.i64.wrap ((j : Int) + 1 - 1) = j := by rw [IntKind.wrap_i64]; omega
      have hw2 : IntKind.i64.wrap (j : Int) = j := by rw [IntKind.wrap_i64]; omega
      have hjI : (j : Int) + 1 < (l.length : Int) := by omega
      have hjJ : (j : Int) < (l.length : Int) := by omega
      have HC := Lib.hid (show ∀ w' : World, Calls Try.prog 53 #[.int .i64 x, .int .i64 y] w' fun e w'' => e = .returned (.bool false) ∧ w'' = w' from fun w' => by have := less_any x y w'; rw [decide_eq_false hxy] at this; exact this.mono fun e w'' ⟨h1, h2⟩ => ⟨h1, h2.symm⟩)
      clear hI hx hy hup
      go_wp2
      go_quiet (first | (go_at_call 53; exact Calls.quiet_of_same (HC.out _)))
      go_wp2
      exact ⟨⟨j + 1, by omega, by rw [show (((j + 1 : Nat) : Int) - 1) = (j : Int) by omega], HUP.out.trans ((below_drewN _ _).mono HUP.out.size)⟩, by simp [intOf]⟩
    · subst hi3
      go_wp2
      go_ret
      exact ⟨rfl, HUP.out⟩
end Go.Proofs.Ytiohbfcjfdabmaa
