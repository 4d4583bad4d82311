/-
  The specification: which graphs are formed, which classes are below which. No condition.
-/
import Derived.Test.YtaofmejfdmbfoaaLnS
import Derived.Deep.RegionHeld3
import Derived.Deep.RegionWith
import Derived.BigQuiet
import Derived.SliceStrings
import Derived.Test.YtaofmejfdmbfoaaLhG
namespace Go.Proofs.Ytaofmejfdmbfoaa
open Go.ChangeShapes Go.WideShapes Go.ChangeAt Go.RowKit Go.Ln
set_option maxRecDepth 100000 in
set_option maxHeartbeats 1000000 in
theorem rhas_any (l : List Int) (a : Option Addr) (cap : Nat) (x : Int) (w : World) (hl : (l.length : Int) ≤ 9223372036854775807) (hi : IntsAt w a l) :
    Calls Try.prog 45 #[.slice a l.length cap, .int .i64 x] w fun e w' => e = .returned (.bool (decide (x ∈ l))) ∧ w = w' := by
  have HI := Lib.hid hi; clear hi
  obtain ⟨ans, hans⟩ : ∃ b, decide (x ∈ l) = b := ⟨_, rfl⟩
  rw [hans]
  have HA := Lib.hid hans; clear hans
  go_enter Try.func45, Try.ntmps45
  go_wp2
  go_loop [5] (fun i => ∃ k : Nat, k ≤ l.length ∧ i = .int .i64 k ∧ x ∉ l.take k) (fun i => l.length - (intOf i).toNat)
  case atStart => exact ⟨0, Nat.zero_le _, rfl, by simp⟩
  case round =>
    obtain ⟨k, hk, rfl, hn⟩ := hrel
    have HN := Lib.hid hn; clear hn
    by_cases hlt : k < l.length
    · obtain ⟨y, hy⟩ : ∃ y, l[k]? = some y := ⟨l[k], List.getElem?_eq_getElem hlt⟩
      obtain ⟨b, off, rfl, hb, hc⟩ := HI.out k y hy
      have HY := Lib.hid hy; clear hy
      by_cases he : y = x
      · have hans : true = ans := by rw [← HA.out]; symm; exact decide_eq_true (he ▸ List.mem_of_getElem? HY.out)
        subst hans
        go_wp2
        go_ret
        exact ⟨rfl, rfl⟩
      · go_wp2
        go_round
        case rel =>
          refine ⟨k + 1, by omega, by go_num, ?_⟩
          rw [take_snocI l k y HY.out]
          intro hm
          rcases List.mem_append.1 hm with h | h
          · exact HN.out h
          · exact he (List.mem_singleton.1 h).symm
        case measure => simp [intOf]; omega
    · obtain rfl : k = l.length := by omega
      have hn := HN.out
      rw [List.take_length] at hn
      have hans : false = ans := by rw [← HA.out]; symm; exact decide_eq_false hn
      subst hans
      go_wp2
      go_ret
      exact ⟨rfl, rfl⟩
def classB (g : Gr) (c : Int) : Bool := decide (0 ≤ c) && decide (c < 3 + (g.length : Int))
set_option maxRecDepth 100000 in
theorem class_any (g : Gr) (a : Option Addr) (cap : Nat) (c : Int) (w : World) (hl : (g.length : Int) ≤ 1000) :
    Calls Try.prog 32 #[.slice a g.length cap, .int .i64 c] w fun e w' => e = .returned (.bool (classB g c)) ∧ w = w' := by
  unfold classB
  by_cases h0 : 0 ≤ c
  · rw [decide_eq_true h0]
    by_cases h1 : c < 3 + (g.length : Int)
    · rw [decide_eq_true h1]
      go_enter Try.func32, Try.ntmps32
      go_wp2
      go_ret
      exact ⟨rfl, rfl⟩
    · rw [decide_eq_false h1]
      go_enter Try.func32, Try.ntmps32
      go_wp2
      go_ret
      exact ⟨rfl, rfl⟩
  · rw [decide_eq_false h0]
    go_enter Try.func32, Try.ntmps32
    go_wp2
    go_ret
    exact ⟨rfl, rfl⟩
end Go.Proofs.Ytaofmejfdmbfoaa
namespace Go.Proofs.Ytaofmejfdmbfoaa
open Go.ChangeShapes Go.WideShapes Go.ChangeAt Go.RowKit Go.Ln
theorem below_drewN (w : World) (n : Nat) : Below w.heap.size w (w.drewN n) := ⟨rfl, rfl, rfl, Nat.le_refl _, fun _ _ => rfl⟩
theorem ints_take {W : World} {a : Option Addr} {l : List Int} (h : IntsAt W a l) (k : Nat) : IntsAt W a (l.take k) := fun i x hx => by
  rw [List.getElem?_take] at hx
  split at hx
  · exact h i x hx
  · cases hx
set_option maxRecDepth 100000 in
set_option maxHeartbeats 2000000 in
theorem rgood_any (W0 : World) (g : Gr) (a : Option Addr) (cap : Nat) (hl : (g.length : Int) ≤ 9223372036854775807) (hi : GrAt W0 a g) (w : World) (hB : Below W0.heap.size W0 w) :
    Calls Try.prog 31 #[.slice a g.length cap] w fun e w' => e = .returned (.bool (goodB g)) ∧ Below w.heap.size w w' := by
  have HI := Lib.hid hi; clear hi
  have HB := Lib.hid hB; clear hB
  unfold goodB
  by_cases h3 : 16 < (g.length : Int)
  · have e : (decide (g.length ≤ 16) && goodFrom 0 g) = false := by rw [decide_eq_false (by omega)]; rfl
    rw [e]; clear e
    go_enter Try.func31, Try.ntmps31
    go_wp2
    go_ret
    exact ⟨rfl, Below.refl _ _⟩
  · have e : (decide (g.length ≤ 16) && goodFrom 0 g) = goodFrom 0 g := by rw [decide_eq_true (by omega)]; rfl
    rw [e]; clear e
    obtain ⟨ans, hans⟩ : ∃ b, goodFrom 0 g = b := ⟨_, rfl⟩
    rw [hans]
    have HA := Lib.hid hans; clear hans
    go_enter Try.func31, Try.ntmps31
    go_wp2
    go_loopw [3] (fun i wr => ∃ k : Nat, k ≤ g.length ∧ i = .int .i64 k ∧ goodFrom 0 (g.take k) = true ∧ Below w.heap.size w wr) (fun i _ => g.length - (intOf i).toNat)
    case atStart => exact ⟨0, Nat.zero_le _, rfl, rfl, Below.refl _ _⟩
    case round =>
      obtain ⟨k, hk, rfl, hok, hup⟩ := hrel
      have HUP := Lib.hid hup; have HOK := Lib.hid hok
      clear hup hok
      by_cases hlt : k < g.length
      · obtain ⟨l, hx⟩ : ∃ l, g[k]? = some l := ⟨g[k], List.getElem?_eq_getElem hlt⟩
        have hBr := HB.out.trans (HUP.out.mono HB.out.size)
        obtain ⟨b, off, al, cl, rfl, hb, hxc, hil, hml⟩ := HI.out.below hBr k l hx
        have hc3 : (3 : Int) + ((0 : Nat) : Int) + (k : Int) = 3 + (k : Int) := by omega
        have hst := goodFrom_stop g 0 k l hx
        have htk := goodFrom_take g 0 k l hx
        rw [hc3, canB_okP] at hst htk
        have HST := Lib.hid hst; have HTK := Lib.hid htk; have HIL := Lib.hid hil
        have hlm : (l.length : Int) ≤ 9223372036854775807 := by unfold maxLen at hml; omega
        have hcap : l.length ≤ cl := hml.1
        have hcap2 : (cl : Int) ≤ 9223372036854775807 := by unfold maxLen at hml; omega
        clear hst htk hil hml hx
        by_cases h4 : 3 < (l.length : Int)
        · obtain rfl : false = ans := by rw [← HA.out]; exact (HST.out (by rw [decide_eq_false (by omega)]; rfl)).symm
          go_wp2
          go_ret
          exact ⟨rfl, HUP.out⟩
        · have e4 : decide (l.length ≤ 3) = true := decide_eq_true (by omega)
          have HTK2 := Lib.hid (show goodFrom 0 (g.take (k + 1)) = (goodFrom 0 (g.take k) && okP (3 + (k : Int)) l) by rw [HTK.out, e4]; rfl)
          have HST2 := Lib.hid (show okP (3 + (k : Int)) l = false → goodFrom 0 g = false from fun h => HST.out (by rw [h, Bool.and_false]))
          clear HTK HST
          go_wp2
          go_loopw [4] (fun j wr2 => ∃ m : Nat, m ≤ l.length ∧ j = .int .i64 m ∧ okP (3 + (k : Int)) (l.take m) = true ∧ Below wr.heap.size wr wr2) (fun j _ => l.length - (intOf j).toNat)
          case atStart => exact ⟨0, Nat.zero_le _, rfl, by simp [okP], Below.refl _ _⟩
          case round =>
            obtain ⟨m, hm, rfl, hom, hup2⟩ := hrel
            have HUP2 := Lib.hid hup2; have HOM := Lib.hid hom
            clear hom
            have hxc2 := (hup2.cell (p := ⟨b, off + k, none⟩) hb).trans hxc
            have hil2 := HIL.out.below hup2
            clear hup2 hxc
            have HIL2 := Lib.hid hil2
            by_cases hlt2 : m < l.length
            · obtain ⟨y, hy⟩ : ∃ y, l[m]? = some y := ⟨l[m], List.getElem?_eq_getElem hlt2⟩
              obtain ⟨bl, ol, rfl, hbl, hyc⟩ := hil2 m y hy
              have hmc : m ≤ cl := by omega
              have hmc2 : (m : Int) ≤ (cl : Int) := by omega
              have hlen : (l.take m).length = m := by rw [List.length_take]; omega
              have hcall : ∀ w', Below wr.heap.size wr w' → Calls Try.prog 45 #[.slice (some ⟨bl, ol, none⟩) m cl, .int .i64 y] w' fun e w'' => e = .returned (.bool (decide (y ∈ l.take m))) ∧ w'' = w' := fun w' hb' => by
                have := rhas_any (l.take m) (some ⟨bl, ol, none⟩) cl y w' (by rw [hlen]; omega) (ints_take (HIL2.out.below hb') m)
                rw [hlen] at this
                exact this.mono fun e w'' ⟨h1, h2⟩ => ⟨h1, h2.symm⟩
              have hst := okP_stop (3 + (k : Int)) l m y hy
              have hnx := okP_next (3 + (k : Int)) l m y hy HOM.out
              have HC := Lib.hid hcall; have HST := Lib.hid hst; have HNX := Lib.hid hnx
              clear hcall hst hnx hil2 hy
              by_cases q1 : y < 3
              · obtain rfl : false = ans := by rw [← HA.out]; exact (HST2.out (HST.out (.inl q1))).symm
                go_wp2
                go_quiet (first | (go_at_call 45; exact Calls.quiet_of_same (HC.out _ (below_drewN _ _))))
                go_wp2
                go_ret
                exact ⟨rfl, (HUP.out.trans (HUP2.out.mono HUP.out.size)).trans ((below_drewN _ _).mono (HUP.out.trans (HUP2.out.mono HUP.out.size)).size)⟩
              · have hd1 : decide (y < 3) = false := decide_eq_false q1
                have hw : IntKind.i64.wrap (3 + (k : Int)) = 3 + (k : Int) := by rw [IntKind.wrap_i64]; omega
                by_cases q2 : 3 + (k : Int) ≤ y
                · obtain rfl : false = ans := by rw [← HA.out]; exact (HST2.out (HST.out (.inr (.inl q2)))).symm
                  go_wp2
                  go_quiet (first | (go_at_call 45; exact Calls.quiet_of_same (HC.out _ (below_drewN _ _))))
                  go_wp2
                  go_ret
                  exact ⟨rfl, (HUP.out.trans (HUP2.out.mono HUP.out.size)).trans ((below_drewN _ _).mono (HUP.out.trans (HUP2.out.mono HUP.out.size)).size)⟩
                · have hd2 : decide (3 + (k : Int) ≤ y) = false := decide_eq_false q2
                  cases hd : decide (y ∈ l.take m) with
                  | true =>
                    obtain rfl : false = ans := by rw [← HA.out]; exact (HST2.out (HST.out (.inr (.inr (of_decide_eq_true hd))))).symm
                    have HD := Lib.hid hd; clear hd
                    have HC2 := Lib.hid (show ∀ w', Below wr.heap.size wr w' → Calls Try.prog 45 #[.slice (some ⟨bl, ol, none⟩) m cl, .int .i64 y] w' fun e w'' => e = .returned (.bool true) ∧ w'' = w' from fun w' hb' => by have := HC.out w' hb'; rw [HD.out] at this; exact this)
                    go_wp2
                    go_quiet (first | (go_at_call 45; exact Calls.quiet_of_same (HC2.out _ (below_drewN _ _))))
                    go_wp2
                    go_ret
                    exact ⟨rfl, (HUP.out.trans (HUP2.out.mono HUP.out.size)).trans ((below_drewN _ _).mono (HUP.out.trans (HUP2.out.mono HUP.out.size)).size)⟩
                  | false =>
                    have hnm := of_decide_eq_false hd
                    have HD := Lib.hid hd; clear hd
                    have HC2 := Lib.hid (show ∀ w', Below wr.heap.size wr w' → Calls Try.prog 45 #[.slice (some ⟨bl, ol, none⟩) m cl, .int .i64 y] w' fun e w'' => e = .returned (.bool false) ∧ w'' = w' from fun w' hb' => by have := HC.out w' hb'; rw [HD.out] at this; exact this)
                    go_wp2
                    go_quiet (first | (go_at_call 45; exact Calls.quiet_of_same (HC2.out _ (below_drewN _ _))))
                    go_wp2
                    exact ⟨⟨m + 1, by omega, by go_num, HNX.out (by omega) (by omega) hnm, HUP2.out.trans ((below_drewN _ _).mono HUP2.out.size)⟩, by simp [intOf]; omega⟩
            · obtain rfl : m = l.length := by omega
              have hom := HOM.out
              rw [List.take_length] at hom
              go_wp2
              exact ⟨⟨k + 1, by omega, by go_num, by rw [HTK2.out, HOK.out, hom]; rfl, HUP.out.trans (HUP2.out.mono HUP.out.size)⟩, by simp [intOf]; omega⟩
      · obtain rfl : k = g.length := by omega
        have hok := HOK.out
        rw [List.take_length] at hok
        obtain rfl : true = ans := by rw [← HA.out]; exact hok.symm
        go_wp2
        go_ret
        exact ⟨rfl, HUP.out⟩
end Go.Proofs.Ytaofmejfdmbfoaa
namespace Go.Proofs.Ytaofmejfdmbfoaa
open Go.ChangeShapes Go.WideShapes Go.ChangeAt Go.RowKit Go.Ln
/-- the array of marks -/
def Marks (B : Nat) (n : Nat) (w : World) : Prop := ∀ i, i < 19 → w.cell? ⟨B, i, none⟩ = some (.bool (n.testBit i)) ∧ w.frozen? ⟨B, i, none⟩ = false
theorem Marks.set {B n : Nat} {w : World} (h : Marks B n w) (p : Nat) (hp : p < 19) : Marks B (n ||| 2 ^ p) (w.setCell ⟨B, p, none⟩ (.bool true)) := fun i hi => by
  refine ⟨?_, by rw [World.frozen?_setCell]; exact (h i hi).2⟩
  by_cases e : i = p
  · subst e
    rw [World.cell?_setCell_same _ _ _ (h i hi).1]
    simp [Nat.testBit_or]
  · rw [World.cell?_setCell_other _ _ _ _ (by intro e'; injection e' with e1 e2; omega), (h i hi).1, Nat.testBit_or, Nat.testBit_two_pow, decide_eq_false (by omega), Bool.or_false]
theorem Marks.below {B n : Nat} {w w' : World} (h : Marks B n w) (hb : Below w.heap.size w w') (hB : B < w.heap.size) : Marks B n w' := fun i hi =>
  ⟨(hb.cell (p := ⟨B, i, none⟩) hB).trans (h i hi).1, (hb.frozen (p := ⟨B, i, none⟩) hB).trans (h i hi).2⟩
def noMarks : Array Value := #[.bool false, .bool false, .bool false, .bool false, .bool false, .bool false, .bool false, .bool false, .bool false, .bool false, .bool false, .bool false, .bool false, .bool false, .bool false, .bool false, .bool false, .bool false, .bool false]
theorem noMarks_at (i : Nat) (h : i < 19) : noMarks[i]? = some (.bool ((0 : Nat).testBit i)) := by
  rw [Nat.zero_testBit]
  rcases (by omega : i = 0 ∨ i = 1 ∨ i = 2 ∨ i = 3 ∨ i = 4 ∨ i = 5 ∨ i = 6 ∨ i = 7 ∨ i = 8 ∨ i = 9 ∨ i = 10 ∨ i = 11 ∨ i = 12 ∨ i = 13 ∨ i = 14 ∨ i = 15 ∨ i = 16 ∨ i = 17 ∨ i = 18) with rfl | rfl | rfl | rfl | rfl | rfl | rfl | rfl | rfl | rfl | rfl | rfl | rfl | rfl | rfl | rfl | rfl | rfl | rfl <;> rfl
theorem marks_start (w : World) (a : Nat) (ha : a < 19) : Marks w.heap.size (2 ^ a) (w.alloc (.cells (noMarks.toList.set a (.bool true)).toArray 95)) := fun i hi => by
  refine ⟨?_, by simp⟩
  rw [World.cell?_alloc_at _ _ _ _ rfl]
  have h1 := noMarks_at i hi
  rw [Nat.zero_testBit] at h1
  simp only [List.getElem?_toArray, List.getElem?_set, Array.getElem?_toList, h1, Nat.testBit_two_pow]
  by_cases e : a = i
  · subst e
    have : a < noMarks.size := ha
    simp [this]
  · simp [e]
set_option maxRecDepth 100000 in
set_option maxHeartbeats 2000000 in
theorem belowOf_any (W0 : World) (g : Gr) (sa : Option Addr) (cap : Nat) (hg : goodB g = true) (hi : GrAt W0 sa g) (a b : Nat) (ha : a < 3 + g.length) (hb : b < 3 + g.length) (w : World) (hB : Below W0.heap.size W0 w) :
    Calls Try.prog 70 #[.slice sa g.length cap, .int .i64 a, .int .i64 b] w fun e w' => e = .returned (.bool (belowR g a b)) ∧ Below w.heap.size w w' := by
  have hlen : g.length ≤ 16 := by
    simp only [goodB, Bool.and_eq_true, decide_eq_true_eq] at hg; exact hg.1
  unfold belowR
  by_cases h1 : (a : Int) = b
  · rw [if_pos (.inl (by omega))]
    go_enter Try.func70, Try.ntmps70
    go_wp2
    go_ret
    exact ⟨rfl, Below.refl _ _⟩
  · by_cases h2 : (b : Int) = 0
    · rw [if_pos (.inr (by omega))]
      go_enter Try.func70, Try.ntmps70
      go_wp2
      go_ret
      exact ⟨rfl, Below.refl _ _⟩
    · rw [if_neg (by omega)]
      have e1 : ((a : Int) == (b : Int)) = false := by simp; omega
      have e2 : ((b : Int) == 0) = false := by simp; omega
      by_cases h3 : (a : Int) < 3
      · rw [if_pos (.inl (by omega))]
        go_enter Try.func70, Try.ntmps70
        go_wp2
        go_ret
        exact ⟨rfl, Below.refl _ _⟩
      · by_cases h4 : (b : Int) < 3
        · rw [if_pos (.inr (by omega))]
          go_enter Try.func70, Try.ntmps70
          go_wp2
          go_ret
          exact ⟨rfl, Below.refl _ _⟩
        · rw [if_neg (by omega)]
          have hs : (w.alloc (.cells noMarks 95)).cell? ⟨w.heap.size, a, none⟩ = some (.bool false) := by
            rw [World.cell?_alloc_at _ _ _ _ rfl]
            have := noMarks_at a (by omega)
            rw [Nat.zero_testBit] at this; exact this
          unfold noMarks at hs
          have HI := Lib.hid hi; clear hi
          have HB := Lib.hid hB; clear hB
          go_enter Try.func70, Try.ntmps70
          go_wp2
          go_loopw [8] (fun i wr => ∃ k : Nat, k ≤ a - b ∧ i = .int .i64 ((a - k : Nat) : Int) ∧ Below w.heap.size w wr ∧ w.heap.size < wr.heap.size ∧ Marks w.heap.size (mkD g a k) wr) (fun i _ => (intOf i).toNat - b)
          case atStart => exact ⟨0, by omega, rfl, by go_grown, by simp, marks_start w a (by omega)⟩
          case round =>
            obtain ⟨k, hk, hi8, hup, hsz, hmk⟩ := hrel
            have HUP := Lib.hid hup; have HMK := Lib.hid hmk
            clear hup hmk
            by_cases hgt : (b : Int) < ((a - k : Nat) : Int)
            · obtain ⟨q, hq⟩ : ∃ q, a - k = q + 3 := ⟨a - k - 3, by omega⟩
              have hqc : ((a - k : Nat) : Int) = (q : Int) + 3 := by omega
              rw [hqc] at hi8 hgt
              subst hi8
              obtain ⟨l, hl⟩ : ∃ l, g[q]? = some l := ⟨g[q]'(by omega), List.getElem?_eq_getElem (by omega)⟩
              obtain ⟨bg, og, al, cl, rfl, hbg, hlc, hil, hml⟩ := HI.out.below (HB.out.trans (HUP.out.mono HB.out.size)) q l hl
              have hpar : par g (q + 3) = l := by rw [par_big g (q + 3) (by omega), Nat.add_sub_cancel, List.getD, hl]; rfl
              have hmem := fun p (hp : p ∈ l) => par_mem hg (c := q + 3) (by rw [hpar]; exact hp)
              have hlm : (l.length : Int) ≤ 9223372036854775807 := by unfold maxLen at hml; omega
              have hstep : mkD g a (k + 1) = mk1 g (mkD g a k) (q + 3) := by rw [← hq]; rfl
              have HL := Lib.hid hl; have HIL := Lib.hid hil; have HME := Lib.hid hmem; have HST := Lib.hid hstep; have HPAR := Lib.hid hpar
              clear hil hmem hml hl hpar hstep
              generalize hn : mkD g a k = n at *
              have hw1 : IntKind.i64.wrap (q : Int) = q := by rw [IntKind.wrap_i64]; omega
              clear hlc hlm
              go_wp2
              go_loopw [9] (fun j wr2 => ∃ m : Nat, m ≤ l.length ∧ j = .int .i64 m ∧ (m = 0 ∨ n.testBit (q + 3) = true) ∧ Below w.heap.size w wr2 ∧ w.heap.size < wr2.heap.size ∧ Marks w.heap.size ((l.take m).foldl (fun s p => s ||| 2 ^ p.toNat) n) wr2) (fun j _ => l.length - (intOf j).toNat)
              case atStart => exact ⟨0, Nat.zero_le _, rfl, .inl rfl, HUP.out, hsz, HMK.out⟩
              case round =>
                obtain ⟨m, hm, rfl, hor, hup2, hsz2, hmk2⟩ := hrel
                obtain ⟨bg', og', al', cl', hsa, hbg2, hlc2, hil2, hml2⟩ := HI.out.below (HB.out.trans (hup2.mono HB.out.size)) q l HL.out
                injection hsa with hsa; injection hsa with h1' h2'; subst h1'; subst h2'
                have hlm : (l.length : Int) ≤ 9223372036854775807 := by unfold maxLen at hml2; omega
                generalize hN : (l.take m).foldl (fun s p => s ||| 2 ^ p.toNat) n = N at *
                have hbit : N.testBit (q + 3) = n.testBit (q + 3) := by
                  rw [← hN, foldl_or_bit]
                  have : ((l.take m).any fun p => (2 ^ p.toNat).testBit (q + 3)) = false := by
                    rw [Bool.eq_false_iff]
                    intro hh
                    obtain ⟨p, hp, hpb⟩ := List.any_eq_true.1 hh
                    have h5 := HME.out p (List.mem_of_mem_take hp)
                    rw [Nat.testBit_two_pow] at hpb
                    have := of_decide_eq_true hpb
                    omega
                  rw [this, Bool.or_false]
                have hmc := (hmk2 (q + 3) (by omega)).1
                rw [hbit] at hmc
                have HUP2 := Lib.hid hup2; have HMK2 := Lib.hid hmk2; have HNN := Lib.hid hN; have HIL2 := Lib.hid hil2
                clear hup2 hmk2 hN hil2 hbit
                cases htb : n.testBit (q + 3) with
                | false =>
                  obtain rfl : m = 0 := by rcases hor with h | h; exact h; rw [htb] at h; cases h
                  have hNn : N = n := by rw [← HNN.out]; simp
                  rw [htb] at hmc
                  have hmk1 : mk1 g n (q + 3) = n := by unfold mk1; rw [htb]; rfl
                  go_wp2
                  refine ⟨⟨k + 1, by omega, ?_, HUP2.out, hsz2, by rw [HST.out, hmk1, ← hNn]; exact HMK2.out⟩, ?_⟩
                  · rw [show ((a - (k + 1) : Nat) : Int) = (q : Int) + 3 - 1 by omega]
                  · simp [intOf]; omega
                | true =>
                  rw [htb] at hmc
                  by_cases hlt : m < l.length
                  · obtain ⟨y, hy⟩ : ∃ y, l[m]? = some y := ⟨l[m], List.getElem?_eq_getElem hlt⟩
                    obtain ⟨bl, ol, rfl, hbl, hyc⟩ := HIL2.out m y hy
                    have hyr := HME.out y (List.mem_of_getElem? hy)
                    obtain ⟨yn, rfl⟩ : ∃ yn : Nat, y = (yn : Int) := ⟨y.toNat, by omega⟩
                    have hyk := HMK2.out yn (by omega)
                    obtain ⟨hyk1, hyk2⟩ := hyk
                    have hyn : ((yn : Int)).toNat = yn := by omega
                    have hset := HMK2.out.set yn (by omega)
                    have hnx : (l.take (m + 1)).foldl (fun s p => s ||| 2 ^ p.toNat) n = N ||| 2 ^ yn := by rw [take_snocI l m _ hy, List.foldl_append, HNN.out]; simp
                    have HSE := Lib.hid hset; have HNX := Lib.hid hnx; have HY := Lib.hid hy
                    clear hset hnx hy
                    go_wp2
                    exact ⟨⟨m + 1, by omega, by go_num, .inr (by first | exact htb | trivial), HUP2.out.setCell (by simp) _, by simp; omega, by rw [HNX.out]; exact HSE.out⟩, by simp [intOf]; omega⟩
                  · obtain rfl : m = l.length := by omega
                    have hmk1 : mk1 g n (q + 3) = N := by
                      unfold mk1; rw [htb, if_pos rfl, HPAR.out, ← HNN.out, List.take_length]
                    go_wp2
                    refine ⟨⟨k + 1, by omega, ?_, HUP2.out, hsz2, by rw [HST.out, hmk1]; exact HMK2.out⟩, ?_⟩
                    · rw [show ((a - (k + 1) : Nat) : Int) = (q : Int) + 3 - 1 by omega]
                    · simp [intOf]; omega
            · have hka : k = a - b := by omega
              have hfin := (HMK.out b (by omega)).1
              rw [hka] at hfin
              subst hi8
              go_wp2
              go_ret
              exact ⟨rfl, HUP.out⟩
end Go.Proofs.Ytaofmejfdmbfoaa
namespace Go.Proofs.Ytaofmejfdmbfoaa
open Go.ChangeShapes Go.WideShapes Go.ChangeAt Go.RowKit Go.Ln
set_option maxRecDepth 100000 in
set_option maxHeartbeats 2000000 in
theorem raboveOf_any (W0 : World) (g : Gr) (sa : Option Addr) (cap : Nat) (hg : goodB g = true) (hi : GrAt W0 sa g) (c : Nat) (hc : c < 3 + g.length) (w : World) (hB : Below W0.heap.size W0 w) :
    Calls Try.prog 44 #[.slice sa g.length cap, .int .i64 c] w fun e w' => ∃ v, e = .returned v ∧ Below w.heap.size w w' ∧ Row w.heap.size w' 3 v (ints (listF (fun i => belowR g c i) (3 + g.length))) := by
  have hlen : g.length ≤ 16 := by
    simp only [goodB, Bool.and_eq_true, decide_eq_true_eq] at hg; exact hg.1
  have HI := Lib.hid hi; clear hi
  have HB := Lib.hid hB; clear hB
  have hw3 : IntKind.i64.wrap (3 + (g.length : Int)) = 3 + (g.length : Int) := by rw [IntKind.wrap_i64]; omega
  go_enter Try.func44, Try.ntmps44
  go_wp2
  go_loopw [5, 6] (fun v i wr => ∃ k : Nat, k ≤ 3 + g.length ∧ i = .int .i64 k ∧ Below w.heap.size w wr ∧ Row w.heap.size wr 3 v (ints (listF (fun i => belowR g c i) k))) (fun _ i _ => 3 + g.length - (intOf i).toNat)
  case atStart => exact ⟨0, by omega, rfl, Below.refl _ _, Row.nil _ _ _⟩
  case round =>
    obtain ⟨k, hk, rfl, hup, hrow⟩ := hrel
    have HUP := Lib.hid hup; have HR := Lib.hid hrow
    clear hup hrow
    by_cases hlt : (k : Int) < 3 + (g.length : Int)
    · have hlen2 := listF_length (fun i => belowR g c i) k
      have hsu := listF_succ (fun i => belowR g c i) k
      cases hd : belowR g c k with
      | true =>
        have HD := Lib.hid hd; clear hd
        simp only [HD.out] at hsu
        have HSU := Lib.hid hsu; clear hsu
        go_wp2_with (first
          | (go_at_call 70; refine (belowOf_any W0 g _ _ hg HI.out _ _ (by omega) (by omega) _ (HB.out.trans (HUP.out.mono HB.out.size))).mono ?_; rintro e w2 ⟨rfl, hu⟩; rw [HD.out]; have HU := Lib.hid hu; clear hu)
          | (at_builtin; apply wpList_app TI (B := w.heap.size) (xs := ints (listF (fun i => belowR g c i) k)) (g := _) (c := 1) (y := .int .i64 (k : Int)) (ho := rfl) (hgd := rfl) (hty := rfl) (hs := rfl) (hx := rfl); (case hr => exact World.ownsRow.alloc (HR.out.below HU.out) _); (case hB => have := HU.out.size; have := HUP.out.size; simp; omega); (case hy => simp); (case h1 => rfl); (case hb => simp [ints]; omega); intro v2 w3 hg3))
        have hr2 : Row w.heap.size (w2.alloc (.cells #[.int .i64 (k : Int)] 3)) 3 _ (ints (listF (fun i => belowR g c i) k)) := World.ownsRow.alloc (HR.out.below HU.out) _
        have hz2 := HU.out.size
        have hz1 := HUP.out.size
        have hb2 : Below w.heap.size (w2.alloc (.cells #[.int .i64 (k : Int)] 3)) w3 := hg3.below hr2 (by omega) (by simp; omega)
        have hb3 : Below w.heap.size w (w2.alloc (.cells #[.int .i64 (k : Int)] 3)) := (HUP.out.trans (HU.out.mono HUP.out.size)).alloc (by omega) _
        refine ⟨⟨k + 1, by omega, by go_num, hb3.trans hb2, ?_⟩, by simp [intOf]; omega⟩
        have := hg3.own
        rw [HSU.out, if_pos trivial, ints_snoc]; exact this
      | false =>
        have HD := Lib.hid hd; clear hd
        simp only [HD.out] at hsu
        have HSU := Lib.hid hsu; clear hsu
        go_wp2_with (go_at_call 70; refine (belowOf_any W0 g _ _ hg HI.out _ _ (by omega) (by omega) _ (HB.out.trans (HUP.out.mono HB.out.size))).mono ?_; rintro e w2 ⟨rfl, hu⟩; rw [HD.out]; have HU := Lib.hid hu; clear hu)
        refine ⟨⟨k + 1, by omega, by go_num, HUP.out.trans (HU.out.mono HUP.out.size), ?_⟩, by simp [intOf]; omega⟩
        rw [HSU.out]
        exact HR.out.below HU.out
    · obtain rfl : k = 3 + g.length := by omega
      go_wp2
      go_ret
      exact ⟨_, rfl, HUP.out, HR.out⟩
end Go.Proofs.Ytaofmejfdmbfoaa
namespace Go.Proofs.Ytaofmejfdmbfoaa
open Go.ChangeShapes Go.WideShapes Go.ChangeAt Go.RowKit Go.Ln
theorem Row.ints {B : Nat} {w : World} {v : Value} {l : List Int} (h : Row B w 3 v (ints l)) : ∃ a cap, v = .slice a l.length cap ∧ IntsAt w a l := by
  obtain ⟨a, cap, rfl, _, hc⟩ := h.shape
  refine ⟨a, cap, by simp [Go.Proofs.Ytaofmejfdmbfoaa.ints], fun k x hx => ?_⟩
  obtain ⟨g, ha, _, hg, hcell⟩ := hc k (.int .i64 x) (by simp [Go.Proofs.Ytaofmejfdmbfoaa.ints, hx])
  exact ⟨g, 0, ha, hg, by rw [Nat.zero_add]; exact hcell⟩
set_option maxRecDepth 100000 in
set_option maxHeartbeats 1000000 in
theorem same_any (l m : List Int) (a a' : Option Addr) (cap cap' : Nat) (w : World) (hl : (l.length : Int) ≤ 9223372036854775807) (_hm : (m.length : Int) ≤ 9223372036854775807) (hi : IntsAt w a l) (hi' : IntsAt w a' m) :
    Calls Try.prog 11 #[.slice a l.length cap, .slice a' m.length cap'] w fun e w' => e = .returned (.bool (decide (l = m))) ∧ Below w.heap.size w w' := by
  have HI := Lib.hid hi; clear hi
  have HI' := Lib.hid hi'; clear hi'
  by_cases hne : (l.length : Int) = m.length
  · obtain ⟨ans, hans⟩ : ∃ b, decide (l = m) = b := ⟨_, rfl⟩
    rw [hans]
    have HA := Lib.hid hans; clear hans
    go_enter Try.func11, Try.ntmps11
    go_wp2
    go_loopw [5] (fun i wr => ∃ k : Nat, k ≤ l.length ∧ i = .int .i64 k ∧ l.take k = m.take k ∧ Below w.heap.size w wr) (fun i _ => l.length - (intOf i).toNat)
    case atStart => exact ⟨0, Nat.zero_le _, rfl, rfl, Below.refl _ _⟩
    case round =>
      obtain ⟨k, hk, rfl, ht, hup⟩ := hrel
      have HT := Lib.hid ht; clear ht
      by_cases hlt : k < l.length
      · obtain ⟨x, hx⟩ : ∃ x, l[k]? = some x := ⟨l[k], List.getElem?_eq_getElem hlt⟩
        obtain ⟨y, hy⟩ : ∃ y, m[k]? = some y := ⟨m[k]'(by omega), List.getElem?_eq_getElem (by omega)⟩
        obtain ⟨b, o, rfl, hb, hxc⟩ := HI.out.below hup k x hx
        obtain ⟨b', o', rfl, hb', hyc⟩ := HI'.out.below hup k y hy
        have HX := Lib.hid hx; have HY := Lib.hid hy; have HUP := Lib.hid hup
        clear hx hy hup
        by_cases he : x = y
        · have hb2 : (x != y) = false := by simp [he]
          have hb3 : (x == y) = true := by simp [he]
          go_wp2
          go_quiet (fail)
          go_wp2
          exact ⟨⟨k + 1, by omega, by go_num, by rw [take_snocI l k x HX.out, take_snocI m k y HY.out, HT.out, he], HUP.out.trans ((below_drewN _ _).mono HUP.out.size)⟩, by simp [intOf]; omega⟩
        · obtain rfl : false = ans := by
            rw [← HA.out]; symm
            refine decide_eq_false fun e => he ?_
            have := HX.out; rw [e, HY.out] at this; exact (Option.some.inj this).symm
          have hb2 : (x != y) = true := by simp [he]
          go_wp2
          go_quiet (fail)
          go_wp2
          go_ret
          exact ⟨rfl, HUP.out.trans ((below_drewN _ _).mono HUP.out.size)⟩
      · obtain rfl : k = l.length := by omega
        have ht := HT.out
        rw [List.take_length, List.take_of_length_le (by omega)] at ht
        obtain rfl : true = ans := by rw [← HA.out]; exact (decide_eq_true ht).symm
        go_wp2
        go_ret
        exact ⟨rfl, hup⟩
  · have e : decide (l = m) = false := decide_eq_false (fun e => hne (by rw [e]))
    rw [e]; clear e
    go_enter Try.func11, Try.ntmps11
    go_wp2
    go_ret
    exact ⟨rfl, Below.refl _ _⟩
end Go.Proofs.Ytaofmejfdmbfoaa
namespace Go.Proofs.Ytaofmejfdmbfoaa
open Go.ChangeShapes Go.WideShapes Go.ChangeAt Go.RowKit Go.Ln
theorem good_len {g : Gr} (h : goodB g = true) : g.length ≤ 16 := by
  simp only [goodB, Bool.and_eq_true, decide_eq_true_eq] at h; exact h.1
theorem classB_nat {g : Gr} {c : Int} (h : classB g c = true) : ∃ n : Nat, c = (n : Int) ∧ n < 3 + g.length := by
  simp only [classB, Bool.and_eq_true, decide_eq_true_eq] at h
  exact ⟨c.toNat, by omega, by omega⟩
def BelV (g : Gr) (a b : Int) : Value := .tuple (if goodB g = true ∧ classB g a = true ∧ classB g b = true then #[.bool (aboveB g a.toNat b.toNat), .int .i64 0] else #[.bool false, .int .i64 2])
def lstOf (g : Gr) (c : Int) (f : Nat → Nat → Bool) : List Int := if goodB g = true ∧ classB g c = true then listF (fun i => f c.toNat i) (3 + g.length) else []
def errOf (g : Gr) (c : Int) : Int := if goodB g = true ∧ classB g c = true then 0 else 2
/-- a list and an error -/
def LstP (B : Nat) (w : World) (l : List Int) (er : Int) (e : Ending) (w' : World) : Prop := ∃ v, e = .returned (.tuple #[v, .int .i64 er]) ∧ Below w.heap.size w w' ∧ Row B w' 3 v (ints l)
end Go.Proofs.Ytaofmejfdmbfoaa
