/-
  Heirs and Least of the program and of the specification: the common classes below some, and the least common ones above. No condition.
-/
import Derived.Test.YtiohbfcjfdabmaaLnP
import Derived.Test.YtiohbfcjfdabmaaLnR
import Derived.Test.YtiohbfcjfdabmaaLhG
import Derived.Test.YtiohbfcjfdabmaaXmD
namespace Go.Proofs.Ytiohbfcjfdabmaa
open Go.ChangeShapes Go.WideShapes Go.ChangeAt Go.RowKit Go.Ln Go.Fs
def classesB (g : Gr) (l : List Int) : Bool := decide (l.length ≤ 16) && l.all (classB g)
set_option maxRecDepth 100000 in
set_option maxHeartbeats 1000000 in
theorem classes_any (g : Gr) (sa : Option Addr) (cap : Nat) (hg : (g.length : Int) ≤ 1000) (l : List Int) (la : Option Addr) (lc : Nat) (hl : (l.length : Int) ≤ 9223372036854775807) (w : World) (hi : IntsAt w la l) :
    Calls Try.prog 49 #[.slice sa g.length cap, .slice la l.length lc] w fun e w' => e = .returned (.bool (classesB g l)) ∧ w = w' := by
  have HI := Lib.hid hi; clear hi
  unfold classesB
  by_cases h16 : 16 < (l.length : Int)
  · rw [decide_eq_false (by omega)]
    go_enter Try.func49, Try.ntmps49
    go_wp2
    go_ret
    exact ⟨rfl, rfl⟩
  · rw [decide_eq_true (by omega), Bool.true_and]
    obtain ⟨ans, hans⟩ : ∃ b, l.all (classB g) = b := ⟨_, rfl⟩
    rw [hans]
    have HA := Lib.hid hans; clear hans
    go_enter Try.func49, Try.ntmps49
    go_wp2
    go_loop [5] (fun i => ∃ k : Nat, k ≤ l.length ∧ i = .int .i64 k ∧ (l.take k).all (classB g) = true) (fun i => l.length - (intOf i).toNat)
    case atStart => exact ⟨0, Nat.zero_le _, rfl, rfl⟩
    case round =>
      obtain ⟨k, hk, rfl, hn⟩ := hrel
      have HN := Lib.hid hn; clear hn
      by_cases hlt : k < l.length
      · obtain ⟨y, hy⟩ : ∃ y, l[k]? = some y := ⟨l[k], List.getElem?_eq_getElem hlt⟩
        obtain ⟨b, off, rfl, hb, hc⟩ := HI.out k y hy
        have HY := Lib.hid hy; clear hy
        cases he : classB g y with
        | false =>
          have hans : false = ans := by
            rw [← HA.out]; symm
            rw [Bool.eq_false_iff]
            intro h
            have := List.all_eq_true.1 h y (List.mem_of_getElem? HY.out)
            rw [he] at this; cases this
          subst hans
          have HE := Lib.hid he; clear he
          go_wp2_with (go_at_call 37; refine (class_any g _ _ _ _ hg).mono ?_; rintro e w3 ⟨rfl, rfl⟩; rw [HE.out])
          go_ret
          exact ⟨rfl, rfl⟩
        | true =>
          have HE := Lib.hid he; clear he
          go_wp2_with (go_at_call 37; refine (class_any g _ _ _ _ hg).mono ?_; rintro e w3 ⟨rfl, rfl⟩; rw [HE.out])
          go_round
          case rel => exact ⟨k + 1, by omega, by go_num, by rw [take_snocI l k y HY.out, List.all_append, HN.out]; simp [HE.out]⟩
          case measure => simp [intOf]; omega
      · obtain rfl : k = l.length := by omega
        have hn := HN.out
        rw [List.take_length] at hn
        have hans : true = ans := by rw [← HA.out]; exact hn.symm
        subst hans
        go_wp2
        go_ret
        exact ⟨rfl, rfl⟩
/-- the classes of a list that can be asked -/
def NatL (g : Gr) (l : List Int) : Prop := ∀ c ∈ l, ∃ n : Nat, c = (n : Int) ∧ n < 3 + g.length
theorem natL_of {g : Gr} {l : List Int} (h : l.all (classB g) = true) : NatL g l := fun c hc => classB_nat (List.all_eq_true.1 h c hc)
set_option maxRecDepth 100000 in
set_option maxHeartbeats 4000000 in
theorem rheirsOf_any (W0 : World) (g : Gr) (sa : Option Addr) (cap : Nat) (hg : goodB g = true) (hi : GrAt W0 sa g) (l : List Int) (la : Option Addr) (lc : Nat) (hl : (l.length : Int) ≤ 1000) (hn : NatL g l) (hli : IntsAt W0 la l) (w : World) (hB : Below W0.heap.size W0 w) :
    Calls Try.prog 50 #[.slice sa g.length cap, .slice la l.length lc] w fun e w' => ∃ v, e = .returned v ∧ Below w.heap.size w w' ∧ Row w.heap.size w' 3 v (ints (listF (heirB g l) (3 + g.length))) := by
  have hlen := good_len hg
  have HI := Lib.hid hi; clear hi
  have HLI := Lib.hid hli; clear hli
  have HB := Lib.hid hB; clear hB
  have HN := Lib.hid hn; clear hn
  have hw3 : IntKind.i64.wrap (3 + (g.length : Int)) = 3 + (g.length : Int) := by rw [IntKind.wrap_i64]; omega
  go_enter Try.func50, Try.ntmps50
  go_wp2
  go_loopw [5, 6] (fun v i wr => ∃ k : Nat, k ≤ 3 + g.length ∧ i = .int .i64 k ∧ Below w.heap.size w wr ∧ Row w.heap.size wr 3 v (ints (listF (heirB g l) k))) (fun _ i _ => 3 + g.length - (intOf i).toNat)
  case atStart => exact ⟨0, by omega, rfl, Below.refl _ _, Row.nil _ _ _⟩
  case round =>
    obtain ⟨k, hk, rfl, hup, hrow⟩ := hrel
    have HUP := Lib.hid hup; have HR := Lib.hid hrow
    clear hup hrow
    by_cases hlt : (k : Int) < 3 + (g.length : Int)
    · have hlen2 := listF_length (heirB g l) k
      have hsu := listF_succ (heirB g l) k
      have HSU := Lib.hid hsu; clear hsu
      go_wp2
      go_loopw [7, 8] (fun is i wr2 => ∃ m : Nat, m ≤ l.length ∧ i = .int .i64 m ∧ is = .bool (heirB g (l.take m) k) ∧ Below wr.heap.size wr wr2) (fun _ i _ => l.length - (intOf i).toNat)
      case atStart => exact ⟨0, Nat.zero_le _, rfl, rfl, Below.refl _ _⟩
      case round =>
        obtain ⟨m, hm, rfl, rfl, hup2⟩ := hrel
        have HUP2 := Lib.hid hup2
        have hz := HUP.out.size
        have hBw2 := (HB.out.trans (HUP.out.mono HB.out.size))
        have hBr := hBw2.trans (hup2.mono hBw2.size)
        have HBR := Lib.hid hBr
        clear hup2 hBw2
        by_cases hlt2 : m < l.length
        · obtain ⟨y, hy⟩ : ∃ y, l[m]? = some y := ⟨l[m], List.getElem?_eq_getElem hlt2⟩
          obtain ⟨b, off, rfl, hb, hc⟩ := HLI.out.below hBr m y hy
          obtain ⟨yn, rfl, hyn⟩ := HN.out y (List.mem_of_getElem? hy)
          have hnx : heirB g (l.take (m + 1)) k = (heirB g (l.take m) k && belowR g k yn) := by
            unfold heirB
            rw [take_snocI l m _ hy, List.all_append]; simp
          have HNX := Lib.hid hnx
          clear hnx hy hBr
          cases his : heirB g (l.take m) k with
          | true =>
            have HIS := Lib.hid his; clear his
            go_wp2_with (go_at_call 73; refine (belowOf_any W0 g _ _ hg HI.out k yn (by omega) hyn _ HBR.out).mono ?_; rintro e w3 ⟨rfl, hu⟩; have HU := Lib.hid hu; clear hu)
            exact ⟨⟨m + 1, by omega, by go_num, by rw [HNX.out, HIS.out]; rfl, HUP2.out.trans (HU.out.mono HUP2.out.size)⟩, by simp [intOf]; omega⟩
          | false =>
            have HIS := Lib.hid his; clear his
            go_wp2
            exact ⟨⟨m + 1, by omega, by go_num, by rw [HNX.out, HIS.out]; rfl, HUP2.out⟩, by simp [intOf]; omega⟩
        · obtain rfl : m = l.length := by omega
          cases his : heirB g (l.take l.length) k with
          | true =>
            have his2 : heirB g l k = true := by rw [List.take_length] at his; exact his
            have HIS := Lib.hid his2
            go_wp2_with (at_builtin; apply wpList_app TI (B := w.heap.size) (xs := ints (listF (heirB g l) k)) (g := _) (c := 1) (y := .int .i64 (k : Int)) (ho := rfl) (hgd := rfl) (hty := rfl) (hs := rfl) (hx := rfl); (case hr => exact World.ownsRow.alloc (HR.out.below HUP2.out) _); (case hB => have := HUP2.out.size; have := HUP.out.size; simp; omega); (case hy => simp); (case h1 => rfl); (case hb => simp [ints]; omega); intro v2 w3 hg3)
            have hr2 : Row w.heap.size (wr.alloc (.cells #[.int .i64 (k : Int)] 3)) 3 _ (ints (listF (heirB g l) k)) := World.ownsRow.alloc (HR.out.below HUP2.out) _
            have hz2 := HUP2.out.size
            have hb2 : Below w.heap.size (wr.alloc (.cells #[.int .i64 (k : Int)] 3)) w3 := hg3.below hr2 (by omega) (by simp; omega)
            have hb3 : Below w.heap.size w (wr.alloc (.cells #[.int .i64 (k : Int)] 3)) := (HUP.out.trans (HUP2.out.mono HUP.out.size)).alloc (by omega) _
            refine ⟨⟨k + 1, by omega, by go_num, hb3.trans hb2, ?_⟩, by simp [intOf]; omega⟩
            have := hg3.own
            rw [HSU.out, if_pos HIS.out, ints_snoc]; exact this
          | false =>
            have his2 : heirB g l k = false := by rw [List.take_length] at his; exact his
            have HIS := Lib.hid his2
            go_wp2
            refine ⟨⟨k + 1, by omega, by go_num, HUP.out.trans (HUP2.out.mono HUP.out.size), ?_⟩, by simp [intOf]; omega⟩
            rw [HSU.out, if_neg (by rw [HIS.out]; simp)]
            exact HR.out.below HUP2.out
    · obtain rfl : k = 3 + g.length := by omega
      go_wp2
      go_ret
      exact ⟨_, rfl, HUP.out, HR.out⟩
end Go.Proofs.Ytiohbfcjfdabmaa
namespace Go.Proofs.Ytiohbfcjfdabmaa
open Go.ChangeShapes Go.WideShapes Go.ChangeAt Go.RowKit Go.Ln Go.Fs
def okWith (g : Gr) (l : List Int) : Bool := goodB g && classesB g l
def OpenW (g : Gr) (l : List Int) (w : World) (e : Ending) (w' : World) : Prop :=
  Below w.heap.size w w' ∧ ((okWith g l = true ∧ ∃ O, e = .returned (.tuple #[.pointer (some ⟨O, 0, none⟩), .int .i64 0]) ∧ GraphAt w' O g) ∨ (okWith g l = false ∧ e = .returned (.tuple #[.pointer none, .int .i64 2])))
set_option maxRecDepth 100000 in
set_option maxHeartbeats 1000000 in
theorem openWith_any (W0 : World) (g : Gr) (sa : Option Addr) (cap : Nat) (hl : (g.length : Int) ≤ 9223372036854775807) (hi : GrAt W0 sa g) (l : List Int) (la : Option Addr) (lc : Nat) (hll : (l.length : Int) ≤ 9223372036854775807) (w : World) (hB : Below W0.heap.size W0 w) (hli : IntsAt w la l) :
    Calls Try.prog 46 #[.slice sa g.length cap, .slice la l.length lc] w (OpenW g l w) := by
  unfold OpenW okWith classesB
  by_cases h16 : 16 < (l.length : Int)
  · rw [decide_eq_false (by omega)]
    go_enter Try.func46, Try.ntmps46
    go_wp2
    go_ret2
    exact ⟨Below.refl _ _, .inr ⟨by simp, rfl⟩⟩
  · rw [decide_eq_true (by omega), Bool.true_and]
    have hop := open_any W0 g sa cap hl hi l la lc (by omega) w hB hli
    have HOP := Lib.hid hop; clear hop hi hB hli
    cases hok : okOpen g l with
    | false =>
      go_enter Try.func46, Try.ntmps46
      go_wp2_with (go_at_call 34; refine HOP.out.mono ?_; (rintro e w2 ⟨hu, ⟨hb, _⟩ | ⟨_, rfl⟩⟩; (rw [hok] at hb; cases hb); have HU := Lib.hid hu; clear hu))
      go_ret2
      exact ⟨HU.out, .inr ⟨hok, rfl⟩⟩
    | true =>
      go_enter Try.func46, Try.ntmps46
      go_wp2_with (go_at_call 34; refine HOP.out.mono ?_; (rintro e w2 ⟨hu, ⟨_, O, rfl, hgr⟩ | ⟨hb, _⟩⟩; rotate_left; (rw [hok] at hb; cases hb); have HU := Lib.hid hu; have HGR := Lib.hid hgr; clear hu hgr))
      go_ret2
      exact ⟨HU.out, .inl ⟨hok, O, rfl, HGR.out⟩⟩
def ComRel (s0 : Nat) (f : Nat → Nat) (l : List Int) (w : World) (i : Value) (wr : World) : Prop :=
  ∃ k : Nat, k ≤ l.length ∧ i = .int .i64 k ∧ Below w.heap.size w wr ∧ w.heap.size + 1 < wr.heap.size ∧ wr.cell? ⟨w.heap.size + 1, 0, none⟩ = some (.int .u64 (meetN s0 f (l.take k) : Nat)) ∧ wr.frozen? ⟨w.heap.size + 1, 0, none⟩ = false ∧ wr.cell? ⟨w.heap.size, 0, none⟩ = some (.int .u64 0) ∧ wr.frozen? ⟨w.heap.size, 0, none⟩ = false
set_option maxRecDepth 100000 in
set_option maxHeartbeats 2000000 in
theorem common_any (g : Gr) (hg : goodB g = true) (O bS cS : Nat) (f : Nat → Nat) (hf : ∀ c, f c < 524288) (l : List Int) (la : Option Addr) (lc : Nat) (hll : (l.length : Int) ≤ 1000) (hn : NatL g l) (w : World) (hgr : GraphAt w O g) (hbS : bS < w.heap.size) (hcS : ∀ c, c < 3 + g.length → w.cell? ⟨bS, c, none⟩ = some (.int .u64 (f c : Nat))) (hli : IntsAt w la l) :
    Calls Try.prog 47 #[.pointer (some ⟨O, 0, none⟩), .slice (some ⟨bS, 0, none⟩) (3 + g.length) cS, .slice la l.length lc] w fun e w' => e = .returned (SV (meetN (blN (absF (pars g)) (3 + g.length) 0) f l)) ∧ Below w.heap.size w w' := by
  have hlen := good_len hg
  obtain ⟨Bk, q1, q2⟩ := hgr.belowC 0 (by omega)
  have hBk : Bk < w.heap.size := cell_lt q2
  have hOl : O < w.heap.size := cell_lt q1
  have hs0 := blN_small (absF (pars g)) 0 (3 + g.length) (by omega)
  generalize hS : blN (absF (pars g)) (3 + g.length) 0 = s0 at *
  have hz1 : (w.alloc (.cells #[.int .u64 0] 69)).cell? ⟨O, 2, none⟩ = w.cell? ⟨O, 2, none⟩ := ((Below.refl w.heap.size w).alloc (Nat.le_refl _) _).cell (p := ⟨O, 2, none⟩) hOl
  have hz2 : (w.alloc (.cells #[.int .u64 0] 69)).cell? ⟨Bk, 0, none⟩ = w.cell? ⟨Bk, 0, none⟩ := ((Below.refl w.heap.size w).alloc (Nat.le_refl _) _).cell (p := ⟨Bk, 0, none⟩) hBk
  rw [q1] at hz1
  rw [q2] at hz2
  have HN := Lib.hid hn; have HCS := Lib.hid hcS; have HLI := Lib.hid hli
  clear hn hcS hli hgr
  go_enter Try.func47, Try.ntmps47
  go_wp2
  go_loopw [18] (fun i wr => ComRel s0 f l w i wr) (fun i _ => l.length - (intOf i).toNat)
  case atStart => exact ⟨0, Nat.zero_le _, rfl, by go_grown, by simp, by simp [meetN], by simp, by simp, by simp⟩
  case round =>
    obtain ⟨k, hk, rfl, hup, hsz, hcell, hfr, hcell0, hfr0⟩ := hrel
    have hMs := meetN_small f (l.take k) s0 hs0
    generalize hM : meetN s0 f (l.take k) = M at *
    have HUP := Lib.hid hup; have HM := Lib.hid hM
    by_cases hlt : k < l.length
    · obtain ⟨y, hy⟩ : ∃ y, l[k]? = some y := ⟨l[k], List.getElem?_eq_getElem hlt⟩
      obtain ⟨b, off, rfl, hb, hc⟩ := HLI.out.below hup k y hy
      obtain ⟨yn, rfl, hyn⟩ := HN.out y (List.mem_of_getElem? hy)
      have hcs := (hup.cell (p := ⟨bS, yn, none⟩) hbS).trans (HCS.out yn hyn)
      have hnx : meetN s0 f (l.take (k + 1)) = M &&& f yn := by rw [take_snocI l k _ hy, meetN_snoc, HM.out]; simp
      have hyt : ((yn : Int)).toNat = yn := by omega
      have hfs := hf yn
      generalize hE : f yn = E at *
      have HNX := Lib.hid hnx
      clear hnx hy hup hE hM
      go_wp2
      go_region_with (go_at_call 69; refine (meet_any M E hMs hfs _).mono ?_; rintro e w5 ⟨rfl, hu⟩; have hc5 := (hu.cell (p := ⟨w.heap.size + 1, 0, none⟩) hsz).trans hcell; have hf5 := (hu.frozen (p := ⟨w.heap.size + 1, 0, none⟩) hsz).trans hfr; have hd5 := (hu.cell (p := ⟨w.heap.size, 0, none⟩) (Nat.lt_of_succ_lt hsz)).trans hcell0; have hg5 := (hu.frozen (p := ⟨w.heap.size, 0, none⟩) (Nat.lt_of_succ_lt hsz)).trans hfr0; have HU5 := Lib.hid (show Below wr.heap.size wr w5 from ⟨hu.os, hu.tape, hu.output, hu.size, hu.block⟩); clear hu)
      all_goals go_wp2
      all_goals refine ⟨⟨k + 1, by omega, by go_num, ?_, by have := HU5.out.size; simp; omega, ?_, ?_, ?_, ?_⟩, by simp [intOf]; omega⟩
      all_goals first
        | exact (HUP.out.trans (HU5.out.mono HUP.out.size)).setCell (by simp) _
        | (rw [HNX.out]; simp [World.cell?_setCell_same, hc5]; done)
        | (rw [World.cell?_setCell_other _ _ _ _ (by intro e; injection e with e1 e2; omega)]; exact hd5)
        | (simp [hf5]; done)
        | (simp [hg5]; done)
    · obtain rfl : k = l.length := by omega
      have hM2 := HM.out
      rw [List.take_length] at hM2
      go_wp2
      refine bodyPost_ret (by simp [results, Try.results47, go_sem, World.cell?_setCell_same, hcell0]; try rfl) rfl ?_
      exact ⟨by rw [hM2], hup.setCell (by simp) _⟩
end Go.Proofs.Ytiohbfcjfdabmaa
namespace Go.Proofs.Ytiohbfcjfdabmaa
open Go.ChangeShapes Go.WideShapes Go.ChangeAt Go.RowKit Go.Ln Go.Fs
set_option maxRecDepth 100000 in
set_option maxHeartbeats 4000000 in
theorem rheirs_any (W0 : World) (g : Gr) (sa : Option Addr) (cap : Nat) (hl : (g.length : Int) ≤ 9223372036854775807) (hi : GrAt W0 sa g) (l : List Int) (la : Option Addr) (lc : Nat) (hll : (l.length : Int) ≤ 9223372036854775807) (hli : IntsAt W0 la l) (w : World) (hB : Below W0.heap.size W0 w) :
    Calls Try.prog 16 #[.slice sa g.length cap, .slice la l.length lc] w (LstP w.heap.size w (if okWith g l = true then listF (heirB g l) (3 + g.length) else []) (if okWith g l = true then 0 else 2)) := by
  have HI := Lib.hid hi; clear hi
  have HLI := Lib.hid hli; clear hli
  have HB := Lib.hid hB; clear hB
  unfold LstP okWith
  cases hg : goodB g with
  | false =>
    rw [if_neg (by simp), if_neg (by simp)]
    have HG := Lib.hid hg; clear hg
    go_enter Try.func16, Try.ntmps16
    go_wp2_with (go_at_call 36; refine (rgood_any W0 g _ _ hl HI.out _ HB.out).mono ?_; rintro e w2 ⟨rfl, hu⟩; rw [HG.out]; have HU := Lib.hid hu; clear hu)
    go_ret2
    exact ⟨_, rfl, HU.out, Row.nil _ _ _⟩
  | true =>
    have hlen := good_len hg
    have HG := Lib.hid hg; clear hg
    cases hc : classesB g l with
    | false =>
      rw [if_neg (by simp), if_neg (by simp)]
      have HC := Lib.hid hc; clear hc
      go_enter Try.func16, Try.ntmps16
      go_wp2_with (first
        | (go_at_call 36; refine (rgood_any W0 g _ _ hl HI.out _ HB.out).mono ?_; rintro e w2 ⟨rfl, hu⟩; rw [HG.out]; have HU := Lib.hid hu; clear hu)
        | (go_at_call 49; refine (classes_any g _ _ (by omega) l _ _ hll _ (HLI.out.below (HB.out.trans (HU.out.mono HB.out.size)))).mono ?_; rintro e w3 ⟨rfl, rfl⟩; rw [HC.out]))
      go_ret2
      exact ⟨_, rfl, HU.out, Row.nil _ _ _⟩
    | true =>
      rw [if_pos (by simp), if_pos (by simp)]
      have hcc := hc
      simp only [classesB, Bool.and_eq_true, decide_eq_true_eq] at hcc
      have hn := natL_of hcc.2
      have h16 := hcc.1
      have HN := Lib.hid hn
      have HC := Lib.hid hc; clear hc hcc hn
      go_enter Try.func16, Try.ntmps16
      go_wp2_with (first
        | (go_at_call 36; refine (rgood_any W0 g _ _ hl HI.out _ HB.out).mono ?_; rintro e w2 ⟨rfl, hu⟩; rw [HG.out]; have HU := Lib.hid hu; clear hu)
        | (go_at_call 49; refine (classes_any g _ _ (by omega) l _ _ hll _ (HLI.out.below (HB.out.trans (HU.out.mono HB.out.size)))).mono ?_; rintro e w3 ⟨rfl, rfl⟩; rw [HC.out])
        | (go_at_call 50; refine (rheirsOf_any W0 g _ _ HG.out HI.out l _ _ (by omega) HN.out HLI.out _ (HB.out.trans (HU.out.mono HB.out.size))).mono ?_; rintro e w4 ⟨v, rfl, hu, hr⟩; have HU4 := Lib.hid hu; have HR := Lib.hid hr; clear hu hr))
      go_ret2
      exact ⟨_, rfl, HU.out.trans (HU4.out.mono HU.out.size), HR.out.1, by rcases HR.out.2 with h | ⟨gg, cp, cur, h1, h2, h3⟩; exact .inl h; exact .inr ⟨gg, cp, cur, h1, Nat.le_trans HU.out.size h2, h3⟩⟩
end Go.Proofs.Ytiohbfcjfdabmaa
namespace Go.Proofs.Ytiohbfcjfdabmaa
open Go.ChangeShapes Go.WideShapes Go.ChangeAt Go.RowKit Go.Ln Go.Fs
theorem GraphAt.belowAll {w : World} {O : Nat} {g : Gr} (h : GraphAt w O g) : ∃ Bk, Bk < w.heap.size ∧ w.cell? ⟨O, 2, none⟩ = some (.slice (some ⟨Bk, 0, none⟩) (3 + g.length) (3 + g.length)) ∧ ∀ c, c < 3 + g.length → w.cell? ⟨Bk, c, none⟩ = some (.int .u64 (blN (absF (pars g)) (3 + g.length) c : Nat)) := by
  obtain ⟨v0, vA, v3, Bk, ho, _, hb2⟩ := h
  exact ⟨Bk, hb2.1, ho.cells.1.2.2.1, fun c hc => (hb2.2 c hc).1⟩
theorem GraphAt.aboveAll {w : World} {O : Nat} {g : Gr} (h : GraphAt w O g) : ∃ gA cA, gA < w.heap.size ∧ w.cell? ⟨O, 1, none⟩ = some (.slice (some ⟨gA, 0, none⟩) (3 + g.length) cA) ∧ ∀ c, c < 3 + g.length → w.cell? ⟨gA, c, none⟩ = some (.int .u64 (abM g c : Nat)) := by
  obtain ⟨gA, cA, h1, h2⟩ := h.aboveC 0 (by omega)
  refine ⟨gA, cA, cell_lt h2, h1, fun c hc => ?_⟩
  obtain ⟨gA', cA', h3, h4⟩ := h.aboveC c hc
  rw [h1] at h3
  injection h3 with h3
  injection h3 with h5 h6
  injection h5 with h5
  injection h5 with h5
  rw [h5]; exact h4
theorem okWith_parts {g : Gr} {l : List Int} (h : okWith g l = true) : goodB g = true ∧ l.length ≤ 16 ∧ NatL g l := by
  simp only [okWith, classesB, Bool.and_eq_true, decide_eq_true_eq] at h
  exact ⟨h.1, h.2.1, natL_of h.2.2⟩
set_option maxRecDepth 100000 in
set_option maxHeartbeats 2000000 in
theorem heirs_any (W0 : World) (g : Gr) (sa : Option Addr) (cap : Nat) (hl : (g.length : Int) ≤ 9223372036854775807) (hi : GrAt W0 sa g) (l : List Int) (la : Option Addr) (lc : Nat) (hll : (l.length : Int) ≤ 9223372036854775807) (hli : IntsAt W0 la l) (w : World) (hB : Below W0.heap.size W0 w) :
    Calls Try.prog 15 #[.slice sa g.length cap, .slice la l.length lc] w (LstP w.heap.size w (if okWith g l = true then listF (heirB g l) (3 + g.length) else []) (if okWith g l = true then 0 else 2)) := by
  have hop := openWith_any W0 g sa cap hl hi l la lc hll w hB (hli.below hB)
  have HOP := Lib.hid hop; have HLI := Lib.hid (hli.below hB); clear hop hi hB hli
  unfold LstP
  cases hok : okWith g l with
  | false =>
    rw [if_neg (by simp), if_neg (by simp)]
    go_enter Try.func15, Try.ntmps15
    go_wp2_with (go_at_call 46; refine HOP.out.mono ?_; (rintro e w2 ⟨hu, ⟨hb, _⟩ | ⟨_, rfl⟩⟩; (rw [hok] at hb; cases hb); have HU := Lib.hid hu; clear hu))
    go_ret2
    exact ⟨_, rfl, HU.out, Row.nil _ _ _⟩
  | true =>
    rw [if_pos rfl, if_pos rfl]
    obtain ⟨hg, h16, hn⟩ := okWith_parts hok
    have hlen := good_len hg
    have hlst := heirs_list hg l hn
    have hms := meetN_small (fun c => blN (absF (pars g)) (3 + g.length) c) l _ (blN_small (absF (pars g)) 0 (3 + g.length) (by omega))
    rw [← hlst]
    have HN := Lib.hid hn
    clear hlst hn
    go_enter Try.func15, Try.ntmps15
    go_wp2_with (first
      | (go_at_call 46; refine HOP.out.mono ?_; (rintro e w2 ⟨hu, ⟨_, O, rfl, hgr⟩ | ⟨hb, _⟩⟩; rotate_left; (rw [hok] at hb; cases hb); obtain ⟨Bk, hBk, q1, q2⟩ := hgr.belowAll; have HGR := Lib.hid hgr; have HQ2 := Lib.hid q2; have HU := Lib.hid hu; clear hu hgr q2))
      | (go_at_call 47; refine (common_any g hg O Bk _ (fun c => blN (absF (pars g)) (3 + g.length) c) (fun c => blN_small _ c _ (by omega)) l _ _ (by omega) HN.out _ HGR.out hBk HQ2.out (HLI.out.below HU.out)).mono ?_; rintro e w3 ⟨rfl, hu⟩; have HU3 := Lib.hid hu; clear hu)
      | (go_at_call 48; refine (list_any _ hms _).mono ?_; rintro e w4 ⟨v, rfl, hu, hr⟩; have HU4 := Lib.hid hu; have HR := Lib.hid hr; clear hu hr))
    go_ret2
    have hb3 : Below w.heap.size w w3 := HU.out.trans (HU3.out.mono HU.out.size)
    exact ⟨_, rfl, hb3.trans (HU4.out.mono hb3.size), HR.out.1, by rcases HR.out.2 with h | ⟨gg, cp, cur, h1, h2, h3⟩; exact .inl h; exact .inr ⟨gg, cp, cur, h1, Nat.le_trans hb3.size h2, h3⟩⟩
end Go.Proofs.Ytiohbfcjfdabmaa
namespace Go.Proofs.Ytiohbfcjfdabmaa
open Go.ChangeShapes Go.WideShapes Go.ChangeAt Go.RowKit Go.Ln Go.Fs
theorem guardSet : Try.prog.eqGuardType Try.prog.depth 69 = false := by kernel_rfl
theorem aEq_set (a b : Int) : Xm.aEqL Try.prog 12 69 (.agg #[.int .u64 a]) (.agg #[.int .u64 b]) = (match (some (a == b) : Option Bool) with | some true => some true | some false => some false | none => none) := by kernel_rfl
theorem eq_set (a b : Int) (w : World) : (Op.equalIn 10000 69 (.agg #[.int .u64 a]) (.agg #[.int .u64 b])).run Try.prog w = .ok (a == b) w := by
  have h : Xm.aEqL Try.prog 12 69 (.agg #[.int .u64 a]) (.agg #[.int .u64 b]) = some (a == b) := by
    rw [aEq_set]
    cases (a == b) <;> rfl
  exact Xm.aEqL_ok (e := Xm.e0 0) 12 10000 (by decide) _ _ _ _ _ _ w h (.agg (.cons (.int _ _) .nil)) (.agg (.cons (.int _ _) .nil))
end Go.Proofs.Ytiohbfcjfdabmaa
namespace Go.Proofs.Ytiohbfcjfdabmaa
open Go.ChangeShapes Go.WideShapes Go.ChangeAt Go.RowKit Go.Ln Go.Fs
theorem way1 {wr w5 w6 : World} {o : Obj} (h5 : Below wr.drew.heap.size wr.drew w5) (h6 : Below (w5.alloc o).heap.size (w5.alloc o) w6) : Below wr.heap.size wr w6 := by
  have hA : Below wr.heap.size wr w5 := ⟨h5.os, h5.tape, h5.output, h5.size, h5.block⟩
  have hB : Below w5.heap.size w5 w6 := ((Below.refl w5.heap.size w5).alloc (Nat.le_refl _) _).trans (h6.mono (by simp))
  exact hA.trans (hB.mono hA.size)
theorem way2 {wr w5 w6 : World} {o : Obj} (h5 : Below (wr.alloc o).drew.heap.size (wr.alloc o).drew w5) (h6 : Below w5.heap.size w5 w6) : Below wr.heap.size wr w6 := by
  have hA : Below (wr.alloc o).heap.size (wr.alloc o) w5 := ⟨h5.os, h5.tape, h5.output, h5.size, h5.block⟩
  have hA' : Below wr.heap.size wr w5 := ((Below.refl wr.heap.size wr).alloc (Nat.le_refl _) _).trans (hA.mono (by simp))
  exact hA'.trans (h6.mono hA'.size)
def RegL (S : World → Prop) (F : Option Addr → Act) : Exit → Act → World → Prop
  | .normal, a, w => ∃ z, a = F z ∧ S w
  | _, _, _ => False
theorem RegL.out {S : World → Prop} {F : Option Addr → Act} {Q : Exit → Act → World → Prop} (h : ∀ z w, S w → Q .normal (F z) w) (e : Exit) (a : Act) (w : World) (hm : RegL S F e a w) : Q e a w := by
  cases e <;> first | exact hm.elim | (obtain ⟨z, rfl, hs⟩ := hm; exact h z w hs)
theorem row_dis {B : Nat} {w : World} {t : TypeId} {v : Value} {l : List Value} {a : Option Addr} {n c : Nat} (h : Row B w t v l) (hv : v = .slice a n c) : ∀ b off, a = some ⟨b, off, none⟩ → B ≤ b := by
  intro b off e
  subst e
  rcases h.2 with ⟨h1, _⟩ | ⟨gg, cp, cur, h1, h2, _⟩
  · rw [hv] at h1; cases h1
  · rw [hv] at h1
    injection h1 with h1 _ _
    injection h1 with h1
    injection h1 with h1 _ _
    omega
theorem ints_set {w : World} {a : Option Addr} {l : List Int} {B o : Nat} {v : Value} (h : IntsAt w a l) (hd : ∀ b off, a = some ⟨b, off, none⟩ → B < b) : IntsAt (w.setCell ⟨B, o, none⟩ v) a l := by
  intro i x hx
  obtain ⟨b, off, h1, h2, h3⟩ := h i x hx
  have := hd b off h1
  refine ⟨b, off, h1, by simpa using h2, ?_⟩
  rw [World.cell?_setCell_other _ _ _ _ (by intro e; injection e with e1 e2; omega)]
  exact h3
def LeaRel (s : Nat) (p : Nat → Bool) (L : List Int) (w : World) (i : Value) (wr : World) : Prop :=
  ∃ k : Nat, k ≤ L.length ∧ i = .int .i64 k ∧ Below w.heap.size w wr ∧ w.heap.size + 2 < wr.heap.size ∧ wr.cell? ⟨w.heap.size, 0, none⟩ = some (.int .u64 (s : Nat)) ∧ wr.cell? ⟨w.heap.size + 2, 0, none⟩ = some (.int .u64 (outN p (L.take k) : Nat)) ∧ wr.frozen? ⟨w.heap.size + 2, 0, none⟩ = false ∧ wr.cell? ⟨w.heap.size + 1, 0, none⟩ = some (.int .u64 0) ∧ wr.frozen? ⟨w.heap.size + 1, 0, none⟩ = false
set_option maxRecDepth 100000 in
set_option maxHeartbeats 4000000 in
theorem least_any (g : Gr) (hg : goodB g = true) (O s : Nat) (hs : s < 524288) (hsn : ∀ b, s.testBit b = true → b < 3 + g.length) (w : World) (hgr : GraphAt w O g) :
    Calls Try.prog 51 #[.pointer (some ⟨O, 0, none⟩), SV s] w fun e w' => e = .returned (SV (outN (fun c => decide (s &&& blN (absF (pars g)) (3 + g.length) c = 2 ^ c)) (listM s))) ∧ Below w.heap.size w w' := by
  have hlen := good_len hg
  obtain ⟨Bk, hBk, q1, q2⟩ := hgr.belowAll
  have hOl : O < w.heap.size := cell_lt q1
  have hgd := guardSet
  have hLl := listM_length s
  have heq := eq_set
  have HQ2 := Lib.hid q2
  clear q2 hgr
  go_enter Try.func51, Try.ntmps51
  go_wp2_with (go_at_call 48; refine (list_any s hs _).mono ?_; rintro e w4 ⟨v, rfl, hu, hrl⟩; obtain ⟨aL, cL, hvL, hiL⟩ := hrl.ints; have hdl := row_dis hrl hvL; have HDL := Lib.hid hdl; clear hdl; subst hvL; have HU4 := Lib.hid hu; have HIL := Lib.hid hiL; clear hu hrl hiL)
  have hz4 := HU4.out.size
  simp at hz4
  have hzX : ∀ o1 o2 o3, (((w.alloc o1).alloc o2).alloc o3).heap.size = w.heap.size + 3 := fun _ _ _ => by simp
  have hc0 : w4.cell? ⟨w.heap.size, 0, none⟩ = some (.int .u64 (s : Nat)) := (HU4.out.cell (p := ⟨w.heap.size, 0, none⟩) (by show w.heap.size < _; rw [hzX]; omega)).trans (by first | (simp [go_sem]; done) | go_cell)
  have hc1 : w4.cell? ⟨w.heap.size + 1, 0, none⟩ = some (.int .u64 0) := (HU4.out.cell (p := ⟨w.heap.size + 1, 0, none⟩) (by show w.heap.size + 1 < _; rw [hzX]; omega)).trans (by first | (simp [go_sem]; done) | go_cell)
  have hc2 : w4.cell? ⟨w.heap.size + 2, 0, none⟩ = some (.int .u64 0) := (HU4.out.cell (p := ⟨w.heap.size + 2, 0, none⟩) (by show w.heap.size + 2 < _; rw [hzX]; omega)).trans (by first | (simp [go_sem]; done) | go_cell)
  have hf1 : w4.frozen? ⟨w.heap.size + 1, 0, none⟩ = false := (HU4.out.frozen (p := ⟨w.heap.size + 1, 0, none⟩) (by show w.heap.size + 1 < _; rw [hzX]; omega)).trans (by first | (simp [go_sem]; done) | go_cell)
  have hf2 : w4.frozen? ⟨w.heap.size + 2, 0, none⟩ = false := (HU4.out.frozen (p := ⟨w.heap.size + 2, 0, none⟩) (by show w.heap.size + 2 < _; rw [hzX]; omega)).trans (by first | (simp [go_sem]; done) | go_cell)
  go_loopw [11] (fun i wr => LeaRel s (fun c => decide (s &&& blN (absF (pars g)) (3 + g.length) c = 2 ^ c)) (listM s) w i wr ∧ IntsAt wr aL (listM s)) (fun i _ => (listM s).length - (intOf i).toNat)
  case atStart => exact ⟨⟨0, Nat.zero_le _, rfl, (by go_grown : Below w.heap.size w _).trans (HU4.out.mono (by simp; omega)), by omega, hc0, by simpa [outN] using hc2, hf2, hc1, hf1⟩, HIL.out⟩
  case round =>
    obtain ⟨⟨k, hk, rfl, hup, hsz, hb0, hbo, hfo, hr0, hfr0⟩, hints⟩ := hrel
    have hos := outN_small (fun c => decide (s &&& blN (absF (pars g)) (3 + g.length) c = 2 ^ c)) ((listM s).take k) (fun c hc => by obtain ⟨n, rfl, h1, _⟩ := listM_nat (List.mem_of_mem_take hc); simpa using h1)
    by_cases hlt : k < (listM s).length
    · obtain ⟨y, hy⟩ : ∃ y, (listM s)[k]? = some y := ⟨(listM s)[k], List.getElem?_eq_getElem hlt⟩
      obtain ⟨cn, rfl, hcn, hcb⟩ := listM_nat (List.mem_of_getElem? hy)
      have hcnn := hsn cn hcb
      obtain ⟨b, off, rfl, hb, hyc⟩ := hints k _ hy
      have hbel := (hup.cell (p := ⟨Bk, cn, none⟩) hBk).trans (HQ2.out cn hcnn)
      have q1' := (hup.cell (p := ⟨O, 2, none⟩) hOl).trans q1
      have hzr := hup.size
      have hes := blN_small (absF (pars g)) cn (3 + g.length) (by omega)
      have hnx : outN (fun c => decide (s &&& blN (absF (pars g)) (3 + g.length) c = 2 ^ c)) ((listM s).take (k + 1)) = if decide (s &&& blN (absF (pars g)) (3 + g.length) cn = 2 ^ cn) = true then outN (fun c => decide (s &&& blN (absF (pars g)) (3 + g.length) c = 2 ^ c)) ((listM s).take k) ||| 2 ^ cn else outN (fun c => decide (s &&& blN (absF (pars g)) (3 + g.length) c = 2 ^ c)) ((listM s).take k) := by rw [take_snocI _ k _ hy, outN_snoc]; simp
      generalize hE : blN (absF (pars g)) (3 + g.length) cn = E at *
      generalize hN : outN (fun c => decide (s &&& blN (absF (pars g)) (3 + g.length) c = 2 ^ c)) ((listM s).take k) = N at *
      have hms : maskL [(cn : Int)] = 2 ^ cn := by simp [maskL]
      have hcnt : ((cn : Int)).toNat = cn := by omega
      have HNX := Lib.hid hnx; have HUP := Lib.hid hup; have HINT := Lib.hid hints
      clear hnx hup hints hy hE hN
      go_wp2
      have hOr : O < wr.heap.size := Nat.lt_of_lt_of_le hOl hzr
      have hBr : Bk < wr.heap.size := Nat.lt_of_lt_of_le hBk hzr
      have hXr : w.heap.size < wr.heap.size := by omega
      have KS : RowKit.Hid (∀ w', Below wr.heap.size wr w' → (w'.cell? ⟨w.heap.size, 0, none⟩ = some (.int .u64 (s : Nat)) ∧ w'.cell? ⟨O, 2, none⟩ = some (.slice (some ⟨Bk, 0, none⟩) (3 + g.length) (3 + g.length)) ∧ w'.cell? ⟨Bk, cn, none⟩ = some (.int .u64 (E : Nat)))) := Lib.hid (fun w' hq => ⟨(hq.cell (p := ⟨w.heap.size, 0, none⟩) hXr).trans hb0, (hq.cell (p := ⟨O, 2, none⟩) hOr).trans q1', (hq.cell (p := ⟨Bk, cn, none⟩) hBr).trans hbel⟩)
      have HB := Lib.hid (Below.refl wr.heap.size wr)
      have hcnI : (cn : Int) < 3 + (g.length : Int) := by omega
      have hcnJ : (cn : Int) < ((3 + g.length : Nat) : Int) := by omega
      apply Code.wp_mono (Q := RegL (fun w6 => Below wr.heap.size wr w6) _)
      rotate_left
      · go_region_held3 (fun w' => w'.cell? ⟨w.heap.size, 0, none⟩ = some (.int .u64 (s : Nat)) ∧ w'.cell? ⟨O, 2, none⟩ = some (.slice (some ⟨Bk, 0, none⟩) (3 + g.length) (3 + g.length)) ∧ w'.cell? ⟨Bk, cn, none⟩ = some (.int .u64 (E : Nat))) (first | exact KS.out _ HB.out | exact KS.out _ (HB.out.drew) | exact KS.out _ (HB.out.alloc HB.out.size _) | exact KS.out _ ((HB.out.alloc HB.out.size _).drew) | exact KS.out _ ((HB.out.drew).alloc HB.out.size _)) (first
          | (go_at_call 69; refine (meet_any s E hs hes _).mono ?_; rintro e w5 ⟨rfl, hu5⟩; have HB := Lib.hid (show Below wr.heap.size wr w5 from by first | exact (HB.out.drew).trans (hu5.mono HB.out.drew.size) | exact ((HB.out.alloc HB.out.size _).drew).trans (hu5.mono (HB.out.alloc HB.out.size _).size)))
          | (go_at_call 68; (first | (refine (setOf_any _ [(cn : Int)] (some ⟨_, 0, none⟩) 1 (by simp) (ints1 _ _) (by intro p hp; simp at hp; omega) _ (Below.refl _ _)).mono ?_; rintro e w6 ⟨rfl, hu6⟩; rw [hms]; have HB := Lib.hid (show Below wr.heap.size wr w6 from (HB.out.alloc HB.out.size _).trans (hu6.mono (HB.out.alloc HB.out.size _).size)); have hz0 : ∃ z, z = (some ⟨w5.heap.size, 0, none⟩ : Option Addr) := ⟨_, rfl⟩; clear hu5 hu6) | (refine (setOf_any (wr.alloc (.cells #[.int .i64 (cn : Int)] 3)) [(cn : Int)] (some ⟨wr.heap.size, 0, none⟩) 1 (by simp) (ints1 wr cn) (by intro p hp; simp at hp; omega) _ ⟨hu5.os, hu5.tape, hu5.output, hu5.size, hu5.block⟩).mono ?_; rintro e w6 ⟨rfl, hu6⟩; rw [hms]; have HB := Lib.hid (show Below wr.heap.size wr w6 from HB.out.trans (hu6.mono HB.out.size)); have hz0 : ∃ z, z = (some ⟨wr.heap.size, 0, none⟩ : Option Addr) := ⟨_, rfl⟩; clear hu5 hu6))))
        all_goals obtain ⟨z, hz⟩ := hz0
        all_goals rw [← hz]
        all_goals exact ⟨z, rfl, HB.out⟩
      refine RegL.out ?_
      intro z w6 huz
      have hX2 : w.heap.size + 2 < wr.heap.size := hsz
      have hX1 : w.heap.size + 1 < wr.heap.size := Nat.lt_of_succ_lt hX2
      have hc5 := (huz.cell (p := ⟨w.heap.size + 2, 0, none⟩) hX2).trans hbo
      have hf5 := (huz.frozen (p := ⟨w.heap.size + 2, 0, none⟩) hX2).trans hfo
      have hb5 := (huz.cell (p := ⟨w.heap.size, 0, none⟩) hXr).trans hb0
      have hr5 := (huz.cell (p := ⟨w.heap.size + 1, 0, none⟩) hX1).trans hr0
      have hg5 := (huz.frozen (p := ⟨w.heap.size + 1, 0, none⟩) hX1).trans hfr0
      have hz5 := huz.size
      have HUZ := Lib.hid huz
      clear huz hbo hfo hb0 hr0 hfr0 hyc hbel q1' hc0 hc1 hc2 hf1 hf2 hz4 hzX q1
      have hq : (((s &&& E : Nat) : Int) == (2 : Int) ^ cn) = decide (s &&& E = 2 ^ cn) := by
        rw [Bool.eq_iff_iff, beq_iff_eq, decide_eq_true_eq]
        have : ((2 ^ cn : Nat) : Int) = (2 : Int) ^ cn := by simp
        rw [← this]; omega
      rw [hq]
      by_cases hse : s &&& E = 2 ^ cn
      · rw [decide_eq_true hse]
        go_wp2_with (go_at_call 71; refine (with_any N hos (cn : Int) (by omega) (by omega) _).mono ?_; rintro e w7 ⟨rfl, hu⟩; have hz7 := hu.size; have hc7 := (hu.cell (p := ⟨w.heap.size + 2, 0, none⟩) (by show w.heap.size + 2 < _; omega)).trans hc5; have hf7 := (hu.frozen (p := ⟨w.heap.size + 2, 0, none⟩) (by show w.heap.size + 2 < _; omega)).trans hf5; have hb7 := (hu.cell (p := ⟨w.heap.size, 0, none⟩) (by show w.heap.size < _; omega)).trans hb5; have hr7 := (hu.cell (p := ⟨w.heap.size + 1, 0, none⟩) (by show w.heap.size + 1 < _; omega)).trans hr5; have hg7 := (hu.frozen (p := ⟨w.heap.size + 1, 0, none⟩) (by show w.heap.size + 1 < _; omega)).trans hg5; have HU7 := Lib.hid hu; clear hu)
        have hb67 : Below wr.heap.size wr w7 := HUZ.out.trans (HU7.out.mono hz5)
        refine ⟨⟨⟨k + 1, by omega, by go_num, ?_, ?_, ?_, ?_, ?_, ?_, ?_⟩, ?_⟩, by simp [intOf]; omega⟩
        · exact (HUP.out.trans (hb67.mono HUP.out.size)).setCell (by show w.heap.size ≤ w.heap.size + 1 + 1; omega) _
        · simp; omega
        · rw [World.cell?_setCell_other _ _ _ _ (by intro e; injection e with e1 e2; omega)]; exact hb7
        · rw [HNX.out, if_pos (decide_eq_true hse)]; simp [World.cell?_setCell_same, hc7]
        · simp [hf7]
        · rw [World.cell?_setCell_other _ _ _ _ (by intro e; injection e with e1 e2; omega)]; exact hr7
        · simp [hg7]
        · exact ints_set (HINT.out.below hb67) (fun b' off' e => by have h1 := HDL.out b' off' e; simp at h1; omega)
      · rw [decide_eq_false hse]
        go_wp2
        refine ⟨⟨⟨k + 1, by omega, by go_num, HUP.out.trans (HUZ.out.mono HUP.out.size), by omega, hb5, ?_, hf5, hr5, hg5⟩, HINT.out.below HUZ.out⟩, by simp [intOf]; omega⟩
        rw [HNX.out, if_neg (by rw [decide_eq_false hse]; simp)]; exact hc5
    · obtain rfl : k = (listM s).length := by omega
      rw [List.take_length] at hbo
      go_wp2
      refine bodyPost_ret (by simp [results, Try.results51, go_sem, World.cell?_setCell_same, hr0]; try rfl) rfl ?_
      exact ⟨rfl, hup.setCell (by simp) _⟩
end Go.Proofs.Ytiohbfcjfdabmaa
namespace Go.Proofs.Ytiohbfcjfdabmaa
open Go.ChangeShapes Go.WideShapes Go.ChangeAt Go.RowKit Go.Ln Go.Fs
theorem GraphAt.below {w w' : World} {O : Nat} {g : Gr} (h : GraphAt w O g) (hb : Below w.heap.size w w') : GraphAt w' O g := by
  obtain ⟨v0, vA, v3, Bk, ho, hr, hbl⟩ := h
  exact ⟨v0, vA, v3, Bk, ho.below hb, hr.below hb, hbl.below hb⟩
set_option maxRecDepth 100000 in
set_option maxHeartbeats 2000000 in
theorem leastL_any (W0 : World) (g : Gr) (sa : Option Addr) (cap : Nat) (hl : (g.length : Int) ≤ 9223372036854775807) (hi : GrAt W0 sa g) (l : List Int) (la : Option Addr) (lc : Nat) (hll : (l.length : Int) ≤ 9223372036854775807) (hli : IntsAt W0 la l) (w : World) (hB : Below W0.heap.size W0 w) :
    Calls Try.prog 17 #[.slice sa g.length cap, .slice la l.length lc] w (LstP w.heap.size w (if okWith g l = true then listF (leastB g l) (3 + g.length) else []) (if okWith g l = true then 0 else 2)) := by
  have hop := openWith_any W0 g sa cap hl hi l la lc hll w hB (hli.below hB)
  have HOP := Lib.hid hop; have HLI := Lib.hid (hli.below hB); clear hop hi hB hli
  unfold LstP
  cases hok : okWith g l with
  | false =>
    rw [if_neg (by simp), if_neg (by simp)]
    go_enter Try.func17, Try.ntmps17
    go_wp2_with (go_at_call 46; refine HOP.out.mono ?_; (rintro e w2 ⟨hu, ⟨hb, _⟩ | ⟨_, rfl⟩⟩; (rw [hok] at hb; cases hb); have HU := Lib.hid hu; clear hu))
    go_ret2
    exact ⟨_, rfl, HU.out, Row.nil _ _ _⟩
  | true =>
    rw [if_pos rfl, if_pos rfl]
    obtain ⟨hg, h16, hn⟩ := okWith_parts hok
    have hlen := good_len hg
    have hms := meetN_small (fun c => abM g c) l _ (blN_small (absF (pars g)) 0 (3 + g.length) (by omega))
    have hsn : ∀ b, (meetN (blN (absF (pars g)) (3 + g.length) 0) (fun c => abM g c) l).testBit b = true → b < 3 + g.length := fun b hb => by
      rw [over_bit hg l hn b] at hb
      simp only [Bool.and_eq_true, decide_eq_true_eq] at hb
      exact hb.1
    have hlst := least_list hg l hn _ rfl
    have HN := Lib.hid hn
    clear hn
    generalize hS : meetN (blN (absF (pars g)) (3 + g.length) 0) (fun c => abM g c) l = s at *
    have hos := outN_small (fun c => decide (s &&& blN (absF (pars g)) (3 + g.length) c = 2 ^ c)) (listM s) (fun c hc => by obtain ⟨n, rfl, h1, _⟩ := listM_nat hc; simpa using h1)
    rw [← hlst]
    have HS := Lib.hid hS; have HSN := Lib.hid hsn
    clear hlst hS hsn
    go_enter Try.func17, Try.ntmps17
    go_wp2_with (first
      | (go_at_call 46; refine HOP.out.mono ?_; (rintro e w2 ⟨hu, ⟨_, O, rfl, hgr⟩ | ⟨hb, _⟩⟩; rotate_left; (rw [hok] at hb; cases hb); obtain ⟨gA, cA, hBk, q1, q2⟩ := hgr.aboveAll; have HGR := Lib.hid hgr; have HQ2 := Lib.hid q2; have HU := Lib.hid hu; clear hu hgr q2))
      | (go_at_call 47; refine (common_any g hg O gA _ (fun c => abM g c) (fun c => abM_small hg c) l _ _ (by omega) HN.out _ HGR.out hBk HQ2.out (HLI.out.below HU.out)).mono ?_; rintro e w3 ⟨rfl, hu⟩; rw [HS.out]; have HU3 := Lib.hid hu; clear hu)
      | (go_at_call 51; refine (least_any g hg O s hms HSN.out _ (HGR.out.below HU3.out)).mono ?_; rintro e w5 ⟨rfl, hu⟩; have HU5 := Lib.hid hu; clear hu)
      | (go_at_call 48; refine (list_any _ hos _).mono ?_; rintro e w4 ⟨v, rfl, hu, hr⟩; have HU4 := Lib.hid hu; have HR := Lib.hid hr; clear hu hr))
    go_ret2
    have hb3 : Below w.heap.size w w3 := HU.out.trans (HU3.out.mono HU.out.size)
    have hb5 : Below w.heap.size w w5 := hb3.trans (HU5.out.mono hb3.size)
    exact ⟨_, rfl, hb5.trans (HU4.out.mono hb5.size), HR.out.1, by rcases HR.out.2 with h | ⟨gg, cp, cur, h1, h2, h3⟩; exact .inl h; exact .inr ⟨gg, cp, cur, h1, Nat.le_trans hb5.size h2, h3⟩⟩
end Go.Proofs.Ytiohbfcjfdabmaa
namespace Go.Proofs.Ytiohbfcjfdabmaa
open Go.ChangeShapes Go.WideShapes Go.ChangeAt Go.RowKit Go.Ln Go.Fs
set_option maxRecDepth 100000 in
set_option maxHeartbeats 4000000 in
theorem rleastOf_any (W0 : World) (g : Gr) (sa : Option Addr) (cap : Nat) (hg : goodB g = true) (hi : GrAt W0 sa g) (l : List Int) (la : Option Addr) (lc : Nat) (hl : (l.length : Int) ≤ 1000) (hn : NatL g l) (hli : IntsAt W0 la l) (w : World) (hB : Below W0.heap.size W0 w) :
    Calls Try.prog 52 #[.slice sa g.length cap, .slice la l.length lc] w fun e w' => ∃ v, e = .returned v ∧ Below w.heap.size w w' ∧ Row w.heap.size w' 3 v (ints (listF (leastB g l) (3 + g.length))) := by
  have hlen := good_len hg
  have HI := Lib.hid hi; clear hi
  have HLI := Lib.hid hli; clear hli
  have HB := Lib.hid hB; clear hB
  have HN := Lib.hid hn; clear hn
  have hfin := least_filter g l
  have HFIN := Lib.hid hfin; clear hfin
  have hw3 : IntKind.i64.wrap (3 + (g.length : Int)) = 3 + (g.length : Int) := by rw [IntKind.wrap_i64]; omega
  go_enter Try.func52, Try.ntmps52
  go_wp2
  go_loopw [5, 7] (fun v i wr => ∃ k : Nat, k ≤ 3 + g.length ∧ i = .int .i64 k ∧ Below w.heap.size w wr ∧ Row w.heap.size wr 3 v (ints (listF (overB g l) k))) (fun _ i _ => 3 + g.length - (intOf i).toNat)
  case atStart => exact ⟨0, by omega, rfl, Below.refl _ _, Row.nil _ _ _⟩
  case round =>
    obtain ⟨k, hk, rfl, hup, hrow⟩ := hrel
    have HUP := Lib.hid hup; have HR := Lib.hid hrow
    clear hup hrow
    by_cases hlt : (k : Int) < 3 + (g.length : Int)
    · have hlen2 := listF_length (overB g l) k
      have hsu := listF_succ (overB g l) k
      have HSU := Lib.hid hsu; clear hsu
      go_wp2
      go_loopw [8, 9] (fun is i wr2 => ∃ m : Nat, m ≤ l.length ∧ i = .int .i64 m ∧ is = .bool (overB g (l.take m) k) ∧ Below wr.heap.size wr wr2) (fun _ i _ => l.length - (intOf i).toNat)
      case atStart => exact ⟨0, Nat.zero_le _, rfl, rfl, Below.refl _ _⟩
      case round =>
        obtain ⟨m, hm, rfl, rfl, hup2⟩ := hrel
        have HUP2 := Lib.hid hup2
        have hz := HUP.out.size
        have hBw2 := (HB.out.trans (HUP.out.mono HB.out.size))
        have hBr := hBw2.trans (hup2.mono hBw2.size)
        have HBR := Lib.hid hBr
        clear hup2 hBw2
        by_cases hlt2 : m < l.length
        · obtain ⟨y, hy⟩ : ∃ y, l[m]? = some y := ⟨l[m], List.getElem?_eq_getElem hlt2⟩
          obtain ⟨b, off, rfl, hb, hc⟩ := HLI.out.below hBr m y hy
          obtain ⟨yn, rfl, hyn⟩ := HN.out y (List.mem_of_getElem? hy)
          have hnx : overB g (l.take (m + 1)) k = (overB g (l.take m) k && belowR g yn k) := by
            unfold overB
            rw [take_snocI l m _ hy, List.all_append]; simp
          have HNX := Lib.hid hnx
          clear hnx hy hBr
          cases his : overB g (l.take m) k with
          | true =>
            have HIS := Lib.hid his; clear his
            go_wp2_with (go_at_call 73; refine (belowOf_any W0 g _ _ hg HI.out yn k hyn (by omega) _ HBR.out).mono ?_; rintro e w3 ⟨rfl, hu⟩; have HU := Lib.hid hu; clear hu)
            exact ⟨⟨m + 1, by omega, by go_num, by rw [HNX.out, HIS.out]; rfl, HUP2.out.trans (HU.out.mono HUP2.out.size)⟩, by simp [intOf]; omega⟩
          | false =>
            have HIS := Lib.hid his; clear his
            go_wp2
            exact ⟨⟨m + 1, by omega, by go_num, by rw [HNX.out, HIS.out]; rfl, HUP2.out⟩, by simp [intOf]; omega⟩
        · obtain rfl : m = l.length := by omega
          cases his : overB g (l.take l.length) k with
          | true =>
            have his2 : overB g l k = true := by rw [List.take_length] at his; exact his
            have HIS := Lib.hid his2
            go_wp2_with (at_builtin; apply wpList_app TI (B := w.heap.size) (xs := ints (listF (overB g l) k)) (g := _) (c := 1) (y := .int .i64 (k : Int)) (ho := rfl) (hgd := rfl) (hty := rfl) (hs := rfl) (hx := rfl); (case hr => exact World.ownsRow.alloc (HR.out.below HUP2.out) _); (case hB => have := HUP2.out.size; have := HUP.out.size; simp; omega); (case hy => simp); (case h1 => rfl); (case hb => simp [ints]; omega); intro v2 w3 hg3)
            have hr2 : Row w.heap.size (wr.alloc (.cells #[.int .i64 (k : Int)] 3)) 3 _ (ints (listF (overB g l) k)) := World.ownsRow.alloc (HR.out.below HUP2.out) _
            have hz2 := HUP2.out.size
            have hb2 : Below w.heap.size (wr.alloc (.cells #[.int .i64 (k : Int)] 3)) w3 := hg3.below hr2 (by omega) (by simp; omega)
            have hb3 : Below w.heap.size w (wr.alloc (.cells #[.int .i64 (k : Int)] 3)) := (HUP.out.trans (HUP2.out.mono HUP.out.size)).alloc (by omega) _
            refine ⟨⟨k + 1, by omega, by go_num, hb3.trans hb2, ?_⟩, by simp [intOf]; omega⟩
            have := hg3.own
            rw [HSU.out, if_pos HIS.out, ints_snoc]; exact this
          | false =>
            have his2 : overB g l k = false := by rw [List.take_length] at his; exact his
            have HIS := Lib.hid his2
            go_wp2
            refine ⟨⟨k + 1, by omega, by go_num, HUP.out.trans (HUP2.out.mono HUP.out.size), ?_⟩, by simp [intOf]; omega⟩
            rw [HSU.out, if_neg (by rw [HIS.out]; simp)]
            exact HR.out.below HUP2.out
    · obtain rfl : k = 3 + g.length := by omega
      obtain ⟨wX, hwX⟩ : ∃ x, x = wr := ⟨wr, rfl⟩
      subst hwX
      have hCm : ∀ x ∈ listF (overB g l) (3 + g.length), ∃ c : Nat, x = (c : Int) ∧ c < 3 + g.length := fun x hx => by
        obtain ⟨c, h1, h2, _⟩ := listF_mem hx
        exact ⟨c, h1, h2⟩
      have hCn := listF_nodup (overB g l) (3 + g.length)
      have hCl := listF_length (overB g l) (3 + g.length)
      obtain ⟨aC, cC, hvC, hiC⟩ := HR.out.ints
      subst hvC
      have hfin := HFIN.out
      generalize listF (overB g l) (3 + g.length) = C at *
      have HIC := Lib.hid hiC; have HCM := Lib.hid hCm; have HCN := Lib.hid hCn; have HF := Lib.hid hfin
      clear hiC hCm hCn hfin HR HFIN
      have hz := HUP.out.size
      go_wp2
      go_loopw [6, 10] (fun v2 i wr2 => ∃ j : Nat, j ≤ C.length ∧ i = .int .i64 j ∧ Below wX.heap.size wX wr2 ∧ Row wX.heap.size wr2 3 v2 (ints ((C.take j).filter (minB g C)))) (fun _ i _ => C.length - (intOf i).toNat)
      case atStart => exact ⟨0, by omega, rfl, Below.refl _ _, Row.nil _ _ _⟩
      case round =>
        obtain ⟨j, hj, rfl, hup, hrow⟩ := hrel
        obtain ⟨wY, hwY⟩ : ∃ x, x = wr := ⟨wr, rfl⟩
        subst hwY
        have HUP1 := Lib.hid hup; have HR := Lib.hid hrow
        have hz1 := hup.size
        clear hup hrow
        by_cases hltj : j < C.length
        · obtain ⟨cv, hcv⟩ : ∃ y, C[j]? = some y := ⟨C[j], List.getElem?_eq_getElem hltj⟩
          obtain ⟨cn, rfl, hcn⟩ := HCM.out cv (List.mem_of_getElem? hcv)
          have HCV := Lib.hid hcv
          have hsn := filter_snoc (minB g C) C j _ hcv
          have HSN := Lib.hid hsn
          have hfl : ((C.take j).filter (minB g C)).length ≤ C.length := Nat.le_trans (List.length_filter_le _ _) (by simp; omega)
          clear hcv hsn
          go_wp2
          go_loopw [11, 12] (fun is i wr3 => ∃ m : Nat, m ≤ C.length ∧ i = .int .i64 m ∧ is = .bool (minB g (C.take m) (cn : Int)) ∧ Below wY.heap.size wY wr3) (fun _ i _ => C.length - (intOf i).toNat)
          case atStart => exact ⟨0, Nat.zero_le _, rfl, rfl, Below.refl _ _⟩
          case round =>
            obtain ⟨m, hm, rfl, rfl, hup2⟩ := hrel
            have HUP2 := Lib.hid hup2
            have hb23 : Below wX.heap.size wX wr := HUP1.out.trans (hup2.mono HUP1.out.size)
            have hbw3 : Below w.heap.size w wr := HUP.out.trans (hb23.mono HUP.out.size)
            have hB3 := HB.out.trans (hbw3.mono HB.out.size)
            have HB3 := Lib.hid hB3
            have hic3 := HIC.out.below hb23
            clear hup2 hB3 hbw3
            obtain ⟨b2, off2, haC, hbb2, hcc2⟩ := hic3 j _ HCV.out
            subst haC
            by_cases hltm : m < C.length
            · obtain ⟨xv, hxv⟩ : ∃ y, C[m]? = some y := ⟨C[m], List.getElem?_eq_getElem hltm⟩
              obtain ⟨xn, rfl, hxn⟩ := HCM.out xv (List.mem_of_getElem? hxv)
              obtain ⟨b3, off3, hb3e, hbb3, hcc3⟩ := hic3 m _ hxv
              injection hb3e with hb3e
              injection hb3e with hb3e hb4e _
              subst hb3e
              subst hb4e
              have hnx : minB g (C.take (m + 1)) (cn : Int) = (minB g (C.take m) (cn : Int) && (decide ((m : Int) = (j : Int)) || !(belowR g xn cn))) := by
                rw [take_snocI C m _ hxv, minB_snoc, nodup_idx HCN.out hxv HCV.out]; simp
              have HNX := Lib.hid hnx
              have KS : RowKit.Hid (∀ w', Below wr.heap.size wr w' → (w'.cell? ⟨b2, off2 + m, none⟩ = some (.int .i64 (xn : Int)) ∧ w'.cell? ⟨b2, off2 + j, none⟩ = some (.int .i64 (cn : Int)))) := Lib.hid (fun w' hq => ⟨(hq.cell (p := ⟨b2, off2 + m, none⟩) hbb2).trans hcc3, (hq.cell (p := ⟨b2, off2 + j, none⟩) hbb2).trans hcc2⟩)
              have HBW := Lib.hid (Below.refl wr.heap.size wr)
              clear hnx hxv hb23 hic3
              cases his : minB g (C.take m) (cn : Int) with
              | true =>
                have HIS := Lib.hid his; clear his
                by_cases hmj : (m : Int) = (j : Int)
                · obtain rfl : m = j := by omega
                  have hdm : decide ((m : Int) = (m : Int)) = true := decide_eq_true rfl
                  have HX : Hid (decide ((m : Int) = (m : Int)) = true) := Lib.hid (decide_eq_true rfl)
                  go_wp2_with fail
                  go_quiet (fail)
                  all_goals go_wp2_with fail
                  all_goals exact ⟨⟨m + 1, by omega, by go_num, by rw [HNX.out, HIS.out]; simp, HUP2.out.trans ((below_drewN _ _).mono HUP2.out.size)⟩, by simp [intOf]; omega⟩
                · have hdm : decide ((m : Int) = (j : Int)) = false := decide_eq_false hmj
                  have hbq : ((m : Int) == (j : Int)) = false := by rw [beq_eq_false_iff_ne]; exact hmj
                  go_wp2_with fail
                  go_region_held3 (fun w' => w'.cell? ⟨b2, off2 + m, none⟩ = some (.int .i64 (xn : Int)) ∧ w'.cell? ⟨b2, off2 + j, none⟩ = some (.int .i64 (cn : Int))) (first | exact KS.out _ HBW.out | exact KS.out _ (HBW.out.drew)) (first | (go_at_call 73; refine (belowOf_any W0 g _ _ hg HI.out xn cn hxn hcn _ (by first | exact HB3.out | exact HB3.out.drew)).mono ?_; rintro e w3 ⟨rfl, hu⟩; have HBW := Lib.hid (show Below wr.heap.size wr w3 from by first | exact HBW.out.trans (hu.mono HBW.out.size) | exact HBW.out.drew.trans (hu.mono HBW.out.drew.size)); clear hu))
                  all_goals go_wp2_with fail
                  all_goals exact ⟨⟨m + 1, by omega, by go_num, by rw [HNX.out, HIS.out, decide_eq_false hmj, Bool.false_or, Bool.true_and], HUP2.out.trans (HBW.out.mono HUP2.out.size)⟩, by simp [intOf]; omega⟩
              | false =>
                have HIS := Lib.hid his; clear his
                go_wp2_with fail
                go_quiet (fail)
                all_goals go_wp2_with fail
                all_goals exact ⟨⟨m + 1, by omega, by go_num, by rw [HNX.out, HIS.out]; rfl, HUP2.out.trans ((below_drewN _ _).mono HUP2.out.size)⟩, by simp [intOf]; omega⟩
            · obtain rfl : m = C.length := by omega
              have hz3 := HUP2.out.size
              cases his : minB g (C.take C.length) (cn : Int) with
              | true =>
                have his2 : minB g C (cn : Int) = true := by rw [List.take_length] at his; exact his
                have HIS := Lib.hid his2
                go_wp2_with (at_builtin; apply wpList_app TI (B := wX.heap.size) (xs := ints ((C.take j).filter (minB g C))) (g := _) (c := 1) (y := .int .i64 (cn : Int)) (ho := rfl) (hgd := rfl) (hty := rfl) (hs := rfl) (hx := rfl); (case hr => exact World.ownsRow.alloc (HR.out.below HUP2.out) _); (case hB => simp; omega); (case hy => simp); (case h1 => rfl); (case hb => simp [ints]; omega); intro v2 w3 hg3)
                have hr2 : Row wX.heap.size (wr.alloc (.cells #[.int .i64 (cn : Int)] 3)) 3 _ (ints ((C.take j).filter (minB g C))) := World.ownsRow.alloc (HR.out.below HUP2.out) _
                have hb2 : Below wX.heap.size (wr.alloc (.cells #[.int .i64 (cn : Int)] 3)) w3 := hg3.below hr2 (by omega) (by simp; omega)
                have hb3 : Below wX.heap.size wX (wr.alloc (.cells #[.int .i64 (cn : Int)] 3)) := hb23.alloc (by omega) _
                refine ⟨⟨j + 1, by omega, by go_num, hb3.trans hb2, ?_⟩, by simp [intOf]; omega⟩
                have := hg3.own
                rw [HSN.out, if_pos HIS.out, ints_snoc]; exact this
              | false =>
                have his2 : minB g C (cn : Int) = false := by rw [List.take_length] at his; exact his
                have HIS := Lib.hid his2
                go_wp2
                refine ⟨⟨j + 1, by omega, by go_num, hb23, ?_⟩, by simp [intOf]; omega⟩
                rw [HSN.out, if_neg (by rw [HIS.out]; simp), List.append_nil]
                exact HR.out.below HUP2.out
        · obtain rfl : j = C.length := by omega
          go_wp2
          go_ret
          refine ⟨_, rfl, HUP.out.trans (HUP1.out.mono HUP.out.size), ?_⟩
          have h := HR.out
          rw [List.take_length, HF.out] at h
          exact ⟨h.1, by rcases h.2 with h | ⟨gg, cp, cur, h1, h2, h3⟩; exact .inl h; exact .inr ⟨gg, cp, cur, h1, Nat.le_trans hz h2, h3⟩⟩
end Go.Proofs.Ytiohbfcjfdabmaa
namespace Go.Proofs.Ytiohbfcjfdabmaa
open Go.ChangeShapes Go.WideShapes Go.ChangeAt Go.RowKit Go.Ln Go.Fs
set_option maxRecDepth 100000 in
set_option maxHeartbeats 4000000 in
theorem rleast_any (W0 : World) (g : Gr) (sa : Option Addr) (cap : Nat) (hl : (g.length : Int) ≤ 9223372036854775807) (hi : GrAt W0 sa g) (l : List Int) (la : Option Addr) (lc : Nat) (hll : (l.length : Int) ≤ 9223372036854775807) (hli : IntsAt W0 la l) (w : World) (hB : Below W0.heap.size W0 w) :
    Calls Try.prog 18 #[.slice sa g.length cap, .slice la l.length lc] w (LstP w.heap.size w (if okWith g l = true then listF (leastB g l) (3 + g.length) else []) (if okWith g l = true then 0 else 2)) := by
  have HI := Lib.hid hi; clear hi
  have HLI := Lib.hid hli; clear hli
  have HB := Lib.hid hB; clear hB
  unfold LstP okWith
  cases hg : goodB g with
  | false =>
    rw [if_neg (by simp), if_neg (by simp)]
    have HG := Lib.hid hg; clear hg
    go_enter Try.func18, Try.ntmps18
    go_wp2_with (go_at_call 36; refine (rgood_any W0 g _ _ hl HI.out _ HB.out).mono ?_; rintro e w2 ⟨rfl, hu⟩; rw [HG.out]; have HU := Lib.hid hu; clear hu)
    go_ret2
    exact ⟨_, rfl, HU.out, Row.nil _ _ _⟩
  | true =>
    have hlen := good_len hg
    have HG := Lib.hid hg; clear hg
    cases hc : classesB g l with
    | false =>
      rw [if_neg (by simp), if_neg (by simp)]
      have HC := Lib.hid hc; clear hc
      go_enter Try.func18, Try.ntmps18
      go_wp2_with (first
        | (go_at_call 36; refine (rgood_any W0 g _ _ hl HI.out _ HB.out).mono ?_; rintro e w2 ⟨rfl, hu⟩; rw [HG.out]; have HU := Lib.hid hu; clear hu)
        | (go_at_call 49; refine (classes_any g _ _ (by omega) l _ _ hll _ (HLI.out.below (HB.out.trans (HU.out.mono HB.out.size)))).mono ?_; rintro e w3 ⟨rfl, rfl⟩; rw [HC.out]))
      go_ret2
      exact ⟨_, rfl, HU.out, Row.nil _ _ _⟩
    | true =>
      rw [if_pos (by simp), if_pos (by simp)]
      have hcc := hc
      simp only [classesB, Bool.and_eq_true, decide_eq_true_eq] at hcc
      have hn := natL_of hcc.2
      have h16 := hcc.1
      have HN := Lib.hid hn
      have HC := Lib.hid hc; clear hc hcc hn
      go_enter Try.func18, Try.ntmps18
      go_wp2_with (first
        | (go_at_call 36; refine (rgood_any W0 g _ _ hl HI.out _ HB.out).mono ?_; rintro e w2 ⟨rfl, hu⟩; rw [HG.out]; have HU := Lib.hid hu; clear hu)
        | (go_at_call 49; refine (classes_any g _ _ (by omega) l _ _ hll _ (HLI.out.below (HB.out.trans (HU.out.mono HB.out.size)))).mono ?_; rintro e w3 ⟨rfl, rfl⟩; rw [HC.out])
        | (go_at_call 52; refine (rleastOf_any W0 g _ _ HG.out HI.out l _ _ (by omega) HN.out HLI.out _ (HB.out.trans (HU.out.mono HB.out.size))).mono ?_; rintro e w4 ⟨v, rfl, hu, hr⟩; have HU4 := Lib.hid hu; have HR := Lib.hid hr; clear hu hr))
      go_ret2
      exact ⟨_, rfl, HU.out.trans (HU4.out.mono HU.out.size), HR.out.1, by rcases HR.out.2 with h | ⟨gg, cp, cur, h1, h2, h3⟩; exact .inl h; exact .inr ⟨gg, cp, cur, h1, Nat.le_trans HU.out.size h2, h3⟩⟩
end Go.Proofs.Ytiohbfcjfdabmaa
