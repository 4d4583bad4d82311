/-
  The specification: the lists of a class, their merge, and the linear orders of all classes. No condition.
-/
import Derived.Test.YtaofmejfdmbfoaaLnP
import Derived.Test.YtaofmejfdmbfoaaLnR
import Derived.Test.YtaofmejfdmbfoaaLhG
import Derived.Test.YtaofmejfdmbfoaaLqG
namespace Go.Proofs.Ytaofmejfdmbfoaa
open Go.ChangeShapes Go.WideShapes Go.ChangeAt Go.RowKit Go.Ln Go.Fs
def classesB (g : Gr) (l : List Int) : Bool := decide (l.length ≤ 16) && l.all (classB g)
/-- the classes of a list that can be asked -/
def NatL (g : Gr) (l : List Int) : Prop := ∀ c ∈ l, ∃ n : Nat, c = (n : Int) ∧ n < 3 + g.length
theorem natL_of {g : Gr} {l : List Int} (h : l.all (classB g) = true) : NatL g l := fun c hc => classB_nat (List.all_eq_true.1 h c hc)
end Go.Proofs.Ytaofmejfdmbfoaa
namespace Go.Proofs.Ytaofmejfdmbfoaa
open Go.ChangeShapes Go.WideShapes Go.ChangeAt Go.RowKit Go.Ln Go.Fs
set_option maxRecDepth 100000 in
set_option maxHeartbeats 1000000 in
theorem rplace_any (l : List Int) (a : Option Addr) (cap : Nat) (x : Int) (w : World) (hl : (l.length : Int) ≤ 9223372036854775807) (hi : IntsAt w a l) :
    Calls Try.prog 71 #[.slice a l.length cap, .int .i64 x] w fun e w' => e = .returned (.int .i64 (placeI l x)) ∧ w = w' := by
  have HI := Lib.hid hi; clear hi
  obtain ⟨ans, hans⟩ : ∃ b, placeI l x = b := ⟨_, rfl⟩
  rw [hans]
  have HA := Lib.hid hans; clear hans
  go_enter Try.func71, Try.ntmps71
  go_wp2
  go_loop [5] (fun i => ∃ k : Nat, k ≤ l.length ∧ i = .int .i64 k ∧ x ∉ l.take k) (fun i => l.length - (intOf i).toNat)
  case atStart => exact ⟨0, Nat.zero_le _, rfl, by simp⟩
  case round =>
    obtain ⟨k, hk, rfl, hn⟩ := hrel
    have HN := Lib.hid hn; clear hn
    by_cases hlt : k < l.length
    · obtain ⟨y, hy⟩ : ∃ y, l[k]? = some y := ⟨l[k], List.getElem?_eq_getElem hlt⟩
      obtain ⟨b, off, rfl, hb, hc⟩ := HI.out k y hy
      have HY := Lib.hid hy; clear hy
      by_cases he : y = x
      · have hans : (k : Int) = ans := by rw [← HA.out]; exact (placeI_at (by rw [HY.out, he]) HN.out).symm
        subst hans
        go_wp2
        go_ret
        exact ⟨rfl, rfl⟩
      · go_wp2
        go_round
        case rel =>
          refine ⟨k + 1, by omega, by go_num, ?_⟩
          rw [take_snocI l k y HY.out]
          intro hm
          rcases List.mem_append.1 hm with h | h
          · exact HN.out h
          · exact he (List.mem_singleton.1 h).symm
        case measure => simp [intOf]; omega
    · obtain rfl : k = l.length := by omega
      have hn := HN.out
      rw [List.take_length] at hn
      have hans : (-1 : Int) = ans := by rw [← HA.out]; exact (placeI_none hn).symm
      subst hans
      go_wp2
      go_ret
      exact ⟨rfl, rfl⟩
set_option maxRecDepth 100000 in
set_option maxHeartbeats 2000000 in
theorem rwithout_any (W0 : World) (l : List Int) (a : Option Addr) (cap : Nat) (x : Int) (w : World) (hl : (l.length : Int) ≤ 1000) (hi : IntsAt W0 a l) (hB : Below W0.heap.size W0 w) :
    Calls Try.prog 67 #[.slice a l.length cap, .int .i64 x] w fun e w' => ∃ v, e = .returned v ∧ Below w.heap.size w w' ∧ Row w.heap.size w' 3 v (ints (withoutL l x)) := by
  have HI := Lib.hid hi; have HB := Lib.hid hB
  clear hi hB
  go_enter Try.func67, Try.ntmps67
  go_wp2
  go_loopw [5, 6] (fun v i wr => ∃ k : Nat, k ≤ l.length ∧ i = .int .i64 k ∧ Below w.heap.size w wr ∧ Row w.heap.size wr 3 v (ints (withoutL (l.take k) x))) (fun _ i _ => l.length - (intOf i).toNat)
  case atStart => exact ⟨0, Nat.zero_le _, rfl, Below.refl _ _, Row.nil _ _ _⟩
  case round =>
    obtain ⟨k, hk, rfl, hup, hrow⟩ := hrel
    have HUP := Lib.hid hup; have HR := Lib.hid hrow
    have hz := hup.size
    clear hrow
    by_cases hlt : k < l.length
    · obtain ⟨y, hy⟩ : ∃ y, l[k]? = some y := ⟨l[k], List.getElem?_eq_getElem hlt⟩
      obtain ⟨b, off, rfl, hb, hc⟩ := HI.out.below (HB.out.trans (hup.mono HB.out.size)) k y hy
      have HSN := Lib.hid (withoutL_snoc l x k y hy)
      have hlk : (withoutL (l.take k) x).length ≤ k := by unfold withoutL; exact Nat.le_trans (List.length_filter_le _ _) (by simp; omega)
      clear hy hup
      by_cases he : y = x
      · go_wp2
        refine ⟨⟨k + 1, by omega, by go_num, HUP.out, ?_⟩, by simp [intOf]; omega⟩
        rw [HSN.out, if_pos he, List.append_nil]; exact HR.out
      · go_wp2_with (at_builtin; apply wpList_app TI (B := w.heap.size) (xs := ints (withoutL (l.take k) x)) (g := _) (c := 1) (y := .int .i64 y) (ho := rfl) (hgd := rfl) (hty := rfl) (hs := rfl) (hx := rfl); (case hr => exact World.ownsRow.alloc HR.out _); (case hB => simp; omega); (case hy => simp); (case h1 => rfl); (case hb => simp [ints]; omega); intro v2 w3 hg3)
        have hr2 : Row w.heap.size (wr.alloc (.cells #[.int .i64 y] 3)) 3 _ (ints (withoutL (l.take k) x)) := World.ownsRow.alloc HR.out _
        have hb2 : Below w.heap.size (wr.alloc (.cells #[.int .i64 y] 3)) w3 := hg3.below hr2 (by omega) (by simp; omega)
        have hb3 : Below w.heap.size w (wr.alloc (.cells #[.int .i64 y] 3)) := HUP.out.alloc hz _
        refine ⟨⟨k + 1, by omega, by go_num, hb3.trans hb2, ?_⟩, by simp [intOf]; omega⟩
        have := hg3.own
        rw [HSN.out, if_neg he, ints_snoc]; exact this
    · obtain rfl : k = l.length := by omega
      have h := HR.out
      rw [List.take_length] at h
      go_wp2
      go_ret
      exact ⟨_, rfl, HUP.out, h⟩
end Go.Proofs.Ytaofmejfdmbfoaa
namespace Go.Proofs.Ytaofmejfdmbfoaa
open Go.ChangeShapes Go.WideShapes Go.ChangeAt Go.RowKit Go.Ln Go.Fs
/-- a number stands ahead of another one in one of some lists -/
def precB (all : Gr) (a b : Int) : Bool := all.any fun l => decide (0 ≤ placeI l a) && decide (placeI l a < placeI l b)
set_option maxRecDepth 100000 in
set_option maxHeartbeats 2000000 in
theorem rprecedes_any (all : Gr) (sa : Option Addr) (cap : Nat) (a b : Int) (w : World) (hl : (all.length : Int) ≤ 9223372036854775807) (hi : GrAt w sa all) :
    Calls Try.prog 46 #[.slice sa all.length cap, .int .i64 a, .int .i64 b] w fun e w' => e = .returned (.bool (precB all a b)) ∧ Below w.heap.size w w' := by
  have HI := Lib.hid hi; clear hi
  obtain ⟨ans, hans⟩ : ∃ q, precB all a b = q := ⟨_, rfl⟩
  rw [hans]
  have HA := Lib.hid hans; clear hans
  go_enter Try.func46, Try.ntmps46
  go_wp2
  go_loopw [7] (fun i wr => ∃ k : Nat, k ≤ all.length ∧ i = .int .i64 k ∧ precB (all.take k) a b = false ∧ Below w.heap.size w wr) (fun i _ => all.length - (intOf i).toNat)
  case atStart => exact ⟨0, Nat.zero_le _, rfl, rfl, Below.refl _ _⟩
  case round =>
    obtain ⟨k, hk, rfl, hn, hup⟩ := hrel
    have HUP := Lib.hid hup
    have HN := Lib.hid hn; clear hn
    by_cases hlt : k < all.length
    · obtain ⟨l, hy⟩ : ∃ l, all[k]? = some l := ⟨all[k], List.getElem?_eq_getElem hlt⟩
      obtain ⟨bb, off, al, cl, rfl, hb, hc, hil, hml⟩ := HI.out.below hup k l hy
      have hlm : (l.length : Int) ≤ 9223372036854775807 := by unfold maxLen at hml; omega
      have HY := Lib.hid hy; have HIL := Lib.hid hil
      clear hy hil hup
      cases hp : (decide (0 ≤ placeI l a) && decide (placeI l a < placeI l b)) with
      | true =>
        have hans : true = ans := by rw [← HA.out]; symm; exact List.any_eq_true.2 ⟨l, List.mem_of_getElem? HY.out, hp⟩
        subst hans
        simp only [Bool.and_eq_true, decide_eq_true_eq] at hp
        obtain ⟨hp1, hp2⟩ := hp
        have HPA := Lib.hid (show ∀ w', Below wr.heap.size wr w' → Calls Try.prog 71 #[.slice al l.length cl, .int .i64 a] w' fun e w'' => e = .returned (.int .i64 (placeI l a)) ∧ w'' = w' from fun w' h => (rplace_any l al cl a w' hlm (HIL.out.below h)).mono fun e w'' ⟨h1, h2⟩ => ⟨h1, h2.symm⟩)
        have HPB := Lib.hid (show ∀ w', Below wr.heap.size wr w' → Calls Try.prog 71 #[.slice al l.length cl, .int .i64 b] w' fun e w'' => e = .returned (.int .i64 (placeI l b)) ∧ w'' = w' from fun w' h => (rplace_any l al cl b w' hlm (HIL.out.below h)).mono fun e w'' ⟨h1, h2⟩ => ⟨h1, h2.symm⟩)
        generalize placeI l a = pa at *
        generalize placeI l b = pb at *
        have M1 : True := trivial
        go_wp2
        go_quiet (first | (go_at_call_of 71 a; exact Calls.quiet_of_same (HPA.out _ (below_drewN _ _))) | (go_at_call_of 71 b; exact Calls.quiet_of_same (HPB.out _ (below_drewN _ _))))
        go_wp2
        go_ret
        exact ⟨rfl, HUP.out.trans ((below_drewN _ _).mono HUP.out.size)⟩
      | false =>
        have hstep : precB (all.take (k + 1)) a b = false := by
          have := HN.out
          unfold precB at this ⊢
          rw [take_snocI all k l HY.out, List.any_append, this]
          simp only [List.any_cons, List.any_nil, Bool.or_false, Bool.false_or]; exact hp
        have HS := Lib.hid hstep; clear hstep
        have HPA := Lib.hid (show ∀ w', Below wr.heap.size wr w' → Calls Try.prog 71 #[.slice al l.length cl, .int .i64 a] w' fun e w'' => e = .returned (.int .i64 (placeI l a)) ∧ w'' = w' from fun w' h => (rplace_any l al cl a w' hlm (HIL.out.below h)).mono fun e w'' ⟨h1, h2⟩ => ⟨h1, h2.symm⟩)
        have HPB := Lib.hid (show ∀ w', Below wr.heap.size wr w' → Calls Try.prog 71 #[.slice al l.length cl, .int .i64 b] w' fun e w'' => e = .returned (.int .i64 (placeI l b)) ∧ w'' = w' from fun w' h => (rplace_any l al cl b w' hlm (HIL.out.below h)).mono fun e w'' ⟨h1, h2⟩ => ⟨h1, h2.symm⟩)
        generalize placeI l a = pa at *
        generalize placeI l b = pb at *
        have M1 : True := trivial
        by_cases hp1 : 0 ≤ pa
        · have hp2 : ¬ pa < pb := by intro h; rw [decide_eq_true hp1, decide_eq_true h] at hp; cases hp
          clear hp
          go_wp2
          go_quiet (first | (go_at_call_of 71 a; exact Calls.quiet_of_same (HPA.out _ (below_drewN _ _))) | (go_at_call_of 71 b; exact Calls.quiet_of_same (HPB.out _ (below_drewN _ _))))
          go_wp2
          exact ⟨⟨k + 1, by omega, by go_num, HS.out, HUP.out.trans ((below_drewN _ _).mono HUP.out.size)⟩, by simp [intOf]; omega⟩
        · clear hp
          go_wp2
          go_quiet (first | (go_at_call_of 71 a; exact Calls.quiet_of_same (HPA.out _ (below_drewN _ _))) | (go_at_call_of 71 b; exact Calls.quiet_of_same (HPB.out _ (below_drewN _ _))))
          go_wp2
          exact ⟨⟨k + 1, by omega, by go_num, HS.out, HUP.out.trans ((below_drewN _ _).mono HUP.out.size)⟩, by simp [intOf]; omega⟩
    · obtain rfl : k = all.length := by omega
      have hn := HN.out
      rw [List.take_length] at hn
      have hans : false = ans := by rw [← HA.out]; exact hn.symm
      subst hans
      go_wp2
      go_ret
      exact ⟨rfl, HUP.out⟩
end Go.Proofs.Ytaofmejfdmbfoaa
namespace Go.Proofs.Ytaofmejfdmbfoaa
open Go.ChangeShapes Go.WideShapes Go.ChangeAt Go.RowKit Go.Ln Go.Fs
set_option maxRecDepth 100000 in
set_option maxHeartbeats 1000000 in
theorem rparents_any (g : Gr) (sa : Option Addr) (cap : Nat) (c : Nat) (hl : (g.length : Int) ≤ 1000) (hc : c < 3 + g.length) (w : World) (hi : GrAt w sa g) :
    Calls Try.prog 66 #[.slice sa g.length cap, .int .i64 c] w fun e w' => (∃ a cp, e = .returned (.slice a (par g c).length cp) ∧ IntsAt w a (par g c) ∧ (par g c).length ≤ cp ∧ cp ≤ maxLen) ∧ w = w' := by
  by_cases h3 : (c : Int) < 3
  · rw [par_small g c (by omega)]
    go_enter Try.func66, Try.ntmps66
    go_wp2
    go_ret
    exact ⟨⟨none, 0, rfl, IntsAt.nil _ _, Nat.le_refl _, Nat.zero_le _⟩, rfl⟩
  · obtain ⟨q, rfl⟩ : ∃ q, c = q + 3 := ⟨c - 3, by omega⟩
    rw [show ((q + 3 : Nat) : Int) = (q : Int) + 3 by omega] at h3 ⊢
    obtain ⟨l, hl2⟩ : ∃ l, g[q]? = some l := ⟨g[q]'(by omega), List.getElem?_eq_getElem (by omega)⟩
    obtain ⟨b, off, al, cl, rfl, hb, hcell, hil, hml⟩ := hi q l hl2
    have hpar : par g (q + 3) = l := by rw [par_big g (q + 3) (by omega), Nat.add_sub_cancel, List.getD, hl2]; rfl
    rw [hpar]
    have hw : IntKind.i64.wrap ((q : Int) + 3 - 3) = q := by rw [IntKind.wrap_i64]; omega
    have hw2 : IntKind.i64.wrap (q : Int) = q := by rw [IntKind.wrap_i64]; omega
    have hqI : (q : Int) < (g.length : Int) := by omega
    have HIL := Lib.hid hil
    have HML := Lib.hid hml
    clear hil hml hi hl2 hpar
    go_enter Try.func66, Try.ntmps66
    go_wp2
    go_ret
    exact ⟨⟨al, ⟨cl, rfl, HIL.out, HML.out⟩⟩, rfl⟩
end Go.Proofs.Ytaofmejfdmbfoaa
namespace Go.Proofs.Ytaofmejfdmbfoaa
open Go.ChangeShapes Go.WideShapes Go.ChangeAt Go.RowKit Go.Ln Go.Fs
theorem IntsAt.tail {w : World} {b off : Nat} {x : Int} {l : List Int} (h : IntsAt w (some ⟨b, off, none⟩) (x :: l)) : IntsAt w (some ⟨b, off + 1, none⟩) l := fun i y hy => by
  obtain ⟨b', off', h1, h2, h3⟩ := h (i + 1) y hy
  injection h1 with h1
  injection h1 with h4 h5 h6
  subst h4; subst h5
  exact ⟨b, off + 1, rfl, h2, by rw [show off + 1 + i = off + (i + 1) by omega]; exact h3⟩
theorem IntsAt.tailC {w : World} {b off cl : Nat} {x : Int} {l : List Int} (h : IntsAt w (some ⟨b, off, none⟩) (x :: l)) (hc : l.length + 1 ≤ cl) : IntsAt w (if cl = 1 then some ⟨b, off, none⟩ else some ⟨b, off + 1, none⟩) l := by
  by_cases e : cl = 1
  · have : l = [] := List.length_eq_zero_iff.1 (by omega)
    subst this
    exact IntsAt.nil _ _
  · rw [if_neg e]; exact h.tail
theorem freeB_take {all : Gr} {k : Nat} {l : List Int} (c : Int) (h : all[k]? = some l) : freeB (all.take (k + 1)) c = (freeB (all.take k) c && decide (c ∉ l.tail)) := by
  unfold freeB
  rw [take_snocI all k l h, List.all_append]; simp
set_option maxRecDepth 100000 in
set_option maxHeartbeats 2000000 in
theorem rfree_any (all : Gr) (sa : Option Addr) (cap : Nat) (c : Int) (w : World) (hl : (all.length : Int) ≤ 9223372036854775807) (hi : GrAt w sa all) :
    Calls Try.prog 77 #[.slice sa all.length cap, .int .i64 c] w fun e w' => e = .returned (.bool (freeB all c)) ∧ Below w.heap.size w w' := by
  have HI := Lib.hid hi; clear hi
  obtain ⟨ans, hans⟩ : ∃ q, freeB all c = q := ⟨_, rfl⟩
  rw [hans]
  have HA := Lib.hid hans; clear hans
  go_enter Try.func77, Try.ntmps77
  go_wp2
  go_loopw [5] (fun i wr => ∃ k : Nat, k ≤ all.length ∧ i = .int .i64 k ∧ freeB (all.take k) c = true ∧ Below w.heap.size w wr) (fun i _ => all.length - (intOf i).toNat)
  case atStart => exact ⟨0, Nat.zero_le _, rfl, rfl, Below.refl _ _⟩
  case round =>
    obtain ⟨k, hk, rfl, hn, hup⟩ := hrel
    have HN := Lib.hid hn; clear hn
    have HUP := Lib.hid hup
    by_cases hlt : k < all.length
    · obtain ⟨l, hy⟩ : ∃ l, all[k]? = some l := ⟨all[k], List.getElem?_eq_getElem hlt⟩
      obtain ⟨bb, off, al, cl, rfl, hb, hc, hil, hml⟩ := HI.out.below hup k l hy
      have hst := freeB_take c hy
      have HST := Lib.hid hst
      have HYM := Lib.hid (List.mem_of_getElem? hy)
      clear hup
      cases l with
      | nil =>
        clear hst hy hil
        go_wp2
        exact ⟨⟨k + 1, by omega, by go_num, by rw [HST.out, HN.out]; simp, HUP.out⟩, by simp [intOf]; omega⟩
      | cons x t =>
        obtain ⟨b2, off2, rfl, hb2, hc2⟩ := hil 0 x rfl
        have hml2 := hml.1
        have hcm : cl ≤ maxLen := hml.2
        unfold maxLen at hcm
        simp only [List.length_cons] at hml2
        have htl : (t.length : Int) ≤ 9223372036854775807 := by omega
        have htc : t.length + 1 ≤ cl := hml2
        have hit := hil.tailC htc
        have htci : (t.length : Int) + 1 ≤ (cl : Int) := by omega
        have hcal : ∀ w', Below wr.heap.size wr w' → Calls Try.prog 45 #[.slice (if cl = 1 then some ⟨b2, off2, none⟩ else some ⟨b2, off2 + 1, none⟩) t.length (cl - 1), .int .i64 c] w' fun e w'' => e = .returned (.bool (decide (c ∈ t))) ∧ w'' = w' := fun w' hb' => (rhas_any t _ _ c w' htl (hit.below hb')).mono fun e w'' ⟨h1, h2⟩ => ⟨h1, h2.symm⟩
        have HC := Lib.hid hcal
        clear hcal hst hy hil hml hml2 hit
        cases hf : decide (c ∈ t) with
        | true =>
          have hans : false = ans := by
            rw [← HA.out]; symm
            rw [Bool.eq_false_iff]
            intro h
            have := List.all_eq_true.1 h _ HYM.out
            exact (of_decide_eq_true this) (of_decide_eq_true hf)
          subst hans
          have HF := Lib.hid hf; clear hf
          have HC2 := Lib.hid (show ∀ w', Below wr.heap.size wr w' → Calls Try.prog 45 #[.slice (if cl = 1 then some ⟨b2, off2, none⟩ else some ⟨b2, off2 + 1, none⟩) t.length (cl - 1), .int .i64 c] w' fun e w'' => e = .returned (.bool true) ∧ w'' = w' from fun w' hb' => by have := HC.out w' hb'; rw [HF.out] at this; exact this)
          go_wp2_with (go_at_call 45; refine (HC2.out _ (Below.refl _ _)).mono ?_; rintro e w3 ⟨rfl, rfl⟩)
          all_goals (go_ret; exact ⟨rfl, HUP.out⟩)
        | false =>
          have hnm := of_decide_eq_false hf
          have HF := Lib.hid hf; clear hf
          have HC2 := Lib.hid (show ∀ w', Below wr.heap.size wr w' → Calls Try.prog 45 #[.slice (if cl = 1 then some ⟨b2, off2, none⟩ else some ⟨b2, off2 + 1, none⟩) t.length (cl - 1), .int .i64 c] w' fun e w'' => e = .returned (.bool false) ∧ w'' = w' from fun w' hb' => by have := HC.out w' hb'; rw [HF.out] at this; exact this)
          go_wp2_with (go_at_call 45; refine (HC2.out _ (Below.refl _ _)).mono ?_; rintro e w3 ⟨rfl, rfl⟩)
          all_goals exact ⟨⟨k + 1, by omega, by go_num, by rw [HST.out, HN.out]; simp [hnm], HUP.out⟩, by simp [intOf]; omega⟩
    · obtain rfl : k = all.length := by omega
      have hn := HN.out
      rw [List.take_length] at hn
      have hans : true = ans := by rw [← HA.out]; exact hn.symm
      subst hans
      go_wp2
      go_ret
      exact ⟨rfl, HUP.out⟩
end Go.Proofs.Ytaofmejfdmbfoaa
namespace Go.Proofs.Ytaofmejfdmbfoaa
open Go.ChangeShapes Go.WideShapes Go.ChangeAt Go.RowKit Go.Ln Go.Fs
theorem cell_of_block {w w' : World} {b o : Nat} (h : w'.heap[b]? = w.heap[b]?) : w'.cell? ⟨b, o, none⟩ = w.cell? ⟨b, o, none⟩ := by
  unfold World.cell?; simp only [h]
/-- a list that lies nowhere in some blocks -/
def ElemOk (w : World) (no : Nat → Prop) (al : Option Addr) (l : List Int) (cp : Nat) : Prop := l.length ≤ cp ∧ cp ≤ maxLen ∧ ∀ (i : Nat) (x : Int), l[i]? = some x → ∃ b off, al = some ⟨b, off, none⟩ ∧ b < w.heap.size ∧ w.cell? ⟨b, off + i, none⟩ = some (.int .i64 x) ∧ ¬ no b
theorem ElemOk.ints {w : World} {no : Nat → Prop} {al : Option Addr} {l : List Int} {cp : Nat} (h : ElemOk w no al l cp) : IntsAt w al l := fun i x hx => by
  obtain ⟨b, off, h1, h2, h3, _⟩ := h.2.2 i x hx
  exact ⟨b, off, h1, h2, h3⟩
theorem ElemOk.kept {w w' : World} {no no' : Nat → Prop} {al : Option Addr} {l : List Int} {cp : Nat} (h : ElemOk w no al l cp) (hs : w.heap.size ≤ w'.heap.size) (hb : ∀ b, b < w.heap.size → ¬ no b → w'.heap[b]? = w.heap[b]?) (ho : ∀ b, b < w.heap.size → no' b → no b) : ElemOk w' no' al l cp :=
  ⟨h.1, h.2.1, fun i x hx => by
    obtain ⟨b, off, h1, h2, h3, h4⟩ := h.2.2 i x hx
    exact ⟨b, off, h1, Nat.lt_of_lt_of_le h2 hs, (cell_of_block (hb b h2 h4)).trans h3, fun e => h4 (ho b h2 e)⟩⟩
theorem ElemOk.of_ints {w : World} {no : Nat → Prop} {al : Option Addr} {l : List Int} {cp : Nat} (h : IntsAt w al l) (h1 : l.length ≤ cp) (h2 : cp ≤ maxLen) (ho : ∀ b off, al = some ⟨b, off, none⟩ → l ≠ [] → ¬ no b) : ElemOk w no al l cp :=
  ⟨h1, h2, fun i x hx => by
    obtain ⟨b, off, h3, h4, h5⟩ := h i x hx
    exact ⟨b, off, h3, h4, h5, ho b off h3 (fun e => by rw [e] at hx; simp at hx)⟩⟩
theorem row_elem {B : Nat} {w : World} {v : Value} {l : List Int} (h : Row B w 3 v (ints l)) (no : Nat → Prop) (ho : ∀ b, no b → b < B) : ∃ al cp, v = .slice al l.length cp ∧ ElemOk w no al l cp := by
  obtain ⟨al, cp, hv, _, hc⟩ := h.shape
  have hl : (ints l).length = l.length := by simp [ints]
  rw [hl] at hv
  have hcp : l.length ≤ cp ∧ cp ≤ maxLen := by
    rcases h.2 with ⟨h1, h2⟩ | ⟨g, cap, cur, h1, _, _, h3, h4, _⟩
    · rw [hv] at h1
      injection h1 with _ h5 h6
      rw [h5, h6]; unfold maxLen; omega
    · rw [hv] at h1
      injection h1 with _ h5 h6
      subst h6
      rw [hl] at h3
      exact ⟨h3, h4⟩
  refine ⟨al, cp, hv, hcp.1, hcp.2, fun i x hx => ?_⟩
  obtain ⟨g, h1, h2, h3, h4⟩ := hc i (.int .i64 x) (by simp [ints, hx])
  exact ⟨g, 0, h1, h3, by rw [Nat.zero_add]; exact h4, fun e => by have := ho g e; omega⟩
/-- the values of lists, none of which lies in some blocks -/
def GrV (w : World) (no : Nat → Prop) (vs : List Value) (ls : Gr) : Prop := vs.length = ls.length ∧ ∀ (k : Nat) (l : List Int), ls[k]? = some l → ∃ al cp, vs[k]? = some (.slice al l.length cp) ∧ ElemOk w no al l cp
def ownN (v : Value) (no : Nat → Prop) : Nat → Prop := fun b => v.ownBlock = some b ∨ no b
/-- a slice of lists of the call's own -/
def RowGr (B : Nat) (no : Nat → Prop) (w : World) (v : Value) (ls : Gr) : Prop := ∃ vs, Row B w 25 v vs ∧ GrV w (ownN v no) vs ls
theorem GrV.kept {w w' : World} {no no' : Nat → Prop} {vs : List Value} {ls : Gr} (h : GrV w no vs ls) (hs : w.heap.size ≤ w'.heap.size) (hb : ∀ b, b < w.heap.size → ¬ no b → w'.heap[b]? = w.heap[b]?) (ho : ∀ b, b < w.heap.size → no' b → no b) : GrV w' no' vs ls :=
  ⟨h.1, fun k l hl => by
    obtain ⟨al, cp, h1, h2⟩ := h.2 k l hl
    exact ⟨al, cp, h1, h2.kept hs hb ho⟩⟩
/-- a graph that lies nowhere in some blocks -/
def GrOff (w : World) (no : Nat → Prop) (a : Option Addr) (g : Gr) : Prop := ∀ (k : Nat) (l : List Int), g[k]? = some l → ∃ b off al cp, a = some ⟨b, off, none⟩ ∧ b < w.heap.size ∧ w.cell? ⟨b, off + k, none⟩ = some (.slice al l.length cp) ∧ ¬ no b ∧ ElemOk w no al l cp
theorem GrOff.gr {w : World} {no : Nat → Prop} {a : Option Addr} {g : Gr} (h : GrOff w no a g) : GrAt w a g := fun k l hl => by
  obtain ⟨b, off, al, cp, h1, h2, h3, _, h5⟩ := h k l hl
  exact ⟨b, off, al, cp, h1, h2, h3, h5.ints, h5.1, h5.2.1⟩
theorem GrOff.of_gr {w : World} {a : Option Addr} {g : Gr} (h : GrAt w a g) {no : Nat → Prop} (hn : ∀ b, ¬ no b) : GrOff w no a g := fun k l hl => by
  obtain ⟨b, off, al, cp, h1, h2, h3, h4, h5, h6⟩ := h k l hl
  exact ⟨b, off, al, cp, h1, h2, h3, hn b, ElemOk.of_ints h4 h5 h6 fun b _ _ _ => hn b⟩
theorem GrOff.kept {w w' : World} {no no' : Nat → Prop} {a : Option Addr} {g : Gr} (h : GrOff w no a g) (hs : w.heap.size ≤ w'.heap.size) (hb : ∀ b, b < w.heap.size → ¬ no b → w'.heap[b]? = w.heap[b]?) (ho : ∀ b, b < w.heap.size → no' b → no b) : GrOff w' no' a g := fun k l hl => by
  obtain ⟨b, off, al, cp, h1, h2, h3, h4, h5⟩ := h k l hl
  exact ⟨b, off, al, cp, h1, Nat.lt_of_lt_of_le h2 hs, (cell_of_block (hb b h2 h4)).trans h3, fun e => h4 (ho b h2 e), h5.kept hs hb ho⟩
theorem GrOff.below {w w' : World} {no : Nat → Prop} {a : Option Addr} {g : Gr} (h : GrOff w no a g) (hb : Below w.heap.size w w') : GrOff w' no a g := h.kept hb.size (fun b hlt _ => hb.block b hlt) (fun _ _ h => h)
theorem RowGr.nil (B : Nat) (no : Nat → Prop) (w : World) : RowGr B no w (.slice none 0 0) [] := ⟨[], Row.nil _ _ _, rfl, fun k l h => by simp at h⟩
theorem RowGr.below {B : Nat} {no : Nat → Prop} {w w' : World} {v : Value} {ls : Gr} (h : RowGr B no w v ls) (hb : Below w.heap.size w w') : RowGr B no w' v ls := by
  obtain ⟨vs, h1, h2⟩ := h
  exact ⟨vs, h1.below hb, h2.kept hb.size (fun b hlt _ => hb.block b hlt) (fun _ _ h => h)⟩
theorem RowGr.lt {B : Nat} {no : Nat → Prop} {w : World} {v : Value} {ls : Gr} (h : RowGr B no w v ls) : ∀ k, v.ownBlock = some k → B ≤ k ∧ k < w.heap.size := by
  obtain ⟨vs, h1, _⟩ := h
  exact h1.lt
theorem RowGr.off {B : Nat} {no : Nat → Prop} {w : World} {v : Value} {ls : Gr} (h : RowGr B no w v ls) (hno : ∀ b, v.ownBlock = some b → ¬ no b) : ∃ a cp, v = .slice a ls.length cp ∧ GrOff w no a ls ∧ ls.length ≤ cp ∧ cp ≤ maxLen := by
  obtain ⟨vs, h1, h2⟩ := h
  obtain ⟨a, cp, hv, _, hc⟩ := h1.shape
  have hcp : vs.length ≤ cp ∧ cp ≤ maxLen := by
    rcases h1.2 with ⟨h3, h4⟩ | ⟨g, cap, cur, h3, _, _, h4, h5, _⟩
    · rw [hv] at h3
      injection h3 with _ h5 h6
      rw [h5, h6]; unfold maxLen; omega
    · rw [hv] at h3
      injection h3 with _ h6 h7
      subst h7
      exact ⟨h4, h5⟩
  rw [h2.1] at hv hcp
  refine ⟨a, cp, hv, fun k l hl => ?_, hcp.1, hcp.2⟩
  obtain ⟨al, cpl, h3, h4⟩ := h2.2 k l hl
  obtain ⟨g, h5, _, h6, h7⟩ := hc k _ h3
  exact ⟨g, 0, al, cpl, h5, h6, by rw [Nat.zero_add]; exact h7, hno g (by rw [hv, h5]; rfl), h4.kept (Nat.le_refl _) (fun _ _ _ => rfl) (fun _ _ h => .inr h)⟩
theorem RowGr.shape {B : Nat} {no : Nat → Prop} {w : World} {v : Value} {ls : Gr} (h : RowGr B no w v ls) : ∃ a cp, v = .slice a ls.length cp ∧ GrAt w a ls ∧ ls.length ≤ cp ∧ cp ≤ maxLen := by
  obtain ⟨vs, h1, h2⟩ := h
  obtain ⟨a, cp, h3, h4, h5⟩ := RowGr.off (no := fun _ => False) (⟨vs, h1, h2.kept (Nat.le_refl _) (fun _ _ _ => rfl) (fun b _ h => by rcases h with h | h; exact .inl h; exact h.elim)⟩ : RowGr B (fun _ => False) w v ls) (fun _ _ h => h)
  exact ⟨a, cp, h3, h4.gr, h5⟩
theorem run_appG {B : Nat} {w : World} {v : Value} {xs : List Value} (hr : Row B w 25 v xs) (hB : B ≤ w.heap.size) (g : Nat) (c : Nat) (x : Value) (hx : w.cell? ⟨g, 0, none⟩ = some x) (h1 : x.oneCell' = true) (hb : xs.length < 1000000) :
    ∃ v' w', (Builtin.append_ #[22, 22] 22 #[v, .slice (some ⟨g, 0, none⟩) 1 c]).run Try.prog w = .ok v' w' ∧ Grew B w w' 25 v v' (xs ++ [x]) := by
  have hI := infoL
  cases hi : Try.prog.info? 25 with
  | none => rw [hi] at hI; cases hI
  | some i =>
    rw [hi] at hI
    simp only [Option.map_some, Option.some.injEq, Prod.mk.injEq] at hI
    obtain ⟨v', w', hrun, h2, h3, _, h5⟩ := run_append_own_at (P := Try.prog) w B 22 22 25 i _ 1 24 underG hi hI.1 hI.2.1 hI.2.2 rfl (by decide) v xs.length xs hr ⟨g, 0, none⟩ 1 c [x] (by simp) (by
      intro j u hu
      cases j with
      | zero => cases hu; exact hx
      | succ j => simp at hu) (by intro u hu; simp at hu; rw [hu]; exact h1) (by unfold maxLen; omega) (by omega) hB
    exact ⟨v', w', hrun, ⟨by unfold Row; simpa using h2, h3, h5⟩⟩
/-- what an append of one list to such a slice leaves -/
structure GrewG (B : Nat) (no : Nat → Prop) (w w1 : World) (v v1 : Value) (ls1 : Gr) : Prop where
  own : RowGr B no w1 v1 ls1
  grow : w.grownBy w1 v.ownBlock
  loc : v1.ownBlock = v.ownBlock ∨ v1.ownBlock = some w.heap.size
theorem GrewG.below {B C : Nat} {no : Nat → Prop} {w w1 : World} {v v1 : Value} {ls ls1 : Gr} (g : GrewG B no w w1 v v1 ls1) (h : RowGr B no w v ls) (hC : C ≤ B) (hCw : C ≤ w.heap.size) : Below C w w1 :=
  ⟨g.grow.os, g.grow.tape, g.grow.output, g.grow.size, fun k hk => g.grow.block k (by omega) (fun e' => by have := (h.lt k e'.symm).1; omega)⟩
theorem own_next {w : World} {v v1 : Value} {no : Nat → Prop} (loc : v1.ownBlock = v.ownBlock ∨ v1.ownBlock = some w.heap.size) : ∀ b, b < w.heap.size → ownN v1 no b → ownN v no b := fun b hlt h => by
  rcases h with h | h
  · rcases loc with e | e
    · exact .inl (e ▸ h)
    · rw [e] at h; injection h with h; omega
  · exact .inr h
theorem grew_of {B : Nat} {no : Nat → Prop} {w w1 : World} {v v1 : Value} {vs : List Value} {ls : Gr} {al : Option Addr} {l : List Int} {cp : Nat} (h2 : GrV w (ownN v no) vs ls) (hE : ElemOk w (ownN v no) al l cp) (g : Grew B w w1 25 v v1 (vs ++ [.slice al l.length cp])) : GrewG B no w w1 v v1 (ls ++ [l]) := by
  have hs := g.grow.size
  have hb : ∀ b, b < w.heap.size → ¬ ownN v no b → w1.heap[b]? = w.heap[b]? := fun b hlt hne => g.grow.block b hlt (fun e => hne (.inl e.symm))
  have ho := own_next (no := no) g.loc
  refine ⟨⟨_, g.own, by simp [h2.1], fun k l' hl => ?_⟩, g.grow, g.loc⟩
  by_cases hk : k < ls.length
  · rw [List.getElem?_append_left hk] at hl
    obtain ⟨al', cp', h3, h4⟩ := h2.2 k l' hl
    exact ⟨al', cp', by rw [List.getElem?_append_left (by rw [h2.1]; exact hk)]; exact h3, h4.kept hs hb ho⟩
  · rw [List.getElem?_append_right (by omega)] at hl
    have hk0 : k - ls.length = 0 := by
      cases hq : k - ls.length with
      | zero => rfl
      | succ n => rw [hq] at hl; simp at hl
    rw [hk0] at hl
    cases hl
    exact ⟨al, cp, by rw [List.getElem?_append_right (by rw [h2.1]; omega), h2.1, hk0]; rfl, hE.kept hs hb ho⟩
theorem wpList_appG {B : Nat} {no : Nat → Prop} {w : World} {ops : Array Oper} {rest : List Oper} {o : Oper} {a : Act} {Q : Exit → Act → World → Prop} (hgd : o.guard = none) (s x : Operand)
    (ho : o.op = .call { callee := .builtin .append, args := #[s, x], argTypes := #[22, 22] }) (hty : o.type = 22)
    {v : Value} {ls : Gr} (hs : a.eval s = v) (hr : RowGr B no w v ls) (hB : B ≤ w.heap.size) (g c : Nat) (al : Option Addr) (l : List Int) (n cp : Nat) (hn : n = l.length) (hx : a.eval x = .slice (some ⟨g, 0, none⟩) 1 c) (hy : w.cell? ⟨g, 0, none⟩ = some (.slice al n cp)) (hE : ElemOk w (ownN v no) al l cp) (hb : ls.length < 1000000)
    (h : ∀ v' w', GrewG B no w w' v v' (ls ++ [l]) → wpList Try.prog ops Q rest (a.put o.dst v') w') : wpList Try.prog ops Q (o :: rest) a w := by
  refine wpList_plain hgd fun K hK => ?_
  subst hn
  obtain ⟨vs, hr1, hr2⟩ := hr
  obtain ⟨v', w', hrun, hg⟩ := run_appG hr1 hB g c _ hy rfl (by rw [hr2.1]; exact hb)
  have hgg := grew_of hr2 hE hg
  unfold Oper.wp execOp
  simp only [ho, hty, resolve, invoke, builtin, Sem.run_bind, Sem.run_pure, Result.andThen_ok, List.map_toArray, List.map_cons, List.map_nil, hs, hx, hrun]
  exact hK _ _ (h v' w' hgg)
end Go.Proofs.Ytaofmejfdmbfoaa
namespace Go.Proofs.Ytaofmejfdmbfoaa
open Go.ChangeShapes Go.WideShapes Go.ChangeAt Go.RowKit Go.Ln Go.Fs
def lenV : Value → Nat
  | .slice _ n _ => n
  | _ => 0
theorem Row.lenV {B : Nat} {w : World} {v : Value} {l : List Int} (h : Row B w 3 v (Go.Proofs.Ytaofmejfdmbfoaa.ints l)) : Go.Proofs.Ytaofmejfdmbfoaa.lenV v = l.length := by
  obtain ⟨a, cp, rfl, _⟩ := h.shape
  simp [Go.Proofs.Ytaofmejfdmbfoaa.lenV, Go.Proofs.Ytaofmejfdmbfoaa.ints]
set_option maxRecDepth 100000 in
set_option maxHeartbeats 4000000 in
theorem rmerge_any (all : Gr) (sa : Option Addr) (cap : Nat) (w : World) (hl : all.length ≤ 1000) (ht : tot all ≤ 1000) (hi : GrAt w sa all) (hpos : ∀ l ∈ all, ∀ x ∈ l, (0 : Int) ≤ x) :
    Calls Try.prog 65 #[.slice sa all.length cap] w fun e w' => ∃ v b, e = .returned (.tuple #[v, .bool b]) ∧ Below w.heap.size w w' ∧ ((b = true ∧ ∃ m, mergeL all = some m ∧ Row w.heap.size w' 3 v (ints m)) ∨ (b = false ∧ mergeL all = none)) := by
  have HI := Lib.hid hi; clear hi
  have HP := Lib.hid hpos; clear hpos
  obtain ⟨n, hn⟩ : ∃ n, all.length = n := ⟨_, rfl⟩
  rw [hn] at hl ⊢
  have HN := Lib.hid hn; clear hn
  go_enter Try.func65, Try.ntmps65
  go_wp2
  go_loopw [0, 4] (fun al out wr => ∃ (m : List Int) (rest : Gr) (ra : Option Addr) (rc : Nat), al = .slice ra n rc ∧ GrOff wr (fun b => out.ownBlock = some b) ra rest ∧ rest.length = n ∧ Row w.heap.size wr 3 out (ints m) ∧ Below w.heap.size w wr ∧ mergeL all = (mergeL rest).map (m ++ ·) ∧ (∀ l ∈ rest, ∀ x ∈ l, (0 : Int) ≤ x) ∧ m.length + tot rest ≤ tot all) (fun _ out _ => tot all - lenV out)
  case atStart => exact ⟨[], all, sa, cap, rfl, GrOff.of_gr HI.out (fun b h => by cases h), HN.out, Row.nil _ _ _, Below.refl _ _, by simp, HP.out, by simp⟩
  case round =>
    obtain ⟨m, rest, ra, rc, rfl, hgr, hrl, hrow, hup, hmg, hp, htt⟩ := hrel
    have HOF := Lib.hid hgr; have HGR := Lib.hid hgr.gr; have HR := Lib.hid hrow; have HUP := Lib.hid hup; have HMG := Lib.hid hmg; have HPR := Lib.hid hp
    have hlenV := hrow.lenV
    have HRL := Lib.hid hrl
    clear hrl hgr hrow hup hmg hp
    go_wp2
    go_loopw [5, 6, 7] (fun nx lf i wr2 => ∃ k : Nat, k ≤ n ∧ i = .int .i64 k ∧ Below wr.heap.size wr wr2 ∧ ((nx = .int .i64 (-1) ∧ lf = .bool (!emptyAll (rest.take k)) ∧ nextK rest k = none) ∨ ∃ c : Int, nx = .int .i64 c ∧ lf = .bool true ∧ nextO rest = some c)) (fun _ _ i _ => n - (intOf i).toNat)
    case atStart => exact ⟨0, Nat.zero_le _, rfl, Below.refl _ _, .inl ⟨rfl, rfl, rfl⟩⟩
    case round =>
      obtain ⟨k, hk, rfl, hup2, hst⟩ := hrel
      have HUP2 := Lib.hid hup2
      have hgr2 := HGR.out.below hup2
      have HGR2 := Lib.hid hgr2
      have hz2 := hup2.size
      have hz1 := HUP.out.size
      have hww := HUP.out.trans (hup2.mono hz1)
      have HWW := Lib.hid hww
      have hrow2 := HR.out.below hup2
      have HR2 := Lib.hid hrow2
      clear hup2 hgr2 hww hrow2
      rcases hst with ⟨rfl, rfl, hnk⟩ | ⟨c, rfl, rfl, hnx⟩
      · have HNK := Lib.hid hnk; clear hnk
        by_cases hlt : k < n
        · obtain ⟨l, hy⟩ : ∃ l, rest[k]? = some l := ⟨rest[k]'(by rw [HRL.out]; exact hlt), List.getElem?_eq_getElem _⟩
          obtain ⟨bb, off, al, cl, rfl, hb, hc, hil, hml⟩ := HGR2.out k l hy
          have HY := Lib.hid hy
          have HES := Lib.hid (emptyAll_snoc hy)
          cases l with
          | nil =>
            clear hy hil
            go_wp2
            exact ⟨⟨k + 1, by omega, by go_num, HUP2.out, .inl ⟨rfl, by rw [HES.out]; simp, nextK_next HY.out HNK.out (fun x hx => by cases hx)⟩⟩, by simp [intOf]; omega⟩
          | cons x t =>
            obtain ⟨b2, off2, rfl, hb2, hc2⟩ := hil 0 x rfl
            have hxp := HPR.out _ (List.mem_of_getElem? hy) x (by simp)
            rw [Nat.add_zero] at hc2
            have hfc : ∀ w', Below wr.heap.size wr w' → Calls Try.prog 77 #[.slice (some ⟨bb, off, none⟩) n rc, .int .i64 x] w' fun e w'' => e = .returned (.bool (freeB rest x)) ∧ Below w'.heap.size w' w'' := fun w' hb' => by
              have := rfree_any rest (some ⟨bb, off, none⟩) rc x w' (by rw [HRL.out]; omega) (HGR2.out.below hb')
              rw [HRL.out] at this; exact this
            clear hil hy
            cases hf : freeB rest x with
            | true =>
              rw [hf] at hfc
              have HFC := Lib.hid hfc; clear hfc
              have HF := Lib.hid hf; clear hf
              go_wp2_with (go_at_call 77; refine (HFC.out _ (Below.refl _ _)).mono ?_; rintro e w3 ⟨rfl, hu⟩; have hc3 := (hu.cell (p := ⟨bb, off + k, none⟩) hb).trans hc; have hc23 := (hu.cell (p := ⟨b2, off2, none⟩) hb2).trans hc2; have HU := Lib.hid hu; clear hu)
              exact ⟨⟨k + 1, by omega, by go_num, HUP2.out.trans (HU.out.mono HUP2.out.size), .inr ⟨x, rfl, rfl, nextK_stop HY.out HNK.out HF.out⟩⟩, by simp [intOf]; omega⟩
            | false =>
              rw [hf] at hfc
              have HFC := Lib.hid hfc; clear hfc
              have HF := Lib.hid hf; clear hf
              go_wp2_with (go_at_call 77; refine (HFC.out _ (Below.refl _ _)).mono ?_; rintro e w3 ⟨rfl, hu⟩; have HU := Lib.hid hu; clear hu)
              exact ⟨⟨k + 1, by omega, by go_num, HUP2.out.trans (HU.out.mono HUP2.out.size), .inl ⟨rfl, by rw [HES.out]; simp, nextK_next HY.out HNK.out (fun x hx => by cases hx; exact HF.out)⟩⟩, by simp [intOf]; omega⟩
        · obtain rfl : k = n := by omega
          have hno : nextO rest = none := by rw [← nextK_all, HRL.out]; exact HNK.out
          have hm0 := mergeL_none hno
          rw [← HRL.out, List.take_length, HRL.out]
          go_wp2
          go_ret2
          refine ⟨_, _, rfl, HWW.out, ?_⟩
          have hmg := HMG.out
          rw [hm0] at hmg
          cases he : emptyAll rest with
          | true =>
            rw [he, if_pos rfl] at hmg
            exact .inl ⟨rfl, m, by rw [hmg]; simp, HR2.out⟩
          | false =>
            rw [he, if_neg (by simp)] at hmg
            exact .inr ⟨rfl, by rw [hmg]; rfl⟩
      · have hc0 := next_pos HPR.out hnx
        have HNX := Lib.hid hnx; clear hnx
        have hlt0 : ¬ (c < 0) := by omega
        obtain ⟨hs1, hs2⟩ := merge_step HMG.out HNX.out htt
        have HS1 := Lib.hid hs1; have HS2 := Lib.hid hs2
        have hml2 : m.length < 1000 := by
          simp at hs2; omega
        clear hs1 hs2
        go_wp2_with (at_builtin; apply wpList_app TI (B := w.heap.size) (xs := ints m) (g := _) (c := 1) (y := .int .i64 c) (ho := rfl) (hgd := rfl) (hty := rfl) (hs := rfl) (hx := rfl); (case hr => exact World.ownsRow.alloc HR2.out _); (case hB => have := HWW.out.size; simp; omega); (case hy => simp); (case h1 => rfl); (case hb => simp [ints]; omega); intro v2 w4 hg3; have HG3 := Lib.hid hg3; clear hg3)
        all_goals (
          have hr2 : Row w.heap.size (wr.alloc (.cells #[.int .i64 c] 3)) 3 _ (ints m) := World.ownsRow.alloc HR2.out _
          have hzw := HWW.out.size
          have hb2 : Below w.heap.size (wr.alloc (.cells #[.int .i64 c] 3)) w4 := HG3.out.below hr2 (by omega) (by simp; omega)
          have hb4 : Below w.heap.size w w4 := (HWW.out.alloc (by omega) _).trans hb2
          have hz4 := hb4.size
          have hown := HG3.out.own
          rw [← ints_snoc] at hown
          have hlv := hown.lenV
          have hgr4 := (((HOF.out.below HUP2.out).below ((Below.refl _ _).alloc (Nat.le_refl _) _)).kept (w' := w4) (no' := fun b => v2.ownBlock = some b) HG3.out.grow.size (fun b hlt hne => HG3.out.grow.block b hlt (fun e => hne e.symm)) (fun b hlt h => by
            rcases HG3.out.loc with e | e
            · rw [e] at h; exact h
            · rw [e] at h; injection h with h; omega)).gr
          have HOWN := Lib.hid hown; have HB4 := Lib.hid hb4; have HGR4 := Lib.hid hgr4
          clear hr2 hb2 hb4 hown hgr4
          go_wp2
          go_loopw [8, 9] (fun rs i wr3 => ∃ k : Nat, k ≤ n ∧ i = .int .i64 k ∧ Below w4.heap.size w4 wr3 ∧ RowGr w4.heap.size (fun b => v2.ownBlock = some b) wr3 rs (wipe (rest.take k) c)) (fun _ i _ => n - (intOf i).toNat)
          case atStart => exact ⟨0, Nat.zero_le _, rfl, Below.refl _ _, RowGr.nil _ _ _⟩
          case round =>
            obtain ⟨k3, hk3, rfl, hup3, hrg⟩ := hrel
            have HUP3 := Lib.hid hup3; have HRG := Lib.hid hrg
            have hz3 := hup3.size
            by_cases hlt3 : k3 < n
            · obtain ⟨l, hy⟩ : ∃ l, rest[k3]? = some l := ⟨rest[k3]'(by rw [HRL.out]; exact hlt3), List.getElem?_eq_getElem _⟩
              obtain ⟨bb, off, al, cl, rfl, hb, hc, hil, hml⟩ := (HGR4.out.below hup3) k3 l hy
              have hlt1 : l.length ≤ 1000 := by have := tot_mem (List.mem_of_getElem? hy); omega
              have HWI := Lib.hid (wipe_snoc c hy)
              have hwl : (wipe (rest.take k3) c).length ≤ 1000 := by rw [wipe_length, List.length_take]; omega
              have hwo := rwithout_any wr l al cl c wr (by omega) hil (Below.refl _ _)
              have HWO := Lib.hid hwo
              clear hwo hy hil hml hup3 hrg
              go_wp2_with (first
                | (go_at_call 67; refine HWO.out.mono ?_; rintro e w5 ⟨v5, rfl, hu, hr5⟩; obtain ⟨al5, cp5, rfl, hE⟩ := row_elem hr5 (ownN u8 (fun b => v2.ownBlock = some b)) (fun b hb => by rcases hb with hb | hb; exact (HRG.out.lt b hb).2; have := (HOWN.out.lt b hb).2; omega); have hE2 := hE.kept (w' := w5.alloc (.cells #[.slice al5 (withoutL l c).length cp5] 25)) (by simp) (fun b hlt _ => Below.heap_alloc _ _ _ hlt) (fun _ _ h => h); have HE := Lib.hid hE2; have HU5 := Lib.hid hu; clear hu hr5 hE hE2)
                | (at_builtin; apply wpList_appG (B := w4.heap.size) (ls := wipe (rest.take k3) c) (g := w5.heap.size) (c := 1) (al := al5) (l := withoutL l c) (n := (withoutL l c).length) (cp := cp5) (hn := rfl) (ho := rfl) (hgd := rfl) (hty := rfl) (hs := rfl) (hx := rfl); (case hr => exact (HRG.out.below HU5.out).below ((Below.refl _ _).alloc (Nat.le_refl _) _)); (case hB => have := HU5.out.size; simp; omega); (case hy => simp); (case hE => exact HE.out); (case hb => omega); intro v6 w6 hg6; have HG6 := Lib.hid hg6; clear hg6))
              have hzs : wr.heap.size ≤ w5.heap.size := HU5.out.size
              have hrg6 := (HRG.out.below HU5.out).below ((Below.refl _ _).alloc (Nat.le_refl _) (.cells #[.slice al5 (withoutL l c).length cp5] 25))
              have hb6 : Below w4.heap.size w4 w6 := ((HUP3.out.trans (HU5.out.mono hz3)).alloc (by omega) _).trans (HG6.out.below hrg6 (Nat.le_refl _) (by simp; omega))
              exact ⟨⟨k3 + 1, by omega, by go_num, hb6, by rw [HWI.out]; exact HG6.out.own⟩, by simp [intOf]; omega⟩
            · obtain rfl : k3 = n := by omega
              rw [← HRL.out, List.take_length] at hrg
              obtain ⟨a7, cp7, hv7, ho7, _⟩ := hrg.off (fun b hb e => by have := (HRG.out.lt b hb).1; have := (HOWN.out.lt b e).2; omega)
              rw [wipe_length, HRL.out] at hv7
              subst hv7
              have HO7 := Lib.hid ho7
              have hr7 := HOWN.out.below hup3
              have HR7 := Lib.hid hr7
              have hw7 := HB4.out.trans (hup3.mono hz4)
              have HW7 := Lib.hid hw7
              clear ho7 hrg hup3 hr7 hw7 HRG HUP3
              go_wp2
              refine ⟨⟨m ++ [c], wipe rest c, _, _, rfl, HO7.out, by rw [wipe_length, HRL.out], HR7.out, HW7.out, HS1.out, wipe_pos HPR.out, HS2.out⟩, ?_⟩
              have hs2 := HS2.out
              have htp : 0 < tot rest := by have := tot_wipe_lt (nextO_mem HNX.out).2; omega
              simp only [List.length_append, List.length_cons, List.length_nil] at hs2 hlv
              show tot all - lenV v2 < tot all - lenV _
              rw [hlv, hlenV]; omega)
end Go.Proofs.Ytaofmejfdmbfoaa
namespace Go.Proofs.Ytaofmejfdmbfoaa
open Go.ChangeShapes Go.WideShapes Go.ChangeAt Go.RowKit Go.Ln Go.Fs
def noB : Nat → Prop := fun _ => False
/-- what lists returns -/
def ListsP (g : Gr) (c : Nat) (w : World) (e : Ending) (w' : World) : Prop :=
  Below w.heap.size w w' ∧ ((lackB g c = true ∧ e = .returned (.tuple #[.slice none 0 0, .bool false])) ∨ (lackB g c = false ∧ ∃ v, e = .returned (.tuple #[v, .bool true]) ∧ RowGr w.heap.size noB w' v (listsO g c)))
set_option maxRecDepth 100000 in
set_option maxHeartbeats 4000000 in
theorem rlists_any (g : Gr) (sa : Option Addr) (cap : Nat) (hg : goodB g = true) (acc : Gr) (oa : Option Addr) (oc : Nat) (_hal : acc.length ≤ 19) (c : Nat) (hc : c < 3 + g.length) (hacc : ∀ p ∈ par g c, acc[p.toNat]? = some (linO g p.toNat)) (w : World) (hi : GrAt w sa g) (ho : GrAt w oa acc) :
    Calls Try.prog 38 #[.slice sa g.length cap, .slice oa acc.length oc, .int .i64 c] w (ListsP g c w) := by
  have hlen := good_len hg
  have hpl := par_len hg c
  have HI := Lib.hid hi; have HO := Lib.hid ho; have HG := Lib.hid hg; have HAC := Lib.hid hacc
  clear hi ho hg hacc
  unfold ListsP
  go_enter Try.func38, Try.ntmps38
  go_wp2_with (go_at_call 66; refine (rparents_any g _ _ c (by omega) hc _ HI.out).mono ?_; rintro e w2 ⟨⟨ap, cp, rfl, hip, hcp⟩, rfl⟩; have HIP := Lib.hid hip; have HCP := Lib.hid hcp; clear hip hcp)
  go_loopw [8, 10] (fun v i wr => ∃ k : Nat, k ≤ (par g c).length ∧ i = .int .i64 k ∧ Below w.heap.size w wr ∧ lackK g c k = false ∧ RowGr w.heap.size noB wr v (listsK g c k)) (fun _ i _ => (par g c).length - (intOf i).toNat)
  case atStart => exact ⟨0, Nat.zero_le _, rfl, Below.refl _ _, rfl, RowGr.nil _ _ _⟩
  case round =>
    obtain ⟨k, hk, rfl, hup, hlk, hrg⟩ := hrel
    have HUP := Lib.hid hup; have HLK := Lib.hid hlk; have HRG := Lib.hid hrg
    have hz := hup.size
    by_cases hlt : k < (par g c).length
    · obtain ⟨p, hp⟩ : ∃ p, (par g c)[k]? = some p := ⟨_, List.getElem?_eq_getElem hlt⟩
      have hpm := List.mem_of_getElem? hp
      have hpb := par_mem HG.out hpm
      obtain ⟨b, off, rfl, hb, hcell⟩ := (HIP.out.below hup) k p hp
      have hac := HAC.out p hpm
      have hacl : p.toNat < acc.length := (List.getElem?_eq_some_iff.1 hac).1
      obtain ⟨ob, oo, al, cl, rfl, hob, hoc, hil, hml⟩ := (HO.out.below hup) _ _ hac
      obtain ⟨pn, rfl⟩ : ∃ pn : Nat, p = (pn : Int) := ⟨p.toNat, by omega⟩
      rw [Int.toNat_natCast] at hoc hacl
      have hls := linO_small HG.out (c := pn) (by omega)
      have hwd : linO g pn ≠ [] → withoutL (linO g pn) 0 = (linO g pn).dropLast := fun h => wo_drop HG.out hc hpm h
      have hlks : lackK g c (k + 1) = (lackK g c k || (linO g pn).isEmpty) := lackK_snoc hp
      have hlss : listsK g c (k + 1) = listsK g c k ++ [(linO g pn).dropLast] := listsK_snoc hp
      have HWD := Lib.hid hwd; have HLKS := Lib.hid hlks; have HLS := Lib.hid hlss
      clear hwd hlks hlss
      have hkl := listsK_length g c k
      rw [Int.toNat_natCast] at hil
      clear hp hpm hac hml hup hlk hrg
      cases hl : linO g pn with
      | nil =>
        have hlack : lackB g c = true := by
          rw [← lackK_all]
          have h1 : lackK g c (k + 1) = true := by rw [HLKS.out, hl]; simp
          unfold lackK at h1 ⊢
          obtain ⟨x, hx, hxe⟩ := List.any_eq_true.1 h1
          exact List.any_eq_true.2 ⟨x, (List.take_length (l := par g c)).symm ▸ List.mem_of_mem_take hx, hxe⟩
        have HLA := Lib.hid hlack
        rw [hl] at hoc
        simp only [List.length_nil] at hoc
        clear hil hlack
        go_wp2
        go_ret2
        exact ⟨HUP.out, .inl ⟨HLA.out, rfl⟩⟩
      | cons x t =>
        have hll : (linO g pn).length = t.length + 1 := by rw [hl]; rfl
        have hwo := rwithout_any wr (linO g pn) al cl 0 wr (by omega) hil (Below.refl _ _)
        rw [HWD.out (by rw [hl]; simp), hll] at hwo
        rw [hll] at hoc
        have HWO := Lib.hid hwo
        obtain ⟨dl, hdl⟩ : ∃ x, x = (linO g pn).dropLast := ⟨_, rfl⟩
        rw [← hdl] at HWO HLS
        have hns : (linO g pn).isEmpty = false := by rw [hl]; rfl
        have HNS := Lib.hid hns
        clear hwo hil hl hll hns hls hdl
        go_wp2_with (first
          | (go_at_call 67; refine HWO.out.mono ?_; rintro e w5 ⟨v5, rfl, hu, hr5⟩; obtain ⟨al5, cp5, rfl, hE⟩ := row_elem hr5 (ownN u8 noB) (fun b hb => by rcases hb with hb | hb; exact (HRG.out.lt b hb).2; exact hb.elim); have hE2 := hE.kept (w' := w5.alloc (.cells #[.slice al5 dl.length cp5] 25)) (by simp) (fun b hlt _ => Below.heap_alloc _ _ _ hlt) (fun _ _ h => h); have HE := Lib.hid hE2; have HU5 := Lib.hid hu; clear hu hr5 hE hE2)
          | (at_builtin; apply wpList_appG (B := w.heap.size) (no := noB) (ls := listsK g c k) (g := w5.heap.size) (c := 1) (al := al5) (l := dl) (n := dl.length) (cp := cp5) (hn := rfl) (ho := rfl) (hgd := rfl) (hty := rfl) (hs := rfl) (hx := rfl); (case hr => exact (HRG.out.below HU5.out).below ((Below.refl _ _).alloc (Nat.le_refl _) _)); (case hB => have := HU5.out.size; simp; omega); (case hy => simp); (case hE => exact HE.out); (case hb => omega); intro v6 w6 hg6; have HG6 := Lib.hid hg6; clear hg6))
        have hzs : wr.heap.size ≤ w5.heap.size := HU5.out.size
        have hrg6 := (HRG.out.below HU5.out).below ((Below.refl _ _).alloc (Nat.le_refl _) (.cells #[.slice al5 dl.length cp5] 25))
        have hb6 : Below w.heap.size w w6 := ((HUP.out.trans (HU5.out.mono hz)).alloc (by omega) _).trans (HG6.out.below hrg6 (Nat.le_refl _) (by simp; omega))
        exact ⟨⟨k + 1, by omega, by go_num, hb6, by rw [HLKS.out, HLK.out, HNS.out]; rfl, by rw [HLS.out]; exact HG6.out.own⟩, by simp [intOf]; omega⟩
    · obtain rfl : k = (par g c).length := by omega
      have hla : lackB g c = false := by rw [← lackK_all]; exact HLK.out
      have HLA := Lib.hid hla
      have hE : ElemOk (wr.alloc (.cells #[.slice ap (par g c).length cp] 25)) (ownN u8 noB) ap (par g c) cp := ElemOk.of_ints ((HIP.out.below HUP.out).below ((Below.refl _ _).alloc (Nat.le_refl _) _)) HCP.out.1 HCP.out.2 (fun b off hab hne hno => by
        obtain ⟨x, hx⟩ : ∃ x, (par g c)[0]? = some x := ⟨_, List.getElem?_eq_getElem (List.length_pos_iff.2 hne)⟩
        obtain ⟨b', off', h1, h2, _⟩ := HIP.out 0 x hx
        rw [hab] at h1
        injection h1 with h1
        injection h1 with h3 _ _
        subst h3
        rcases hno with h | h
        · have := (HRG.out.lt b h).1; omega
        · exact h.elim)
      have HE := Lib.hid hE
      clear hla hlk hrg hup hE
      go_wp2_with (at_builtin; apply wpList_appG (B := w.heap.size) (no := noB) (ls := listsK g c (par g c).length) (g := wr.heap.size) (c := 1) (al := ap) (l := par g c) (n := (par g c).length) (cp := cp) (hn := rfl) (ho := rfl) (hgd := rfl) (hty := rfl) (hs := rfl) (hx := rfl); (case hr => exact HRG.out.below ((Below.refl _ _).alloc (Nat.le_refl _) _)); (case hB => simp; omega); (case hy => simp); (case hE => exact HE.out); (case hb => have := listsK_length g c (par g c).length; omega); intro v6 w6 hg6; have HG6 := Lib.hid hg6; clear hg6)
      go_ret2
      refine ⟨(HUP.out.alloc hz _).trans (HG6.out.below (HRG.out.below ((Below.refl _ _).alloc (Nat.le_refl _) _)) (Nat.le_refl _) (by simp; omega)), .inr ⟨HLA.out, _, rfl, ?_⟩⟩
      have := HG6.out.own
      rw [listsK_all] at this
      exact this
end Go.Proofs.Ytaofmejfdmbfoaa
namespace Go.Proofs.Ytaofmejfdmbfoaa
open Go.ChangeShapes Go.WideShapes Go.ChangeAt Go.RowKit Go.Ln Go.Fs
theorem infoI : (Try.prog.info? 3).map (fun i => (i.zero, i.size, i.bytes)) = some (some (.int .i64 0), 1, 8) := by kernel_rfl
theorem underI : Try.prog.underlying 25 = some (.slice 3) := by kernel_rfl
set_option maxRecDepth 100000 in
/-- an append of many numbers -/
theorem run_appsI {B : Nat} {w : World} {v : Value} {xs : List Value} (hr : Row B w 3 v xs) (hB : B ≤ w.heap.size) (sa : Option Addr) (c : Nat) (news : List Value) (hx : ∀ k u, news[k]? = some u → ∃ b off, sa = some ⟨b, off, none⟩ ∧ w.cell? ⟨b, off + k, none⟩ = some u) (h1 : ∀ u ∈ news, u.oneCell' = true) (hb : xs.length + news.length < 1000000) :
    ∃ v' w', (Builtin.append_ #[25, 25] 25 #[v, .slice sa news.length c]).run Try.prog w = .ok v' w' ∧ Grew B w w' 3 v v' (xs ++ news) := by
  have hI := infoI
  cases hi : Try.prog.info? 3 with
  | none => rw [hi] at hI; cases hI
  | some i =>
    rw [hi] at hI
    simp only [Option.map_some, Option.some.injEq, Prod.mk.injEq] at hI
    rcases sa with _ | ad
    · have : news = [] := by
        cases news with
        | nil => rfl
        | cons y ys => obtain ⟨b, off, h, _⟩ := hx 0 y rfl; cases h
      subst this
      refine ⟨v, w, ?_, ⟨by simpa using hr, World.grownBy.refl w _, .inl rfl⟩⟩
      rcases hr.2 with ⟨rfl, _⟩ | ⟨g, cap, cur, rfl, _, _, hle, _⟩
      · simp [Builtin.append_, run_underlying underI, sizeOf, typeInfo, hi, Builtin.lenOf, Builtin.firstCells]
      · simp [Builtin.append_, run_underlying underI, sizeOf, typeInfo, hi, Builtin.lenOf, Builtin.firstCells, hle, storeCells]
    · have hcells : ∀ j u, news[j]? = some u → w.cell? (ad.add j) = some u := by
        intro j u hu
        obtain ⟨b, off, h, hc⟩ := hx j u hu
        injection h with h
        subst h
        rw [WideShapes.add_plain]; exact hc
      obtain ⟨v', w', hrun, h2, h3, _, h5⟩ := run_append_own_at (P := Try.prog) w B 25 25 3 i _ 1 8 underI hi hI.1 hI.2.1 hI.2.2 rfl (by decide) v xs.length xs hr ad news.length c news (by simp) hcells h1 (by unfold maxLen; omega) (by omega) hB
      exact ⟨v', w', hrun, by unfold Row; simpa using h2, h3, h5⟩
theorem wpList_appsI {B : Nat} {w : World} {ops : Array Oper} {rest : List Oper} {o : Oper} {a : Act} {Q : Exit → Act → World → Prop} (hgd : o.guard = none) (s x : Operand)
    (ho : o.op = .call { callee := .builtin .append, args := #[s, x], argTypes := #[25, 25] }) (hty : o.type = 25)
    {v : Value} {xs : List Value} (hs : a.eval s = v) (hr : Row B w 3 v xs) (hB : B ≤ w.heap.size) (sa : Option Addr) (n c : Nat) (news : List Value) (hnl : news.length = n) (hx : a.eval x = .slice sa n c) (hx2 : ∀ k u, news[k]? = some u → ∃ b off, sa = some ⟨b, off, none⟩ ∧ w.cell? ⟨b, off + k, none⟩ = some u) (h1 : ∀ u ∈ news, u.oneCell' = true) (hb : xs.length + news.length < 1000000)
    (h : ∀ v' w', Grew B w w' 3 v v' (xs ++ news) → wpList Try.prog ops Q rest (a.put o.dst v') w') : wpList Try.prog ops Q (o :: rest) a w := by
  refine wpList_plain hgd fun K hK => ?_
  subst hnl
  obtain ⟨v', w', hrun, hg⟩ := run_appsI hr hB sa c news hx2 h1 hb
  unfold Oper.wp execOp
  simp only [ho, hty, resolve, invoke, builtin, Sem.run_bind, Sem.run_pure, Result.andThen_ok, List.map_toArray, List.map_cons, List.map_nil, hs, hx, hrun]
  exact hK _ _ (h v' w' hg)
theorem one_row (w : World) (x : Value) : Row w.heap.size (w.alloc (.cells #[x] 3)) 3 (.slice (some ⟨w.heap.size, 0, none⟩) 1 1) [x] :=
  ⟨rfl, .inr ⟨w.heap.size, 1, _, rfl, Nat.le_refl _, heap_alloc_new _ _, Nat.le_refl _, by decide, rfl, rfl⟩⟩
set_option maxRecDepth 100000 in
set_option maxHeartbeats 4000000 in
theorem rorders_any (g : Gr) (sa : Option Addr) (cap : Nat) (hg : goodB g = true) (w : World) (hi : GrAt w sa g) :
    Calls Try.prog 37 #[.slice sa g.length cap] w fun e w' => ∃ v, e = .returned v ∧ Below w.heap.size w w' ∧ RowGr w.heap.size noB w' v (ordF (pars g)) := by
  have hlen := good_len hg
  have HI := Lib.hid hi; have HG := Lib.hid hg
  clear hi hg
  go_enter Try.func37, Try.ntmps37
  go_wp2
  go_loopw [3, 4] (fun out cv wr => ∃ k : Nat, 1 ≤ k ∧ k ≤ 3 + g.length ∧ cv = .int .i64 k ∧ Below w.heap.size w wr ∧ RowGr w.heap.size noB wr out (ordF ((pars g).take k))) (fun _ i _ => 3 + g.length - (intOf i).toNat)
  case atStart =>
    refine ⟨1, Nat.le_refl _, by omega, rfl, ((Below.refl _ _).alloc (Nat.le_refl _) _).alloc (by simp) _, [.slice (some ⟨w.heap.size, 0, none⟩) 1 1], ?_, rfl, ?_⟩
    · have h := heap_alloc_new (w.alloc (.cells #[.int .i64 0] 3)) (.cells #[.slice (some ⟨w.heap.size, 0, none⟩) 1 1] 25)
      rw [show (w.alloc (.cells #[.int .i64 0] 3)).heap.size = w.heap.size + 1 by simp] at h
      exact ⟨rfl, .inr ⟨w.heap.size + 1, 1, _, rfl, by omega, h, Nat.le_refl _, by decide, rfl, rfl⟩⟩
    · intro k l hl
      cases k with
      | succ k => cases k <;> cases hl
      | zero =>
        cases hl
        refine ⟨some ⟨w.heap.size, 0, none⟩, 1, rfl, Nat.le_refl _, by decide, fun i x hx => ?_⟩
        cases i with
        | succ i =>
          have h0 : ([0] : List Int)[i + 1]? = some x := hx
          simp at h0
        | zero =>
          cases hx
          refine ⟨w.heap.size, 0, rfl, by simp; omega, ?_, fun h => ?_⟩
          · have hb : ((w.alloc (.cells #[.int .i64 0] 3)).alloc (.cells #[.slice (some ⟨w.heap.size, 0, none⟩) 1 1] 25)).heap[w.heap.size]? = (w.alloc (.cells #[.int .i64 0] 3)).heap[w.heap.size]? := Below.heap_alloc _ _ _ (by simp)
            rw [cell_of_block hb, World.cell?_alloc_at _ _ _ _ rfl]; rfl
          · rcases h with h | h
            · have : w.heap.size + 1 = w.heap.size := by injection h
              omega
            · exact h.elim
  case round =>
    obtain ⟨k, hk1, hk, rfl, hup, hrg⟩ := hrel
    have HUP := Lib.hid hup; have HRG := Lib.hid hrg
    have hz := hup.size
    have hw3 : IntKind.i64.wrap (3 + (g.length : Int)) = 3 + (g.length : Int) := by rw [IntKind.wrap_i64]; omega
    by_cases hlt : (k : Int) < 3 + (g.length : Int)
    · obtain ⟨oa, oc, rfl, hgo, _⟩ := hrg.shape
      have hol : (ordF ((pars g).take k)).length = k := by rw [ordF_length, List.length_take, pars_len]; omega
      have hli := rlists_any g sa cap HG.out (ordF ((pars g).take k)) oa oc (by omega) k (by omega) (fun p hp => by have := par_mem HG.out hp; exact ord_get hk (by omega)) wr (HI.out.below hup) hgo
      rw [hol] at hli
      have hrgo := hrg
      rw [hol] at hrgo
      have HRG2 := Lib.hid hrgo
      clear hrgo
      have HLI := Lib.hid hli
      have HNX := Lib.hid (ord_next HG.out (c := k) (by omega))
      have hle := linO_eq HG.out (c := k) (by omega)
      rw [if_neg (by omega)] at hle
      have hws : IntKind.i64.wrap ((k : Int) + 1) = (k : Int) + 1 := by rw [IntKind.wrap_i64]; omega
      rw [hol]
      unfold ListsP at hli HLI
      clear hli hgo hup hrg
      cases hlk : lackB g k with
      | true =>
        rw [hlk, if_pos rfl] at hle
        have HLE := Lib.hid hle
        rw [hlk] at HLI
        clear hle hlk
        go_wp2_with (first
          | (go_at_call 38; refine HLI.out.mono ?_; (rintro e w2 ⟨hu, ⟨_, rfl⟩ | ⟨hb, _⟩⟩ <;> (first | (cases hb; done) | skip)); have HU := Lib.hid hu; clear hu)
          | (at_builtin; apply wpList_appG (B := w.heap.size) (no := noB) (ls := ordF ((pars g).take k)) (g := w2.heap.size) (c := 1) (al := none) (l := []) (n := 0) (cp := 0) (hn := rfl) (ho := rfl) (hgd := rfl) (hty := rfl) (hs := rfl) (hx := rfl); (case hr => have := HRG.out; rw [hol] at this; exact (this.below HU.out).below ((Below.refl _ _).alloc (Nat.le_refl _) _)); (case hB => have := HU.out.size; simp; omega); (case hy => simp); (case hE => exact ⟨Nat.le_refl _, Nat.zero_le _, fun i x hx => by simp at hx⟩); (case hb => omega); intro v6 w6 hg6; have HG6 := Lib.hid hg6; clear hg6))
        have hrgo := HRG.out
        rw [hol] at hrgo
        have hrg6 := (hrgo.below HU.out).below ((Below.refl _ _).alloc (Nat.le_refl _) (.cells #[.slice none 0 0] 25))
        have hb6 : Below w.heap.size w w6 := ((HUP.out.trans (HU.out.mono hz)).alloc (by have := HU.out.size; omega) _).trans (HG6.out.below hrg6 (Nat.le_refl _) (by have := HU.out.size; simp; omega))
        exact ⟨⟨k + 1, by omega, by omega, by go_num, hb6, by rw [HNX.out, HLE.out]; exact HG6.out.own⟩, by simp [intOf]; omega⟩
      | false =>
        rw [hlk, if_neg (by simp)] at hle
        rw [hlk] at HLI
        obtain ⟨hf1, hf2, hf3⟩ := lists_fit HG.out (c := k) (by omega) hlk
        have HF3 := Lib.hid hf3
        clear hf3
        cases hm : mergeL (listsO g k) with
        | none =>
          rw [hm] at hle
          have HLE := Lib.hid hle
          have HM := Lib.hid hm
          clear hle hlk hm
          go_wp2_with (first
            | (go_at_call 38; refine HLI.out.mono ?_; (rintro e w2 ⟨hu, ⟨hb, _⟩ | ⟨_, v2, rfl, hr2⟩⟩ <;> (first | (cases hb; done) | skip)); obtain ⟨a2, c2, rfl, hg2, _⟩ := hr2.shape; have HU := Lib.hid hu; have HG2 := Lib.hid hg2; clear hu hr2 hg2)
            | (go_at_call 65; refine (rmerge_any (listsO g k) a2 c2 w2 (by omega) (by omega) HG2.out HF3.out).mono ?_; (rintro e w3 ⟨v3, b3, rfl, hu3, ⟨rfl, m3, hm3, _⟩ | ⟨rfl, _⟩⟩ <;> (first | (rw [HM.out] at hm3; cases hm3; done) | skip)); have HU3 := Lib.hid hu3; clear hu3)
            | (at_builtin; apply wpList_appG (B := w.heap.size) (no := noB) (ls := ordF ((pars g).take k)) (g := w3.heap.size) (c := 1) (al := none) (l := []) (n := 0) (cp := 0) (hn := rfl) (ho := rfl) (hgd := rfl) (hty := rfl) (hs := rfl) (hx := rfl); (case hr => have := HRG.out; rw [hol] at this; exact ((this.below HU.out).below HU3.out).below ((Below.refl _ _).alloc (Nat.le_refl _) _)); (case hB => have := HU.out.size; have := HU3.out.size; simp; omega); (case hy => simp); (case hE => exact ⟨Nat.le_refl _, Nat.zero_le _, fun i x hx => by simp at hx⟩); (case hb => omega); intro v6 w6 hg6; have HG6 := Lib.hid hg6; clear hg6))
          have hrgo := HRG.out
          rw [hol] at hrgo
          have hz2 := HU.out.size
          have hz3 := HU3.out.size
          have hrg6 := ((hrgo.below HU.out).below HU3.out).below ((Below.refl _ _).alloc (Nat.le_refl _) (.cells #[.slice none 0 0] 25))
          have hb6 : Below w.heap.size w w6 := (((HUP.out.trans (HU.out.mono hz)).trans (HU3.out.mono (by omega))).alloc (by omega) _).trans (HG6.out.below hrg6 (Nat.le_refl _) (by simp; omega))
          exact ⟨⟨k + 1, by omega, by omega, by go_num, hb6, by rw [HNX.out, HLE.out]; exact HG6.out.own⟩, by simp [intOf]; omega⟩
        | some m =>
          rw [hm] at hle
          simp only at hle
          have HLE := Lib.hid hle
          have HM := Lib.hid hm
          have hml : m.length ≤ 1000 := by
            have h1 := linO_small HG.out (c := k) (by omega)
            rw [hle] at h1; simp at h1; omega
          obtain ⟨ord, hord⟩ : ∃ x, x = (k : Int) :: (m ++ [0]) := ⟨_, rfl⟩
          rw [← hord] at HLE
          have HORD := Lib.hid (show ([Value.int .i64 (k : Int)] ++ ints m) ++ [.int .i64 0] = ints ord by rw [hord]; simp [ints])
          clear hle hlk hm hord
          go_wp2_with (first
            | (go_at_call 38; refine HLI.out.mono ?_; (rintro e w2 ⟨hu, ⟨hb, _⟩ | ⟨_, v2, rfl, hr2⟩⟩ <;> (first | (cases hb; done) | skip)); obtain ⟨a2, c2, rfl, hg2, _⟩ := hr2.shape; have HU := Lib.hid hu; have HG2 := Lib.hid hg2; clear hu hr2 hg2)
            | (go_at_call 65; refine (rmerge_any (listsO g k) a2 c2 w2 (by omega) (by omega) HG2.out HF3.out).mono ?_; (rintro e w3 ⟨v3, b3, rfl, hu3, ⟨rfl, m3, hm3, hr3⟩ | ⟨rfl, hm3⟩⟩ <;> (first | (rw [HM.out] at hm3; cases hm3; done) | skip)); (obtain rfl : m = m3 := by rw [HM.out] at hm3; injection hm3); obtain ⟨a3, c3, rfl, _, hc3⟩ := hr3.shape; (rw [show (ints m).length = m.length by simp [ints]]); have HC3 := Lib.hid hc3; have HU3 := Lib.hid hu3; clear hu3 hr3 hc3)
            | (at_builtin; apply wpList_appsI (B := w3.heap.size) (xs := [.int .i64 (k : Int)]) (sa := a3) (n := m.length) (c := c3) (news := ints m) (hnl := by simp [ints]) (ho := rfl) (hgd := rfl) (hty := rfl) (hs := rfl) (hx := rfl); (case hr => exact one_row _ _); (case hB => simp); (case hx2 => (intro j u hu; obtain ⟨g3, h1, _, h2, h3⟩ := HC3.out j u hu; exact ⟨g3, 0, h1, by rw [Nat.zero_add]; exact ((Below.refl _ _).alloc (Nat.le_refl _) _).cell (p := ⟨g3, j, none⟩) h2 |>.trans h3⟩)); (case h1 => (intro u hu; simp [ints] at hu; obtain ⟨x, _, rfl⟩ := hu; rfl)); (case hb => simp [ints]; omega); intro v4 w4 hg4; have HG4 := Lib.hid hg4; clear hg4)
            | (at_builtin; apply wpList_app TI (B := w3.heap.size) (xs := [.int .i64 (k : Int)] ++ ints m) (g := w4.heap.size) (c := 1) (y := .int .i64 0) (ho := rfl) (hgd := rfl) (hty := rfl) (hs := rfl) (hx := rfl); (case hr => exact World.ownsRow.alloc HG4.out.own _); (case hB => have := HG4.out.grow.size; simp at this; simp; omega); (case hy => simp); (case h1 => rfl); (case hb => simp [ints]; omega); intro v5 w5 hg5; have HG5 := Lib.hid hg5; clear hg5; obtain ⟨al5, cp5, hv5, hE5⟩ := row_elem (l := ord) (by have := HG5.out.own; rw [HORD.out] at this; exact this) (ownN (.slice oa k oc) noB) (fun b hb => by rcases hb with hb | hb; have := (HRG2.out.lt b hb).2; have := HU.out.size; have := HU3.out.size; omega; exact hb.elim); subst hv5; have hE6 := hE5.kept (w' := w5.alloc (.cells #[.slice al5 ord.length cp5] 25)) (by simp) (fun b hlt _ => Below.heap_alloc _ _ _ hlt) (fun _ _ h => h); have HE := Lib.hid hE6; have hb5 : Below w3.heap.size w3 w5 := (((Below.refl _ _).alloc (Nat.le_refl _) _).trans (HG4.out.below (one_row _ _) (Nat.le_refl _) (by simp))).alloc (by have := HG4.out.grow.size; simp at this; omega) _ |>.trans (HG5.out.below (World.ownsRow.alloc HG4.out.own _) (Nat.le_refl _) (by have := HG4.out.grow.size; simp at this; simp; omega)); have HB5 := Lib.hid hb5; clear hE5 hE6 hb5)
            | (at_builtin; apply wpList_appG (B := w.heap.size) (no := noB) (ls := ordF ((pars g).take k)) (g := w5.heap.size) (c := 1) (al := al5) (l := ord) (n := ord.length) (cp := cp5) (hn := rfl) (ho := rfl) (hgd := rfl) (hty := rfl) (hs := rfl) (hx := rfl); (case hr => have := HRG.out; rw [hol] at this; exact (((this.below HU.out).below HU3.out).below HB5.out).below ((Below.refl _ _).alloc (Nat.le_refl _) _)); (case hB => have := HU.out.size; have := HU3.out.size; have := HB5.out.size; simp; omega); (case hy => simp); (case hE => exact HE.out); (case hb => omega); intro v6 w6 hg6; have HG6 := Lib.hid hg6; clear hg6))
          have hz2 := HU.out.size
          have hz3 := HU3.out.size
          have hz5 := HB5.out.size
          have hrg6 := (((HRG2.out.below HU.out).below HU3.out).below HB5.out).below ((Below.refl _ _).alloc (Nat.le_refl _) (.cells #[.slice al5 ord.length cp5] 25))
          have hb6 : Below w.heap.size w w6 := ((((HUP.out.trans (HU.out.mono hz)).trans (HU3.out.mono (by omega))).trans (HB5.out.mono (by omega))).alloc (by omega) _).trans (HG6.out.below hrg6 (Nat.le_refl _) (by simp; omega))
          exact ⟨⟨k + 1, by omega, by omega, by go_num, hb6, by rw [HNX.out, HLE.out]; exact HG6.out.own⟩, by simp [intOf]; omega⟩
    · obtain rfl : k = 3 + g.length := by omega
      have h := HRG.out
      rw [← pars_len, List.take_length] at h
      go_wp2
      go_ret
      exact ⟨_, rfl, HUP.out, h⟩
end Go.Proofs.Ytaofmejfdmbfoaa
namespace Go.Proofs.Ytaofmejfdmbfoaa
open Go.ChangeShapes Go.WideShapes Go.ChangeAt Go.RowKit Go.Ln Go.Fs
theorem RowGr.mono {B B' : Nat} {no : Nat → Prop} {w : World} {v : Value} {ls : Gr} (h : RowGr B no w v ls) (hb : B' ≤ B) : RowGr B' no w v ls := by
  obtain ⟨vs, h1, h2⟩ := h
  refine ⟨vs, ⟨h1.1, ?_⟩, h2⟩
  rcases h1.2 with h | ⟨g, cap, cur, h3, h4, h5⟩
  · exact .inl h
  · exact .inr ⟨g, cap, cur, h3, Nat.le_trans hb h4, h5⟩
theorem ord_len (g : Gr) : (ordF (pars g)).length = 3 + g.length := by rw [ordF_length, pars_len]
theorem ord_at {g : Gr} {c : Nat} (hc : c < 3 + g.length) : (ordF (pars g))[c]? = some (linO g c) := by
  have := ord_get (g := g) (Nat.le_refl _) hc
  rw [← pars_len, List.take_length] at this
  exact this
set_option maxRecDepth 100000 in
set_option maxHeartbeats 2000000 in
theorem rlinOf_any (g : Gr) (sa : Option Addr) (cap : Nat) (hg : goodB g = true) (c : Nat) (hc : c < 3 + g.length) (w : World) (hi : GrAt w sa g) :
    Calls Try.prog 33 #[.slice sa g.length cap, .int .i64 c] w fun e w' => ∃ a cp, e = .returned (.tuple #[.slice a (linO g c).length cp, .bool (!(linO g c).isEmpty)]) ∧ Below w.heap.size w w' ∧ IntsAt w' a (linO g c) := by
  have hlen := good_len hg
  have hls := linO_small hg hc
  have hor := rorders_any g sa cap hg w hi
  have HOR := Lib.hid hor
  have HCI := Lib.hid (show (c : Int) < ((3 + g.length : Nat) : Int) by omega)
  have hcI := HCI.out
  clear hor hi hg
  cases hl : linO g c with
  | nil =>
    have HL := Lib.hid hl; clear hl
    go_enter Try.func33, Try.ntmps33
    go_wp2_with (go_at_call 37; refine HOR.out.mono ?_; rintro e w2 ⟨v, rfl, hu, hr⟩; obtain ⟨oa, oc, hv, hgo, _⟩ := hr.shape; subst hv; rw [ord_len]; obtain ⟨b, off, al, cl, rfl, hb, hcell, hil, hml⟩ := hgo c _ (ord_at hc); (rw [HL.out] at hcell hil); (simp only [List.length_nil] at hcell); have HIL := Lib.hid hil; have HU := Lib.hid hu; clear hu hr hgo hil hml)
    go_ret2
    exact ⟨_, _, rfl, HU.out, HIL.out⟩
  | cons x t =>
    have HL := Lib.hid hl
    obtain ⟨n, hn⟩ : ∃ n, (x :: t).length = n + 1 := ⟨t.length, rfl⟩
    rw [hl] at hls
    have HN := Lib.hid hn
    rw [hn] at hls ⊢
    clear hl hn
    go_enter Try.func33, Try.ntmps33
    go_wp2_with (go_at_call 37; refine HOR.out.mono ?_; rintro e w2 ⟨v, rfl, hu, hr⟩; obtain ⟨oa, oc, hv, hgo, _⟩ := hr.shape; subst hv; rw [ord_len]; obtain ⟨b, off, al, cl, rfl, hb, hcell, hil, hml⟩ := hgo c _ (ord_at hc); (rw [HL.out] at hcell hil); (rw [HN.out] at hcell); have HIL := Lib.hid hil; have HU := Lib.hid hu; clear hu hr hgo hil hml)
    go_ret2
    exact ⟨_, _, rfl, HU.out, HIL.out⟩
/-- the error of Lin -/
def linE (g : Gr) (c : Int) : Int := if goodB g = true ∧ classB g c = true then (if (linO g c.toNat).isEmpty = true then 7 else 0) else 2
def linL (g : Gr) (c : Int) : List Int := if goodB g = true ∧ classB g c = true then linO g c.toNat else []
set_option maxRecDepth 100000 in
set_option maxHeartbeats 2000000 in
theorem rlin_any (W0 : World) (g : Gr) (sa : Option Addr) (cap : Nat) (hl : (g.length : Int) ≤ 9223372036854775807) (hi : GrAt W0 sa g) (c : Int) (w : World) (hB : Below W0.heap.size W0 w) :
    Calls Try.prog 10 #[.slice sa g.length cap, .int .i64 c] w fun e w' => ∃ a cp, e = .returned (.tuple #[.slice a (linL g c).length cp, .int .i64 (linE g c)]) ∧ Below w.heap.size w w' ∧ IntsAt w' a (linL g c) := by
  have HI := Lib.hid hi; clear hi
  have HB := Lib.hid hB; clear hB
  unfold linE linL
  cases hg : goodB g with
  | false =>
    rw [if_neg (by simp), if_neg (by simp)]
    have HG := Lib.hid hg; clear hg
    go_enter Try.func10, Try.ntmps10
    go_wp2_with (go_at_call 31; refine (rgood_any W0 g _ _ hl HI.out _ HB.out).mono ?_; rintro e w2 ⟨rfl, hu⟩; rw [HG.out]; have HU := Lib.hid hu; clear hu)
    go_ret2
    exact ⟨_, _, rfl, HU.out, IntsAt.nil _ _⟩
  | true =>
    have hlen := good_len hg
    have HG := Lib.hid hg; clear hg
    cases ha : classB g c with
    | false =>
      rw [if_neg (by simp), if_neg (by simp)]
      have HA := Lib.hid ha; clear ha
      go_enter Try.func10, Try.ntmps10
      go_wp2_with (first
        | (go_at_call 31; refine (rgood_any W0 g _ _ hl HI.out _ HB.out).mono ?_; rintro e w2 ⟨rfl, hu⟩; rw [HG.out]; have HU := Lib.hid hu; clear hu)
        | (go_at_call 32; refine (class_any g _ _ _ _ (by omega)).mono ?_; rintro e w3 ⟨rfl, rfl⟩; rw [HA.out]))
      go_ret2
      exact ⟨_, _, rfl, HU.out, IntsAt.nil _ _⟩
    | true =>
      obtain ⟨an, rfl, han⟩ := classB_nat ha
      have HA := Lib.hid ha; clear ha
      rw [if_pos ⟨rfl, rfl⟩, if_pos ⟨rfl, rfl⟩, Int.toNat_natCast]
      cases hle : (linO g an).isEmpty with
      | true =>
        rw [if_pos rfl]
        have hnil : linO g an = [] := List.isEmpty_iff.1 hle
        have HLE := Lib.hid hle; clear hle
        rw [hnil]
        have HN := Lib.hid hnil; clear hnil
        go_enter Try.func10, Try.ntmps10
        go_wp2_with (first
          | (go_at_call 31; refine (rgood_any W0 g _ _ hl HI.out _ HB.out).mono ?_; rintro e w2 ⟨rfl, hu⟩; rw [HG.out]; have HU := Lib.hid hu; clear hu)
          | (go_at_call 32; refine (class_any g _ _ _ _ (by omega)).mono ?_; rintro e w3 ⟨rfl, rfl⟩; rw [HA.out])
          | (go_at_call 33; refine (rlinOf_any g _ _ HG.out an han _ (HI.out.below (HB.out.trans (HU.out.mono HB.out.size)))).mono ?_; rintro e w4 ⟨a4, c4, rfl, hu, hr⟩; rw [HLE.out]; have HU4 := Lib.hid hu; clear hu hr))
        go_ret2
        exact ⟨_, _, rfl, HU.out.trans (HU4.out.mono HU.out.size), IntsAt.nil _ _⟩
      | false =>
        rw [if_neg (by simp)]
        have HLE := Lib.hid hle; clear hle
        go_enter Try.func10, Try.ntmps10
        go_wp2_with (first
          | (go_at_call 31; refine (rgood_any W0 g _ _ hl HI.out _ HB.out).mono ?_; rintro e w2 ⟨rfl, hu⟩; rw [HG.out]; have HU := Lib.hid hu; clear hu)
          | (go_at_call 32; refine (class_any g _ _ _ _ (by omega)).mono ?_; rintro e w3 ⟨rfl, rfl⟩; rw [HA.out])
          | (go_at_call 33; refine (rlinOf_any g _ _ HG.out an han _ (HI.out.below (HB.out.trans (HU.out.mono HB.out.size)))).mono ?_; rintro e w4 ⟨a4, c4, rfl, hu, hr⟩; rw [HLE.out]; have HU4 := Lib.hid hu; have HR4 := Lib.hid hr; clear hu hr))
        go_ret2
        exact ⟨_, _, rfl, HU.out.trans (HU4.out.mono HU.out.size), HR4.out⟩
set_option maxRecDepth 100000 in
theorem rlistsOf_any (g : Gr) (sa : Option Addr) (cap : Nat) (hg : goodB g = true) (c : Nat) (hc : c < 3 + g.length) (w : World) (hi : GrAt w sa g) :
    Calls Try.prog 41 #[.slice sa g.length cap, .int .i64 c] w (ListsP g c w) := by
  have hlen := good_len hg
  have hor := rorders_any g sa cap hg w hi
  have HOR := Lib.hid hor
  have HI := Lib.hid hi; have HG := Lib.hid hg
  clear hor hi hg
  go_enter Try.func41, Try.ntmps41
  go_wp2_with (first
    | (go_at_call 37; refine HOR.out.mono ?_; rintro e w2 ⟨v, rfl, hu, hr⟩; obtain ⟨oa, oc, hv, hgo, _⟩ := hr.shape; subst hv; have HGO := Lib.hid hgo; have HU := Lib.hid hu; clear hu hr hgo)
    | (go_at_call 38; refine (rlists_any g _ _ HG.out (ordF (pars g)) oa oc (by rw [ord_len]; omega) c hc (fun p hp => ord_at (by have := par_mem HG.out hp; omega)) _ (HI.out.below HU.out) HGO.out).mono ?_; rintro e w3 ⟨hu, ⟨hk, rfl⟩ | ⟨hk, v, rfl, hr⟩⟩))
  · go_ret2
    exact ⟨HU.out.trans (hu.mono HU.out.size), .inl ⟨hk, rfl⟩⟩
  · go_ret2
    exact ⟨HU.out.trans (hu.mono HU.out.size), .inr ⟨hk, _, rfl, hr.mono HU.out.size⟩⟩
end Go.Proofs.Ytaofmejfdmbfoaa
