/-
  The program on sets of classes, and which graphs are formed. No condition.
-/
import Derived.Test.YtaofmejfdmbfoaaLhG
import Derived.Test.YtaofmejfdmbfoaaRows
import Derived.WalkKit
import Derived.WalkSpells
import Derived.Outline
import Derived.ProofKit
import Derived.LoopTactic
import Derived.Lib.Hide
import Derived.ChangeArms
import Derived.Laws.Bits64b
import Derived.Handy
import Derived.Maps.AppendAt
import Derived.OwnWalk
namespace Go.Proofs.Ytaofmejfdmbfoaa
open Go.ChangeShapes Go.WideShapes Go.ChangeAt Go.RowKit Go.Ln
/-- a set of classes -/
abbrev SV (n : Nat) : Value := .agg #[.int .u64 (n : Int)]
def hasB (n : Nat) (c : Int) : Bool := decide (0 ≤ c) && decide (c < 19) && n.testBit c.toNat
theorem bit_of (n : Nat) (hn : n < 18446744073709551616) (k : Nat) : (bits .and .u64 ((n : Int) / 2 ^ k) 1 == 1) = n.testBit k := by
  have h1 : ((n : Int) / 2 ^ k) = ((n / 2 ^ k : Nat) : Int) := by
    rw [Int.natCast_ediv]; congr 1
  have h2 : n / 2 ^ k < 18446744073709551616 := Nat.lt_of_le_of_lt (Nat.div_le_self _ _) hn
  rw [h1, show (1 : Int) = ((1 : Nat) : Int) by rfl, bits_and_u64_nat _ _ h2 (by omega), Nat.testBit_eq_decide_div_mod_eq, Nat.and_one_is_mod]
  rw [Bool.eq_iff_iff]; simp; omega
set_option maxRecDepth 100000 in
set_option maxHeartbeats 1000000 in
theorem has_any (n : Nat) (hn : n < 18446744073709551616) (c : Int) (w : World) : Calls Try.prog 48 #[SV n, .int .i64 c] w fun e w' => e = .returned (.bool (hasB n c)) ∧ Below w.heap.size w w' := by
  by_cases h0 : 0 ≤ c
  · by_cases h1 : c < 19
    · have hq : Int.tdiv c 64 = 0 := Int.tdiv_eq_zero_of_lt h0 (by omega)
      have hr : Int.tmod c 64 = c := Int.tmod_eq_of_lt h0 (by omega)
      go_enter Try.func48, Try.ntmps48
      go_wp2
      go_ret
      refine ⟨?_, (Below.refl _ _).alloc (Nat.le_refl _) _⟩
      rw [bit_of n hn c.toNat]
      unfold hasB
      rw [decide_eq_true h0, decide_eq_true h1]; rfl
    · have e : hasB n c = false := by unfold hasB; simp [h1]
      rw [e]; clear e
      go_enter Try.func48, Try.ntmps48
      go_wp2
      go_ret
      exact ⟨rfl, (Below.refl _ _).alloc (Nat.le_refl _) _⟩
  · have e : hasB n c = false := by unfold hasB; simp [h0]
    rw [e]; clear e
    go_enter Try.func48, Try.ntmps48
    go_wp2
    go_ret
    exact ⟨rfl, (Below.refl _ _).alloc (Nat.le_refl _) _⟩
end Go.Proofs.Ytaofmejfdmbfoaa
namespace Go.Proofs.Ytaofmejfdmbfoaa
open Go.ChangeShapes Go.WideShapes Go.ChangeAt Go.RowKit Go.Ln
theorem or_of (n : Nat) (hn : n < 524288) (k : Nat) (hk : k < 19) : bits .or .u64 (n : Int) (IntKind.u64.wrap (2 ^ k)) = ((n ||| 2 ^ k : Nat) : Int) := by
  have h1 : (2 : Int) ^ k = ((2 ^ k : Nat) : Int) := (Int.natCast_pow 2 k).symm
  have h2 : 2 ^ k < 2 ^ 19 := Nat.pow_lt_pow_right (by omega) hk
  have h3 : IntKind.u64.wrap (2 ^ k) = ((2 ^ k : Nat) : Int) := by
    rw [h1, IntKind.wrap_u64]
    generalize 2 ^ k = m at h2 ⊢
    omega
  rw [h3, bits_or_u64_nat _ _ (by omega) (by omega)]
theorem or_small {a b : Nat} (ha : a < 524288) (hb : b < 524288) : a ||| b < 524288 := Nat.or_lt_two_pow (n := 19) ha hb
theorem and_small {a b : Nat} (ha : a < 524288) : a &&& b < 524288 := Nat.lt_of_le_of_lt Nat.and_le_left ha
theorem pow_small {k : Nat} (hk : k < 19) : 2 ^ k < 524288 := Nat.pow_lt_pow_right (m := k) (n := 19) (by omega) hk
set_option maxRecDepth 100000 in
set_option maxHeartbeats 1000000 in
theorem with_any (n : Nat) (hn : n < 524288) (c : Int) (h0 : 0 ≤ c) (h1 : c < 19) (w : World) : Calls Try.prog 68 #[SV n, .int .i64 c] w fun e w' => e = .returned (SV (n ||| 2 ^ c.toNat)) ∧ Below w.heap.size w w' := by
  have hq : Int.tdiv c 64 = 0 := Int.tdiv_eq_zero_of_lt h0 (by omega)
  have hr : Int.tmod c 64 = c := Int.tmod_eq_of_lt h0 (by omega)
  go_enter Try.func68, Try.ntmps68
  go_wp2
  go_region
  go_wp2
  go_returns
  refine ⟨?_, by go_grown⟩
  rw [or_of n hn c.toNat (by omega)]
end Go.Proofs.Ytaofmejfdmbfoaa
namespace Go.Proofs.Ytaofmejfdmbfoaa
open Go.ChangeShapes Go.WideShapes Go.ChangeAt Go.RowKit Go.Ln
theorem or_of2 (n m : Nat) (hn : n < 524288) (hm : m < 524288) : bits .or .u64 (n : Int) (m : Int) = ((n ||| m : Nat) : Int) := bits_or_u64_nat _ _ (by omega) (by omega)
theorem and_of2 (n m : Nat) (hn : n < 524288) (hm : m < 524288) : bits .and .u64 (n : Int) (m : Int) = ((n &&& m : Nat) : Int) := bits_and_u64_nat _ _ (by omega) (by omega)
set_option maxRecDepth 100000 in
set_option maxHeartbeats 1000000 in
theorem join_any (n m : Nat) (hn : n < 524288) (hm : m < 524288) (w : World) : Calls Try.prog 62 #[SV n, SV m] w fun e w' => e = .returned (SV (n ||| m)) ∧ Below w.heap.size w w' := by
  go_enter Try.func62, Try.ntmps62
  go_wp2
  refine wp_loop_rounds 2 ?_
  rw [rounds_succ]
  go_wp2
  go_region
  all_goals go_wp2
  all_goals rw [rounds_succ]
  all_goals go_wp2
  all_goals go_returns
  all_goals refine ⟨?_, by go_grown⟩
  all_goals rw [or_of2 n m hn hm]
set_option maxRecDepth 100000 in
set_option maxHeartbeats 1000000 in
theorem meet_any (n m : Nat) (hn : n < 524288) (hm : m < 524288) (w : World) : Calls Try.prog 69 #[SV n, SV m] w fun e w' => e = .returned (SV (n &&& m)) ∧ Below w.heap.size w w' := by
  go_enter Try.func69, Try.ntmps69
  go_wp2
  refine wp_loop_rounds 2 ?_
  rw [rounds_succ]
  go_wp2
  go_region
  all_goals go_wp2
  all_goals rw [rounds_succ]
  all_goals go_wp2
  all_goals go_returns
  all_goals refine ⟨?_, by go_grown⟩
  all_goals rw [and_of2 n m hn hm]
end Go.Proofs.Ytaofmejfdmbfoaa
namespace Go.Proofs.Ytaofmejfdmbfoaa
open Go.ChangeShapes Go.WideShapes Go.ChangeAt Go.RowKit Go.Ln
/-- a list of numbers lies where a slice begins -/
def IntsAt (W : World) (a : Option Addr) (l : List Int) : Prop := ∀ (k : Nat) (x : Int), l[k]? = some x → ∃ b off, a = some ⟨b, off, none⟩ ∧ b < W.heap.size ∧ W.cell? ⟨b, off + k, none⟩ = some (.int .i64 x)
theorem IntsAt.below {W w : World} {a : Option Addr} {l : List Int} (h : IntsAt W a l) (hb : Below W.heap.size W w) : IntsAt w a l := fun k x hx => by
  obtain ⟨b, off, ha, hlt, hc⟩ := h k x hx
  exact ⟨b, off, ha, Nat.lt_of_lt_of_le hlt hb.size, (hb.cell (p := ⟨b, off + k, none⟩) hlt).trans hc⟩
theorem IntsAt.nil (W : World) (a : Option Addr) : IntsAt W a [] := fun k x hx => by simp at hx
theorem free_alloc (w w' : World) (o : Obj) (h : Below (w.alloc o).heap.size (w.alloc o) w') : w'.frozen? ⟨w.heap.size, 0, none⟩ = (w.alloc o).frozen? ⟨w.heap.size, 0, none⟩ :=
  h.frozen (p := ⟨w.heap.size, 0, none⟩) (by simp)
/-- what the loop over parents holds -/
def ParRel (_W0 w : World) (l : List Int) (c : Int) (i : Value) (wr : World) : Prop :=
  ∃ k : Nat, k ≤ l.length ∧ i = .int .i64 k ∧ okP c (l.take k) = true ∧ Below w.heap.size w wr ∧ w.heap.size < wr.heap.size ∧ wr.cell? ⟨w.heap.size, 0, none⟩ = some (.int .u64 (maskL (l.take k) : Nat)) ∧ wr.frozen? ⟨w.heap.size, 0, none⟩ = false
set_option maxRecDepth 100000 in
set_option maxHeartbeats 2000000 in
theorem canBe_any (W0 : World) (l : List Int) (a : Option Addr) (cap : Nat) (hl : (l.length : Int) ≤ 9223372036854775807) (hi : IntsAt W0 a l) (c : Int) (hc : c ≤ 19) (w : World) (hB : Below W0.heap.size W0 w) :
    Calls Try.prog 75 #[.slice a l.length cap, .int .i64 c] w fun e w' => e = .returned (.bool (canB l c)) ∧ Below w.heap.size w w' := by
  have HI := Lib.hid hi; clear hi
  have HB := Lib.hid hB; clear hB
  rw [canB_okP]
  by_cases h3 : 3 < (l.length : Int)
  · have e : (decide (l.length ≤ 3) && okP c l) = false := by rw [decide_eq_false (by omega)]; rfl
    rw [e]; clear e
    go_enter Try.func75, Try.ntmps75
    go_wp2
    go_ret
    exact ⟨rfl, Below.refl _ _⟩
  · have e : (decide (l.length ≤ 3) && okP c l) = okP c l := by rw [decide_eq_true (by omega)]; rfl
    rw [e]; clear e
    obtain ⟨ans, hans⟩ : ∃ b, okP c l = b := ⟨_, rfl⟩
    rw [hans]
    have HA := Lib.hid hans; clear hans
    go_enter Try.func75, Try.ntmps75
    go_wp2
    go_loopw [13] (fun i wr => ParRel W0 w l c i wr) (fun i _ => l.length - (intOf i).toNat)
    case atStart => exact ⟨0, Nat.zero_le _, rfl, by simp [okP], (Below.refl _ _).alloc (Nat.le_refl _) _, by simp, by simp [maskL], by simp⟩
    case round =>
      obtain ⟨k, hk, rfl, hok, hup, hsz, hcell, hfr⟩ := hrel
      by_cases hlt : k < l.length
      · obtain ⟨x, hx⟩ : ∃ x, l[k]? = some x := ⟨l[k], List.getElem?_eq_getElem hlt⟩
        obtain ⟨b, off, rfl, hb, hxc⟩ := (HI.out.below (HB.out.trans (hup.mono HB.out.size))) k x hx
        have hms := mask_small c hc _ hok
        have hmh := mask_has c _ hok x
        have hst := okP_stop c l k x hx
        have hnx := okP_next c l k x hx hok
        have hsn : maskL (l.take (k + 1)) = maskL (l.take k) ||| 2 ^ x.toNat := by rw [take_snocI l k x hx, maskL_snoc]
        have HUP := Lib.hid hup; have HMH := Lib.hid hmh; have HST := Lib.hid hst; have HNX := Lib.hid hnx; have HSN := Lib.hid hsn; have HX := Lib.hid hx; have HOK := Lib.hid hok; have HMS := Lib.hid hms
        clear hup hmh hst hnx hsn hx hok hms
        by_cases q1 : x < 3
        · obtain rfl : false = ans := by rw [← HA.out]; exact (HST.out (.inl q1)).symm
          go_wp2
          go_ret
          exact ⟨rfl, HUP.out⟩
        · by_cases q2 : c ≤ x
          · obtain rfl : false = ans := by rw [← HA.out]; exact (HST.out (.inr (.inl q2))).symm
            go_wp2
            go_ret
            exact ⟨rfl, HUP.out⟩
          · generalize hM : maskL (l.take k) = M at *
            have hbit : hasB M x = decide (x ∈ l.take k) := by
              unfold hasB
              rw [decide_eq_true (by omega), decide_eq_true (by omega), HMH.out (by omega)]; rfl
            cases hd : decide (x ∈ l.take k) with
            | true =>
              rw [hd] at hbit
              have hmem := of_decide_eq_true hd
              obtain rfl : false = ans := by rw [← HA.out]; exact (HST.out (.inr (.inr hmem))).symm
              go_wp2_with (go_at_call 48; refine (has_any M (by have := HMS.out; omega) x _).mono ?_; rintro e w2 ⟨rfl, hu⟩; rw [hbit]; have HU := Lib.hid hu; clear hu)
              go_ret
              exact ⟨rfl, HUP.out.trans (HU.out.mono HUP.out.size)⟩
            | false =>
              rw [hd] at hbit
              have hmem := of_decide_eq_false hd
              go_wp2_with (first
                | (go_at_call 48; refine (has_any M (by have := HMS.out; omega) x _).mono ?_; rintro e w2 ⟨rfl, hu⟩; rw [hbit]; have hc2 := (hu.cell (p := ⟨w.heap.size, 0, none⟩) hsz).trans hcell; have hf2 := (hu.frozen (p := ⟨w.heap.size, 0, none⟩) hsz).trans hfr; have hs2 := Nat.lt_of_lt_of_le hsz hu.size; have HU := Lib.hid hu; clear hu)
                | (go_at_call 68; refine (with_any M HMS.out x (by omega) (by omega) _).mono ?_; rintro e w3 ⟨rfl, hu⟩; have hc3 := (hu.cell (p := ⟨w.heap.size, 0, none⟩) hs2).trans hc2; have hf3 := (hu.frozen (p := ⟨w.heap.size, 0, none⟩) hs2).trans hf2; have hs3 := Nat.lt_of_lt_of_le hs2 hu.size; have HU3 := Lib.hid hu; clear hu))
              refine ⟨⟨k + 1, by omega, by go_num, HNX.out (by omega) (by omega) hmem, ?_, by simp; omega, ?_, ?_⟩, by simp [intOf]; omega⟩
              · exact ((HUP.out.trans (HU.out.mono HUP.out.size)).trans (HU3.out.mono (HUP.out.trans (HU.out.mono HUP.out.size)).size)).setCell (by simp) _
              · rw [HSN.out]; simp [World.cell?_setCell_same, hc3]
              · simp [hf3]
      · obtain rfl : k = l.length := by omega
        rw [List.take_length] at hok
        obtain rfl : true = ans := by rw [← HA.out]; exact hok.symm
        go_wp2
        go_ret
        exact ⟨rfl, hup⟩
end Go.Proofs.Ytaofmejfdmbfoaa
namespace Go.Proofs.Ytaofmejfdmbfoaa
open Go.ChangeShapes Go.WideShapes Go.ChangeAt Go.RowKit Go.Ln
def SetRel (w : World) (l : List Int) (i : Value) (wr : World) : Prop :=
  ∃ k : Nat, k ≤ l.length ∧ i = .int .i64 k ∧ Below w.heap.size w wr ∧ w.heap.size + 1 < wr.heap.size ∧ wr.cell? ⟨w.heap.size + 1, 0, none⟩ = some (.int .u64 (maskL (l.take k) : Nat)) ∧ wr.frozen? ⟨w.heap.size + 1, 0, none⟩ = false ∧ wr.cell? ⟨w.heap.size, 0, none⟩ = some (.int .u64 0) ∧ wr.frozen? ⟨w.heap.size, 0, none⟩ = false
set_option maxRecDepth 100000 in
set_option maxHeartbeats 2000000 in
theorem setOf_any (W0 : World) (l : List Int) (a : Option Addr) (cap : Nat) (hl : (l.length : Int) ≤ 9223372036854775807) (hi : IntsAt W0 a l) (hr : ∀ p ∈ l, 0 ≤ p ∧ p < 19) (w : World) (hB : Below W0.heap.size W0 w) :
    Calls Try.prog 63 #[.slice a l.length cap] w fun e w' => e = .returned (SV (maskL l)) ∧ Below w.heap.size w w' := by
  have HI := Lib.hid hi; clear hi
  have HB := Lib.hid hB; clear hB
  have HR := Lib.hid hr; clear hr
  go_enter Try.func63, Try.ntmps63
  go_wp2
  go_loopw [8] (fun i wr => SetRel w l i wr) (fun i _ => l.length - (intOf i).toNat)
  case atStart => exact ⟨0, Nat.zero_le _, rfl, by go_grown, by simp, by simp [maskL], by simp, by simp, by simp⟩
  case round =>
    obtain ⟨k, hk, rfl, hup, hsz, hcell, hfr, hcell0, hfr0⟩ := hrel
    have hsm : maskL (l.take k) < 524288 := mask_small' _ (fun p hp => HR.out p (List.mem_of_mem_take hp))
    by_cases hlt : k < l.length
    · obtain ⟨x, hx⟩ : ∃ x, l[k]? = some x := ⟨l[k], List.getElem?_eq_getElem hlt⟩
      obtain ⟨b, off, rfl, hb, hxc⟩ := (HI.out.below (HB.out.trans (hup.mono HB.out.size))) k x hx
      have hxr := HR.out x (List.mem_of_getElem? hx)
      have hsn : maskL (l.take (k + 1)) = maskL (l.take k) ||| 2 ^ x.toNat := by rw [take_snocI l k x hx, maskL_snoc]
      have HUP := Lib.hid hup; have HSN := Lib.hid hsn; have HX := Lib.hid hx; have HMS := Lib.hid hsm
      clear hup hsn hx hsm
      generalize hM : maskL (l.take k) = M at *
      go_wp2_with (go_at_call 68; refine (with_any M HMS.out x (by omega) (by omega) _).mono ?_; rintro e w3 ⟨rfl, hu⟩; have hc3 := (hu.cell (p := ⟨w.heap.size + 1, 0, none⟩) hsz).trans hcell; have hf3 := (hu.frozen (p := ⟨w.heap.size + 1, 0, none⟩) hsz).trans hfr; have hd3 := (hu.cell (p := ⟨w.heap.size, 0, none⟩) (Nat.lt_of_succ_lt hsz)).trans hcell0; have hg3 := (hu.frozen (p := ⟨w.heap.size, 0, none⟩) (Nat.lt_of_succ_lt hsz)).trans hfr0; have hs3 := Nat.lt_of_lt_of_le hsz hu.size; have HU3 := Lib.hid hu; clear hu)
      refine ⟨⟨k + 1, by omega, by go_num, ?_, by simp; omega, ?_, ?_, ?_, ?_⟩, by simp [intOf]; omega⟩
      · exact (HUP.out.trans (HU3.out.mono HUP.out.size)).setCell (by simp) _
      · rw [HSN.out]; simp [World.cell?_setCell_same, hc3]
      · simp [hf3]
      · rw [World.cell?_setCell_other _ _ _ _ (by intro e; injection e with e1 e2; omega)]; exact hd3
      · simp [hg3]
    · obtain rfl : k = l.length := by omega
      rw [List.take_length] at hcell
      go_wp2
      refine bodyPost_ret (by simp [results, Try.results63, go_sem, World.cell?_setCell_same, hcell0]; try rfl) rfl ?_
      exact ⟨rfl, hup.setCell (by simp) _⟩
end Go.Proofs.Ytaofmejfdmbfoaa
namespace Go.Proofs.Ytaofmejfdmbfoaa
open Go.ChangeShapes Go.WideShapes Go.ChangeAt Go.RowKit Go.Ln
/-- a slice of the call's own, one cell an element -/
def Row (B : Nat) (w : World) (e : TypeId) (v : Value) (xs : List Value) : Prop := w.ownsRow B e 1 v xs.length xs
theorem Row.nil (B : Nat) (w : World) (e : TypeId) : Row B w e (.slice none 0 0) [] := ⟨rfl, .inl ⟨rfl, rfl⟩⟩
theorem Row.lt {B : Nat} {w : World} {e : TypeId} {v : Value} {xs : List Value} (h : Row B w e v xs) : ∀ k, v.ownBlock = some k → B ≤ k ∧ k < w.heap.size := World.ownsRow.lt h
theorem Row.of_block {B : Nat} {w w' : World} {e : TypeId} {v : Value} {xs : List Value} (h : Row B w e v xs) (he : ∀ k, v.ownBlock = some k → w'.heap[k]? = w.heap[k]?) : Row B w' e v xs := by
  refine ⟨h.1, ?_⟩
  rcases h.2 with h1 | ⟨g, cap, cur, rfl, h1, hg, h2⟩
  · exact .inl h1
  · exact .inr ⟨g, cap, cur, rfl, h1, (he g rfl).trans hg, h2⟩
theorem Row.below {B : Nat} {w w' : World} {e : TypeId} {v : Value} {xs : List Value} (h : Row B w e v xs) (hb : Below w.heap.size w w') : Row B w' e v xs :=
  h.of_block fun k hk => hb.block k (h.lt k hk).2
theorem Row.shape {B : Nat} {w : World} {e : TypeId} {v : Value} {xs : List Value} (h : Row B w e v xs) : ∃ a cap, v = .slice a xs.length cap ∧ (a = none → xs = [] ∧ cap = 0) ∧ (∀ k x, xs[k]? = some x → ∃ g, a = some ⟨g, 0, none⟩ ∧ B ≤ g ∧ g < w.heap.size ∧ w.cell? ⟨g, k, none⟩ = some x) := by
  rcases h.2 with ⟨rfl, hn⟩ | ⟨g, cap, cur, rfl, hB, hg, hle, hm, hsz, ht⟩
  · exact ⟨none, 0, by rw [hn], fun _ => ⟨List.length_eq_zero_iff.1 hn, rfl⟩, fun k x hx => by rw [List.length_eq_zero_iff.1 hn] at hx; simp at hx⟩
  · refine ⟨some ⟨g, 0, none⟩, cap, rfl, (fun h => by cases h), fun k x hx => ⟨g, rfl, hB, lt_of_block hg, ?_⟩⟩
    have hk : k < xs.length := (List.getElem?_eq_some_iff.1 hx).1
    have : cur.toList[k]? = some x := by
      rw [← ht, List.getElem?_take] at hx
      rw [if_pos (by omega)] at hx
      exact hx
    rw [Array.getElem?_toList] at this
    simp [World.cell?, hg, this]
/-- what an append to such a slice leaves -/
structure Grew (B : Nat) (w w1 : World) (e : TypeId) (v v1 : Value) (xs1 : List Value) : Prop where
  own : Row B w1 e v1 xs1
  grow : w.grownBy w1 v.ownBlock
  loc : v1.ownBlock = v.ownBlock ∨ v1.ownBlock = some w.heap.size
theorem Grew.below {B C : Nat} {w w1 : World} {e : TypeId} {v v1 : Value} {xs xs1 : List Value} (g : Grew B w w1 e v v1 xs1) (h : Row B w e v xs) (hC : C ≤ B) (hCw : C ≤ w.heap.size) : Below C w w1 :=
  ⟨g.grow.os, g.grow.tape, g.grow.output, g.grow.size, fun k hk => g.grow.block k (by omega) (fun e' => by have := (h.lt k e'.symm).1; omega)⟩
/-- the facts on an element's type that an append asks for -/
structure OneT (t e : TypeId) (b : Nat) : Prop where
  under : Try.prog.underlying t = some (.slice e)
  info : ∃ i z, Try.prog.info? e = some i ∧ i.zero = some z ∧ i.size = 1 ∧ i.bytes = b ∧ z.cells.size = 1
  small : b ≤ 16
theorem oneT_of {t e : TypeId} {b : Nat} (hu : Try.prog.underlying t = some (.slice e)) (hb : b ≤ 16) (h : (match Try.prog.info? e with | some i => (match i.zero with | some z => Nat.beq i.size 1 && Nat.beq i.bytes b && Nat.beq z.cells.size 1 | none => false) | none => false) = true) : OneT t e b := by
  refine ⟨hu, ?_, hb⟩
  split at h
  · rename_i i hi
    split at h
    · rename_i z hz
      simp only [Bool.and_eq_true] at h
      exact ⟨i, z, hi, hz, Nat.eq_of_beq_eq_true h.1.1, Nat.eq_of_beq_eq_true h.1.2, Nat.eq_of_beq_eq_true h.2⟩
    · cases h
  · cases h
theorem run_app {t e : TypeId} {b : Nat} (T : OneT t e b) {B : Nat} {w : World} {v : Value} {xs : List Value} (hr : Row B w e v xs) (hB : B ≤ w.heap.size) (g : Nat) (c : Nat) (x : Value) (hx : w.cell? ⟨g, 0, none⟩ = some x) (h1 : x.oneCell' = true) (hb : xs.length < 1000000) :
    ∃ v' w', (Builtin.append_ #[t, t] t #[v, .slice (some ⟨g, 0, none⟩) 1 c]).run Try.prog w = .ok v' w' ∧ Grew B w w' e v v' (xs ++ [x]) := by
  obtain ⟨i, z, hi, hz0, hz1, hz2, hz3⟩ := T.info
  have hsm := T.small
  obtain ⟨v', w', hrun, h2, h3, _, h5⟩ := run_append_own_at (P := Try.prog) w B t t e i z 1 b T.under hi hz0 hz1 hz2 hz3 (by decide) v xs.length xs hr ⟨g, 0, none⟩ 1 c [x] (by simp) (by
    intro j u hu
    cases j with
    | zero => cases hu; exact hx
    | succ j => simp at hu) (by intro u hu; simp at hu; rw [hu]; exact h1) (by unfold maxLen; omega) (by
    have : (xs.length + 1) * b ≤ 1000001 * 16 := Nat.mul_le_mul (by omega) hsm
    omega) hB
  exact ⟨v', w', hrun, ⟨by unfold Row; simpa using h2, h3, h5⟩⟩
theorem wpList_app {t e : TypeId} {b : Nat} (T : OneT t e b) {B : Nat} {w : World} {ops : Array Oper} {rest : List Oper} {o : Oper} {a : Act} {Q : Exit → Act → World → Prop} (hgd : o.guard = none) (s x : Operand)
    (ho : o.op = .call { callee := .builtin .append, args := #[s, x], argTypes := #[t, t] }) (hty : o.type = t)
    {v : Value} {xs : List Value} (hs : a.eval s = v) (hr : Row B w e v xs) (hB : B ≤ w.heap.size) (g c : Nat) (y : Value) (hx : a.eval x = .slice (some ⟨g, 0, none⟩) 1 c) (hy : w.cell? ⟨g, 0, none⟩ = some y) (h1 : y.oneCell' = true) (hb : xs.length < 1000000)
    (h : ∀ v' w', Grew B w w' e v v' (xs ++ [y]) → wpList Try.prog ops Q rest (a.put o.dst v') w') : wpList Try.prog ops Q (o :: rest) a w := by
  refine wpList_plain hgd fun K hK => ?_
  obtain ⟨v', w', hrun, hg⟩ := run_app T hr hB g c y hy h1 hb
  unfold Oper.wp execOp
  simp only [ho, hty, resolve, invoke, builtin, Sem.run_bind, Sem.run_pure, Result.andThen_ok, List.map_toArray, List.map_cons, List.map_nil, hs, hx, hrun]
  exact hK _ _ (h v' w' hg)
theorem step_app {t e : TypeId} {b : Nat} (T : OneT t e b) {B : Nat} {w : World} {ops : Array Oper} {o : Oper} {a : Act} {K : Act → World → Prop} {Q : Exit → Act → World → Prop} {E : Prop} (hgd : o.guard = none) (s x : Operand)
    (ho : o.op = .call { callee := .builtin .append, args := #[s, x], argTypes := #[t, t] }) (hty : o.type = t)
    (v : Value) (xs : List Value) (hs : a.eval s = v) (hr : Row B w e v xs) (hB : B ≤ w.heap.size) (g c : Nat) (y : Value) (hx : a.eval x = .slice (some ⟨g, 0, none⟩) 1 c) (hy : w.cell? ⟨g, 0, none⟩ = some y) (h1 : y.oneCell' = true) (hb : xs.length < 1000000)
    (h : ∀ v' w', Grew B w w' e v v' (xs ++ [y]) → K (a.put o.dst v') w') : if Region.wanted o (yielded ops a.tmps) = true then Oper.wp Try.prog o a w K Q else E := by
  have hw : Region.wanted o (yielded ops a.tmps) = true := by simp [Region.wanted, hgd]
  rw [if_pos hw]
  obtain ⟨v', w', hrun, hg⟩ := run_app T hr hB g c y hy h1 hb
  unfold Oper.wp execOp
  simp only [ho, hty, resolve, invoke, builtin, Sem.run_bind, Sem.run_pure, Result.andThen_ok, List.map_toArray, List.map_cons, List.map_nil, hs, hx, hrun]
  exact h v' w' hg
theorem TI : OneT 25 3 8 := oneT_of (by kernel_rfl) (by decide) (by kernel_rfl)
theorem TS : OneT 57 75 8 := oneT_of (by kernel_rfl) (by decide) (by kernel_rfl)
end Go.Proofs.Ytaofmejfdmbfoaa
namespace Go.Proofs.Ytaofmejfdmbfoaa
open Go.ChangeShapes Go.WideShapes Go.ChangeAt Go.RowKit Go.Ln
def ints (l : List Int) : List Value := l.map (Value.int .i64)
theorem ints_snoc (l : List Int) (x : Int) : ints (l ++ [x]) = ints l ++ [.int .i64 x] := by simp [ints]
def ListRel (n : Nat) (w : World) (v i : Value) (wr : World) : Prop :=
  ∃ k : Nat, k ≤ 19 ∧ i = .int .i64 k ∧ Below w.heap.size w wr ∧ w.heap.size < wr.heap.size ∧ wr.cell? ⟨w.heap.size, 0, none⟩ = some (.int .u64 (n : Int)) ∧ Row (w.heap.size + 1) wr 3 v (ints (listTo n k))
set_option maxRecDepth 100000 in
set_option maxHeartbeats 2000000 in
theorem list_any (n : Nat) (hn : n < 524288) (w : World) :
    Calls Try.prog 52 #[SV n] w fun e w' => ∃ v, e = .returned v ∧ Below w.heap.size w w' ∧ Row w.heap.size w' 3 v (ints (listM n)) := by
  go_enter Try.func52, Try.ntmps52
  go_wp2
  go_loopw [3, 5] (fun v i wr => ListRel n w v i wr) (fun _ i _ => 19 - (intOf i).toNat)
  case atStart => exact ⟨0, by omega, rfl, by go_grown, by simp, by simp, Row.nil _ _ _⟩
  case round =>
    obtain ⟨k, hk, rfl, hup, hsz, hbx, hrow⟩ := hrel
    have HUP := Lib.hid hup; have HR := Lib.hid hrow
    clear hup hrow
    by_cases hlt : k < 19
    · have hbit : hasB n (k : Int) = n.testBit k := by unfold hasB; rw [decide_eq_true (by omega), decide_eq_true (by omega)]; simp
      have hlen := listTo_length n k
      have hsu := listTo_succ n k
      cases hd : n.testBit k with
      | true =>
        rw [hd] at hbit hsu
        have HSU := Lib.hid hsu; clear hsu
        go_wp2_with (first
          | (go_at_call 48; refine (has_any n (by omega) _ _).mono ?_; rintro e w2 ⟨rfl, hu⟩; rw [hbit]; have HU := Lib.hid hu; clear hu)
          | (at_builtin; apply wpList_app TI (B := w.heap.size + 1) (xs := ints (listTo n k)) (g := _) (c := 1) (y := .int .i64 (k : Int)) (ho := rfl) (hgd := rfl) (hty := rfl) (hs := rfl) (hx := rfl); (case hr => exact World.ownsRow.alloc (HR.out.below HU.out) _); (case hB => have := HU.out.size; simp; omega); (case hy => simp); (case h1 => rfl); (case hb => simp [ints]; omega); intro v2 w3 hg))
        have hr2 : Row (w.heap.size + 1) (w2.alloc (.cells #[.int .i64 (k : Int)] 3)) 3 _ (ints (listTo n k)) := World.ownsRow.alloc (HR.out.below HU.out) _
        have hz2 := HU.out.size
        have hb2 : Below w.heap.size (w2.alloc (.cells #[.int .i64 (k : Int)] 3)) w3 := hg.below hr2 (by omega) (by simp; omega)
        have hb3 : Below w.heap.size w (w2.alloc (.cells #[.int .i64 (k : Int)] 3)) := (HUP.out.trans (HU.out.mono HUP.out.size)).alloc (by omega) _
        refine ⟨⟨k + 1, by omega, by go_num, hb3.trans hb2, Nat.lt_of_lt_of_le (by simp; omega) hg.grow.size, ?_, ?_⟩, by simp [intOf]; omega⟩
        · have e1 : w3.cell? ⟨w.heap.size, 0, none⟩ = (w2.alloc (.cells #[.int .i64 (k : Int)] 3)).cell? ⟨w.heap.size, 0, none⟩ := World.cell?_of_block (hg.grow.block w.heap.size (by simp; omega) (fun e' => by have := (hr2.lt _ e'.symm).1; omega))
          have e2 : (w2.alloc (.cells #[.int .i64 (k : Int)] 3)).cell? ⟨w.heap.size, 0, none⟩ = w2.cell? ⟨w.heap.size, 0, none⟩ := ((Below.refl w2.heap.size w2).alloc (Nat.le_refl _) _).cell (p := ⟨w.heap.size, 0, none⟩) (by show w.heap.size < _; omega)
          rw [e1, e2]; exact (HU.out.cell (p := ⟨w.heap.size, 0, none⟩) hsz).trans hbx
        · have := hg.own
          rw [HSU.out, if_pos trivial, ints_snoc]; exact this
      | false =>
        rw [hd] at hbit hsu
        have HSU := Lib.hid hsu; clear hsu
        go_wp2_with (go_at_call 48; refine (has_any n (by omega) _ _).mono ?_; rintro e w2 ⟨rfl, hu⟩; rw [hbit]; have HU := Lib.hid hu; clear hu)
        refine ⟨⟨k + 1, by omega, by go_num, HUP.out.trans (HU.out.mono HUP.out.size), Nat.lt_of_lt_of_le hsz HU.out.size, (HU.out.cell (p := ⟨w.heap.size, 0, none⟩) hsz).trans hbx, ?_⟩, by simp [intOf]; omega⟩
        rw [HSU.out]
        exact HR.out.below HU.out
    · obtain rfl : k = 19 := by omega
      go_wp2
      go_ret
      exact ⟨_, rfl, HUP.out, HR.out.1, by rcases HR.out.2 with h | ⟨g, cap, cur, h1, h2, h3⟩; exact .inl h; exact .inr ⟨g, cap, cur, h1, by omega, h3⟩⟩
end Go.Proofs.Ytaofmejfdmbfoaa
namespace Go.Proofs.Ytaofmejfdmbfoaa
open Go.ChangeShapes Go.WideShapes Go.ChangeAt Go.RowKit Go.Ln
/-- a graph lies where a slice begins -/
def GrAt (W : World) (a : Option Addr) (g : Gr) : Prop := ∀ (k : Nat) (l : List Int), g[k]? = some l → ∃ b off al cap, a = some ⟨b, off, none⟩ ∧ b < W.heap.size ∧ W.cell? ⟨b, off + k, none⟩ = some (.slice al l.length cap) ∧ IntsAt W al l ∧ (l.length ≤ cap ∧ cap ≤ maxLen)
theorem GrAt.below {W w : World} {a : Option Addr} {g : Gr} (h : GrAt W a g) (hb : Below W.heap.size W w) : GrAt w a g := fun k l hl => by
  obtain ⟨b, off, al, cap, ha, hlt, hc, hi, hm⟩ := h k l hl
  exact ⟨b, off, al, cap, ha, Nat.lt_of_lt_of_le hlt hb.size, (hb.cell (p := ⟨b, off + k, none⟩) hlt).trans hc, hi.below hb, hm⟩
set_option maxRecDepth 100000 in
set_option maxHeartbeats 2000000 in
theorem formed_any (W0 : World) (g : Gr) (a : Option Addr) (cap : Nat) (hl : (g.length : Int) ≤ 9223372036854775807) (hi : GrAt W0 a g) (w : World) (hB : Below W0.heap.size W0 w) :
    Calls Try.prog 57 #[.slice a g.length cap] w fun e w' => e = .returned (.bool (goodB g)) ∧ Below w.heap.size w w' := by
  have HI := Lib.hid hi; clear hi
  have HB := Lib.hid hB; clear hB
  unfold goodB
  by_cases h3 : 16 < (g.length : Int)
  · have e : (decide (g.length ≤ 16) && goodFrom 0 g) = false := by rw [decide_eq_false (by omega)]; rfl
    rw [e]; clear e
    go_enter Try.func57, Try.ntmps57
    go_wp2
    go_ret
    exact ⟨rfl, Below.refl _ _⟩
  · have e : (decide (g.length ≤ 16) && goodFrom 0 g) = goodFrom 0 g := by rw [decide_eq_true (by omega)]; rfl
    rw [e]; clear e
    obtain ⟨ans, hans⟩ : ∃ b, goodFrom 0 g = b := ⟨_, rfl⟩
    rw [hans]
    have HA := Lib.hid hans; clear hans
    go_enter Try.func57, Try.ntmps57
    go_wp2
    go_loopw [10] (fun i wr => ∃ k : Nat, k ≤ g.length ∧ i = .int .i64 k ∧ goodFrom 0 (g.take k) = true ∧ Below w.heap.size w wr) (fun i _ => g.length - (intOf i).toNat)
    case atStart => exact ⟨0, Nat.zero_le _, rfl, rfl, Below.refl _ _⟩
    case round =>
      obtain ⟨k, hk, rfl, hok, hup⟩ := hrel
      have HUP := Lib.hid hup; have HOK := Lib.hid hok
      clear hup hok
      by_cases hlt : k < g.length
      · obtain ⟨l, hx⟩ : ∃ l, g[k]? = some l := ⟨g[k], List.getElem?_eq_getElem hlt⟩
        have hBr := HB.out.trans (HUP.out.mono HB.out.size)
        obtain ⟨b, off, al, cl, rfl, hb, hxc, hil, hml⟩ := HI.out.below hBr k l hx
        have hc3 : (3 : Int) + ((0 : Nat) : Int) + (k : Int) = 3 + (k : Int) := by omega
        have hst := goodFrom_stop g 0 k l hx
        have htk := goodFrom_take g 0 k l hx
        rw [hc3] at hst htk
        have HST := Lib.hid hst; have HTK := Lib.hid htk; have HIL := Lib.hid hil
        have hlm : (l.length : Int) ≤ 9223372036854775807 := by unfold maxLen at hml; omega
        clear hst htk hil hml hx
        cases hc : canB l (3 + (k : Int)) with
        | true =>
          have HC := Lib.hid hc; clear hc
          go_wp2_with (go_at_call 75; refine (canBe_any _ l al cl hlm HIL.out (3 + (k : Int)) (by omega) _ (Below.refl _ _)).mono ?_; rintro e w2 ⟨rfl, hu⟩; rw [HC.out]; have HU := Lib.hid hu; clear hu)
          exact ⟨⟨k + 1, by omega, by go_num, by rw [HTK.out, HOK.out, HC.out]; rfl, HUP.out.trans (HU.out.mono HUP.out.size)⟩, by simp [intOf]; omega⟩
        | false =>
          have HC := Lib.hid hc; clear hc
          obtain rfl : false = ans := by rw [← HA.out]; exact (HST.out HC.out).symm
          go_wp2_with (go_at_call 75; refine (canBe_any _ l al cl hlm HIL.out (3 + (k : Int)) (by omega) _ (Below.refl _ _)).mono ?_; rintro e w2 ⟨rfl, hu⟩; rw [HC.out]; have HU := Lib.hid hu; clear hu)
          go_ret
          exact ⟨rfl, HUP.out.trans (HU.out.mono HUP.out.size)⟩
      · obtain rfl : k = g.length := by omega
        have hok := HOK.out
        rw [List.take_length] at hok
        obtain rfl : true = ans := by rw [← HA.out]; exact hok.symm
        go_wp2
        go_ret
        exact ⟨rfl, HUP.out⟩
end Go.Proofs.Ytaofmejfdmbfoaa
