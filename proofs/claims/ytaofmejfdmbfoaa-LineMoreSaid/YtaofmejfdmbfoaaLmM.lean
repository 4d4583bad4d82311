/-
  One class more in a graph changes nothing of the others; Least of the program, and the library functions that the law asks. No condition.
-/
import Derived.Test.YtaofmejfdmbfoaaLqG
import Derived.Test.YtaofmejfdmbfoaaLhG
import Derived.Test.YtaofmejfdmbfoaaLqR
import Derived.Test.YtaofmejfdmbfoaaXmD
import Derived.Test.YtaofmejfdmbfoaaLoP
namespace Go.Ln
theorem good_snoc {g : Gr} {m : List Int} (hg : goodB g = true) (hl : g.length < 16) (hm : canB m (3 + (g.length : Int)) = true) : goodB (g ++ [m]) = true := by
  simp only [goodB, Bool.and_eq_true, decide_eq_true_eq] at hg ⊢
  refine ⟨by simp; omega, ?_⟩
  have h1 : (g ++ [m])[g.length]? = some m := by simp
  have h2 := goodFrom_take (g ++ [m]) 0 g.length m h1
  have e1 : (g ++ [m]).take (g.length + 1) = g ++ [m] := List.take_of_length_le (by simp)
  have e2 : (g ++ [m]).take g.length = g := List.take_left' rfl
  rw [e1, e2] at h2
  rw [h2, hg.2]
  have e3 : (3 : Int) + ((0 : Nat) : Int) + (g.length : Int) = 3 + (g.length : Int) := by omega
  rw [e3, hm]; rfl
theorem pars_snoc (g : Gr) (m : List Int) : pars (g ++ [m]) = pars g ++ [m] := rfl
theorem abM_snoc (g : Gr) (m : List Int) {a : Nat} (ha : a < 3 + g.length) : abM (g ++ [m]) a = abM g a := by
  have hl : a < (absF (pars g)).length := by rw [absF_length, pars_len]; exact ha
  unfold abM
  rw [pars_snoc, absF_snoc, List.getD, List.getD, List.getElem?_append_left hl]
theorem aboveB_snoc (g : Gr) (m : List Int) {a : Nat} (ha : a < 3 + g.length) (b : Nat) : aboveB (g ++ [m]) a b = aboveB g a b := by
  unfold aboveB; rw [abM_snoc g m ha]
theorem linO_snoc (g : Gr) (m : List Int) {a : Nat} (ha : a < 3 + g.length) : linO (g ++ [m]) a = linO g a := by
  have hl : a < (ordF (pars g)).length := by rw [ordF_length, pars_len]; exact ha
  unfold linO
  rw [pars_snoc, ordF_snoc, List.getD, List.getD, List.getElem?_append_left hl]
theorem belowR_snoc {g : Gr} {m : List Int} (hg : goodB g = true) (hh : goodB (g ++ [m]) = true) {a : Nat} (ha : a < 3 + g.length) (b : Nat) : belowR (g ++ [m]) a b = belowR g a b := by
  rw [belowR_eq hg a b ha, belowR_eq hh a b (by simp; omega), aboveB_snoc g m ha]
theorem overB_snoc {g : Gr} {m : List Int} (hg : goodB g = true) (hh : goodB (g ++ [m]) = true) {l : List Int} (hl : ∀ c ∈ l, ∃ n : Nat, c = (n : Int) ∧ n < 3 + g.length) (b : Nat) : overB (g ++ [m]) l b = overB g l b := by
  unfold overB
  rw [Bool.eq_iff_iff, List.all_eq_true, List.all_eq_true]
  refine forall_congr' fun c => forall_congr' fun hc => ?_
  obtain ⟨n, rfl, hn⟩ := hl c hc
  rw [Int.toNat_natCast, belowR_snoc hg hh hn]
theorem overB_new {g : Gr} {m : List Int} (hh : goodB (g ++ [m]) = true) {l : List Int} (hl : ∀ c ∈ l, ∃ n : Nat, c = (n : Int) ∧ n < 3 + g.length) (h0 : l ≠ []) : overB (g ++ [m]) l (3 + g.length) = false := by
  rw [Bool.eq_false_iff]
  intro h
  obtain ⟨c, hc⟩ := List.exists_mem_of_ne_nil l h0
  obtain ⟨n, rfl, hn⟩ := hl c hc
  have h1 := List.all_eq_true.1 h _ hc
  rw [Int.toNat_natCast, belowR_eq hh n _ (by simp; omega)] at h1
  have := above_le hh n (3 + g.length) (by simp; omega) h1
  omega
theorem leastB_snoc {g : Gr} {m : List Int} (hg : goodB g = true) (hh : goodB (g ++ [m]) = true) {l : List Int} (hl : ∀ c ∈ l, ∃ n : Nat, c = (n : Int) ∧ n < 3 + g.length) (h0 : l ≠ []) {c : Nat} (hc : c < 3 + g.length) : leastB (g ++ [m]) l c = leastB g l c := by
  unfold leastB
  rw [overB_snoc hg hh hl]
  congr 1
  have e : 3 + (g ++ [m]).length = (3 + g.length) + 1 := by simp; omega
  rw [e, List.range_succ, List.all_append]
  have h1 : ([3 + g.length].all fun x => decide (x = c) || !(overB (g ++ [m]) l x && belowR (g ++ [m]) x c)) = true := by
    simp [overB_new hh hl h0]
  rw [h1, Bool.and_true, Bool.eq_iff_iff, List.all_eq_true, List.all_eq_true]
  refine forall_congr' fun x => forall_congr' fun hx => ?_
  rw [overB_snoc hg hh hl, belowR_snoc hg hh (List.mem_range.1 hx)]
theorem least_list_snoc {g : Gr} {m : List Int} (hg : goodB g = true) (hh : goodB (g ++ [m]) = true) {l : List Int} (hl : ∀ c ∈ l, ∃ n : Nat, c = (n : Int) ∧ n < 3 + g.length) (h0 : l ≠ []) : listF (leastB (g ++ [m]) l) (3 + (g ++ [m]).length) = listF (leastB g l) (3 + g.length) := by
  have e : 3 + (g ++ [m]).length = (3 + g.length) + 1 := by simp; omega
  have hn : leastB (g ++ [m]) l (3 + g.length) = false := by
    unfold leastB
    rw [overB_new hh hl h0]; rfl
  rw [e, listF_succ, if_neg (by rw [hn]; simp)]
  exact listF_congr _ fun i hi => leastB_snoc hg hh hl h0 hi
end Go.Ln
namespace Go.Proofs.Ytaofmejfdmbfoaa
open Go.ChangeShapes Go.WideShapes Go.ChangeAt Go.RowKit Go.Ln Go.Fs
def okWith (g : Gr) (l : List Int) : Bool := goodB g && classesB g l
def OpenW (g : Gr) (l : List Int) (w : World) (e : Ending) (w' : World) : Prop :=
  Below w.heap.size w w' ∧ ((okWith g l = true ∧ ∃ O, e = .returned (.tuple #[.pointer (some ⟨O, 0, none⟩), .int .i64 0]) ∧ GraphAt w' O g) ∨ (okWith g l = false ∧ e = .returned (.tuple #[.pointer none, .int .i64 2])))
set_option maxRecDepth 100000 in
set_option maxHeartbeats 1000000 in
theorem openWith_any (W0 : World) (g : Gr) (sa : Option Addr) (cap : Nat) (hl : (g.length : Int) ≤ 9223372036854775807) (hi : GrAt W0 sa g) (l : List Int) (la : Option Addr) (lc : Nat) (hll : (l.length : Int) ≤ 9223372036854775807) (w : World) (hB : Below W0.heap.size W0 w) (hli : IntsAt w la l) :
    Calls Try.prog 49 #[.slice sa g.length cap, .slice la l.length lc] w (OpenW g l w) := by
  unfold OpenW okWith classesB
  by_cases h16 : 16 < (l.length : Int)
  · rw [decide_eq_false (by omega)]
    go_enter Try.func49, Try.ntmps49
    go_wp2
    go_ret2
    exact ⟨Below.refl _ _, .inr ⟨by simp, rfl⟩⟩
  · rw [decide_eq_true (by omega), Bool.true_and]
    have hop := open_any W0 g sa cap hl hi l la lc (by omega) w hB hli
    have HOP := Lib.hid hop; clear hop hi hB hli
    cases hok : okOpen g l with
    | false =>
      go_enter Try.func49, Try.ntmps49
      go_wp2_with (go_at_call 29; refine HOP.out.mono ?_; (rintro e w2 ⟨hu, ⟨hb, _⟩ | ⟨_, rfl⟩⟩; (rw [hok] at hb; cases hb); have HU := Lib.hid hu; clear hu))
      go_ret2
      exact ⟨HU.out, .inr ⟨hok, rfl⟩⟩
    | true =>
      go_enter Try.func49, Try.ntmps49
      go_wp2_with (go_at_call 29; refine HOP.out.mono ?_; (rintro e w2 ⟨hu, ⟨_, O, rfl, hgr⟩ | ⟨hb, _⟩⟩; rotate_left; (rw [hok] at hb; cases hb); have HU := Lib.hid hu; have HGR := Lib.hid hgr; clear hu hgr))
      go_ret2
      exact ⟨HU.out, .inl ⟨hok, O, rfl, HGR.out⟩⟩
def ComRel (s0 : Nat) (f : Nat → Nat) (l : List Int) (w : World) (i : Value) (wr : World) : Prop :=
  ∃ k : Nat, k ≤ l.length ∧ i = .int .i64 k ∧ Below w.heap.size w wr ∧ w.heap.size + 1 < wr.heap.size ∧ wr.cell? ⟨w.heap.size + 1, 0, none⟩ = some (.int .u64 (meetN s0 f (l.take k) : Nat)) ∧ wr.frozen? ⟨w.heap.size + 1, 0, none⟩ = false ∧ wr.cell? ⟨w.heap.size, 0, none⟩ = some (.int .u64 0) ∧ wr.frozen? ⟨w.heap.size, 0, none⟩ = false
set_option maxRecDepth 100000 in
set_option maxHeartbeats 2000000 in
theorem common_any (g : Gr) (hg : goodB g = true) (O bS cS : Nat) (f : Nat → Nat) (hf : ∀ c, f c < 524288) (l : List Int) (la : Option Addr) (lc : Nat) (hll : (l.length : Int) ≤ 1000) (hn : NatL g l) (w : World) (hgr : GraphAt w O g) (hbS : bS < w.heap.size) (hcS : ∀ c, c < 3 + g.length → w.cell? ⟨bS, c, none⟩ = some (.int .u64 (f c : Nat))) (hli : IntsAt w la l) :
    Calls Try.prog 51 #[.pointer (some ⟨O, 0, none⟩), .slice (some ⟨bS, 0, none⟩) (3 + g.length) cS, .slice la l.length lc] w fun e w' => e = .returned (SV (meetN (blN (absF (pars g)) (3 + g.length) 0) f l)) ∧ Below w.heap.size w w' := by
  have hlen := good_len hg
  obtain ⟨Bk, q1, q2⟩ := hgr.belowC 0 (by omega)
  have hBk : Bk < w.heap.size := cell_lt q2
  have hOl : O < w.heap.size := cell_lt q1
  have hs0 := blN_small (absF (pars g)) 0 (3 + g.length) (by omega)
  generalize hS : blN (absF (pars g)) (3 + g.length) 0 = s0 at *
  have hz1 : (w.alloc (.cells #[.int .u64 0] 75)).cell? ⟨O, 2, none⟩ = w.cell? ⟨O, 2, none⟩ := ((Below.refl w.heap.size w).alloc (Nat.le_refl _) _).cell (p := ⟨O, 2, none⟩) hOl
  have hz2 : (w.alloc (.cells #[.int .u64 0] 75)).cell? ⟨Bk, 0, none⟩ = w.cell? ⟨Bk, 0, none⟩ := ((Below.refl w.heap.size w).alloc (Nat.le_refl _) _).cell (p := ⟨Bk, 0, none⟩) hBk
  rw [q1] at hz1
  rw [q2] at hz2
  have HN := Lib.hid hn; have HCS := Lib.hid hcS; have HLI := Lib.hid hli
  clear hn hcS hli hgr
  go_enter Try.func51, Try.ntmps51
  go_wp2
  go_loopw [18] (fun i wr => ComRel s0 f l w i wr) (fun i _ => l.length - (intOf i).toNat)
  case atStart => exact ⟨0, Nat.zero_le _, rfl, by go_grown, by simp, by simp [meetN], by simp, by simp, by simp⟩
  case round =>
    obtain ⟨k, hk, rfl, hup, hsz, hcell, hfr, hcell0, hfr0⟩ := hrel
    have hMs := meetN_small f (l.take k) s0 hs0
    generalize hM : meetN s0 f (l.take k) = M at *
    have HUP := Lib.hid hup; have HM := Lib.hid hM
    by_cases hlt : k < l.length
    · obtain ⟨y, hy⟩ : ∃ y, l[k]? = some y := ⟨l[k], List.getElem?_eq_getElem hlt⟩
      obtain ⟨b, off, rfl, hb, hc⟩ := HLI.out.below hup k y hy
      obtain ⟨yn, rfl, hyn⟩ := HN.out y (List.mem_of_getElem? hy)
      have hcs := (hup.cell (p := ⟨bS, yn, none⟩) hbS).trans (HCS.out yn hyn)
      have hnx : meetN s0 f (l.take (k + 1)) = M &&& f yn := by rw [take_snocI l k _ hy, meetN_snoc, HM.out]; simp
      have hyt : ((yn : Int)).toNat = yn := by omega
      have hfs := hf yn
      generalize hE : f yn = E at *
      have HNX := Lib.hid hnx
      clear hnx hy hup hE hM
      go_wp2
      go_region_with (go_at_call 69; refine (meet_any M E hMs hfs _).mono ?_; rintro e w5 ⟨rfl, hu⟩; have hc5 := (hu.cell (p := ⟨w.heap.size + 1, 0, none⟩) hsz).trans hcell; have hf5 := (hu.frozen (p := ⟨w.heap.size + 1, 0, none⟩) hsz).trans hfr; have hd5 := (hu.cell (p := ⟨w.heap.size, 0, none⟩) (Nat.lt_of_succ_lt hsz)).trans hcell0; have hg5 := (hu.frozen (p := ⟨w.heap.size, 0, none⟩) (Nat.lt_of_succ_lt hsz)).trans hfr0; have HU5 := Lib.hid (show Below wr.heap.size wr w5 from ⟨hu.os, hu.tape, hu.output, hu.size, hu.block⟩); clear hu)
      all_goals go_wp2
      all_goals refine ⟨⟨k + 1, by omega, by go_num, ?_, by have := HU5.out.size; simp; omega, ?_, ?_, ?_, ?_⟩, by simp [intOf]; omega⟩
      all_goals first
        | exact (HUP.out.trans (HU5.out.mono HUP.out.size)).setCell (by simp) _
        | (rw [HNX.out]; simp [World.cell?_setCell_same, hc5]; done)
        | (rw [World.cell?_setCell_other _ _ _ _ (by intro e; injection e with e1 e2; omega)]; exact hd5)
        | (simp [hf5]; done)
        | (simp [hg5]; done)
    · obtain rfl : k = l.length := by omega
      have hM2 := HM.out
      rw [List.take_length] at hM2
      go_wp2
      refine bodyPost_ret (by simp [results, Try.results51, go_sem, World.cell?_setCell_same, hcell0]; try rfl) rfl ?_
      exact ⟨by rw [hM2], hup.setCell (by simp) _⟩
end Go.Proofs.Ytaofmejfdmbfoaa
namespace Go.Proofs.Ytaofmejfdmbfoaa
open Go.ChangeShapes Go.WideShapes Go.ChangeAt Go.RowKit Go.Ln Go.Fs
end Go.Proofs.Ytaofmejfdmbfoaa
namespace Go.Proofs.Ytaofmejfdmbfoaa
open Go.ChangeShapes Go.WideShapes Go.ChangeAt Go.RowKit Go.Ln Go.Fs
theorem GraphAt.belowAll {w : World} {O : Nat} {g : Gr} (h : GraphAt w O g) : ∃ Bk, Bk < w.heap.size ∧ w.cell? ⟨O, 2, none⟩ = some (.slice (some ⟨Bk, 0, none⟩) (3 + g.length) (3 + g.length)) ∧ ∀ c, c < 3 + g.length → w.cell? ⟨Bk, c, none⟩ = some (.int .u64 (blN (absF (pars g)) (3 + g.length) c : Nat)) := by
  obtain ⟨v0, vA, v3, Bk, ho, _, hb2⟩ := h
  exact ⟨Bk, hb2.1, ho.cells.1.2.2.1, fun c hc => (hb2.2 c hc).1⟩
theorem GraphAt.aboveAll {w : World} {O : Nat} {g : Gr} (h : GraphAt w O g) : ∃ gA cA, gA < w.heap.size ∧ w.cell? ⟨O, 1, none⟩ = some (.slice (some ⟨gA, 0, none⟩) (3 + g.length) cA) ∧ ∀ c, c < 3 + g.length → w.cell? ⟨gA, c, none⟩ = some (.int .u64 (abM g c : Nat)) := by
  obtain ⟨gA, cA, h1, h2⟩ := h.aboveC 0 (by omega)
  refine ⟨gA, cA, cell_lt h2, h1, fun c hc => ?_⟩
  obtain ⟨gA', cA', h3, h4⟩ := h.aboveC c hc
  rw [h1] at h3
  injection h3 with h3
  injection h3 with h5 h6
  injection h5 with h5
  injection h5 with h5
  rw [h5]; exact h4
theorem okWith_parts {g : Gr} {l : List Int} (h : okWith g l = true) : goodB g = true ∧ l.length ≤ 16 ∧ NatL g l := by
  simp only [okWith, classesB, Bool.and_eq_true, decide_eq_true_eq] at h
  exact ⟨h.1, h.2.1, natL_of h.2.2⟩
end Go.Proofs.Ytaofmejfdmbfoaa
namespace Go.Proofs.Ytaofmejfdmbfoaa
open Go.ChangeShapes Go.WideShapes Go.ChangeAt Go.RowKit Go.Ln Go.Fs
theorem guardSet : Try.prog.eqGuardType Try.prog.depth 75 = false := by kernel_rfl
theorem aEq_set (a b : Int) : Xm.aEqL Try.prog 12 75 (.agg #[.int .u64 a]) (.agg #[.int .u64 b]) = (match (some (a == b) : Option Bool) with | some true => some true | some false => some false | none => none) := by kernel_rfl
theorem eq_set (a b : Int) (w : World) : (Op.equalIn 10000 75 (.agg #[.int .u64 a]) (.agg #[.int .u64 b])).run Try.prog w = .ok (a == b) w := by
  have h : Xm.aEqL Try.prog 12 75 (.agg #[.int .u64 a]) (.agg #[.int .u64 b]) = some (a == b) := by
    rw [aEq_set]
    cases (a == b) <;> rfl
  exact Xm.aEqL_ok (e := Xm.e0 0) 12 10000 (by decide) _ _ _ _ _ _ w h (.agg (.cons (.int _ _) .nil)) (.agg (.cons (.int _ _) .nil))
end Go.Proofs.Ytaofmejfdmbfoaa
namespace Go.Proofs.Ytaofmejfdmbfoaa
open Go.ChangeShapes Go.WideShapes Go.ChangeAt Go.RowKit Go.Ln Go.Fs
theorem way1 {wr w5 w6 : World} {o : Obj} (h5 : Below wr.drew.heap.size wr.drew w5) (h6 : Below (w5.alloc o).heap.size (w5.alloc o) w6) : Below wr.heap.size wr w6 := by
  have hA : Below wr.heap.size wr w5 := ⟨h5.os, h5.tape, h5.output, h5.size, h5.block⟩
  have hB : Below w5.heap.size w5 w6 := ((Below.refl w5.heap.size w5).alloc (Nat.le_refl _) _).trans (h6.mono (by simp))
  exact hA.trans (hB.mono hA.size)
theorem way2 {wr w5 w6 : World} {o : Obj} (h5 : Below (wr.alloc o).drew.heap.size (wr.alloc o).drew w5) (h6 : Below w5.heap.size w5 w6) : Below wr.heap.size wr w6 := by
  have hA : Below (wr.alloc o).heap.size (wr.alloc o) w5 := ⟨h5.os, h5.tape, h5.output, h5.size, h5.block⟩
  have hA' : Below wr.heap.size wr w5 := ((Below.refl wr.heap.size wr).alloc (Nat.le_refl _) _).trans (hA.mono (by simp))
  exact hA'.trans (h6.mono hA'.size)
def RegL (S : World → Prop) (F : Option Addr → Act) : Exit → Act → World → Prop
  | .normal, a, w => ∃ z, a = F z ∧ S w
  | _, _, _ => False
theorem RegL.out {S : World → Prop} {F : Option Addr → Act} {Q : Exit → Act → World → Prop} (h : ∀ z w, S w → Q .normal (F z) w) (e : Exit) (a : Act) (w : World) (hm : RegL S F e a w) : Q e a w := by
  cases e <;> first | exact hm.elim | (obtain ⟨z, rfl, hs⟩ := hm; exact h z w hs)
theorem row_dis {B : Nat} {w : World} {t : TypeId} {v : Value} {l : List Value} {a : Option Addr} {n c : Nat} (h : Row B w t v l) (hv : v = .slice a n c) : ∀ b off, a = some ⟨b, off, none⟩ → B ≤ b := by
  intro b off e
  subst e
  rcases h.2 with ⟨h1, _⟩ | ⟨gg, cp, cur, h1, h2, _⟩
  · rw [hv] at h1; cases h1
  · rw [hv] at h1
    injection h1 with h1 _ _
    injection h1 with h1
    injection h1 with h1 _ _
    omega
theorem ints_set {w : World} {a : Option Addr} {l : List Int} {B o : Nat} {v : Value} (h : IntsAt w a l) (hd : ∀ b off, a = some ⟨b, off, none⟩ → B < b) : IntsAt (w.setCell ⟨B, o, none⟩ v) a l := by
  intro i x hx
  obtain ⟨b, off, h1, h2, h3⟩ := h i x hx
  have := hd b off h1
  refine ⟨b, off, h1, by simpa using h2, ?_⟩
  rw [World.cell?_setCell_other _ _ _ _ (by intro e; injection e with e1 e2; omega)]
  exact h3
def LeaRel (s : Nat) (p : Nat → Bool) (L : List Int) (w : World) (i : Value) (wr : World) : Prop :=
  ∃ k : Nat, k ≤ L.length ∧ i = .int .i64 k ∧ Below w.heap.size w wr ∧ w.heap.size + 2 < wr.heap.size ∧ wr.cell? ⟨w.heap.size, 0, none⟩ = some (.int .u64 (s : Nat)) ∧ wr.cell? ⟨w.heap.size + 2, 0, none⟩ = some (.int .u64 (outN p (L.take k) : Nat)) ∧ wr.frozen? ⟨w.heap.size + 2, 0, none⟩ = false ∧ wr.cell? ⟨w.heap.size + 1, 0, none⟩ = some (.int .u64 0) ∧ wr.frozen? ⟨w.heap.size + 1, 0, none⟩ = false
set_option maxRecDepth 100000 in
set_option maxHeartbeats 4000000 in
theorem least_any (g : Gr) (hg : goodB g = true) (O s : Nat) (hs : s < 524288) (hsn : ∀ b, s.testBit b = true → b < 3 + g.length) (w : World) (hgr : GraphAt w O g) :
    Calls Try.prog 50 #[.pointer (some ⟨O, 0, none⟩), SV s] w fun e w' => e = .returned (SV (outN (fun c => decide (s &&& blN (absF (pars g)) (3 + g.length) c = 2 ^ c)) (listM s))) ∧ Below w.heap.size w w' := by
  have hlen := good_len hg
  obtain ⟨Bk, hBk, q1, q2⟩ := hgr.belowAll
  have hOl : O < w.heap.size := cell_lt q1
  have hgd := guardSet
  have hLl := listM_length s
  have heq := eq_set
  have HQ2 := Lib.hid q2
  clear q2 hgr
  go_enter Try.func50, Try.ntmps50
  go_wp2_with (go_at_call 52; refine (list_any s hs _).mono ?_; rintro e w4 ⟨v, rfl, hu, hrl⟩; obtain ⟨aL, cL, hvL, hiL⟩ := hrl.ints; have hdl := row_dis hrl hvL; have HDL := Lib.hid hdl; clear hdl; subst hvL; have HU4 := Lib.hid hu; have HIL := Lib.hid hiL; clear hu hrl hiL)
  have hz4 := HU4.out.size
  simp at hz4
  have hzX : ∀ o1 o2 o3, (((w.alloc o1).alloc o2).alloc o3).heap.size = w.heap.size + 3 := fun _ _ _ => by simp
  have hc0 : w4.cell? ⟨w.heap.size, 0, none⟩ = some (.int .u64 (s : Nat)) := (HU4.out.cell (p := ⟨w.heap.size, 0, none⟩) (by show w.heap.size < _; rw [hzX]; omega)).trans (by first | (simp [go_sem]; done) | go_cell)
  have hc1 : w4.cell? ⟨w.heap.size + 1, 0, none⟩ = some (.int .u64 0) := (HU4.out.cell (p := ⟨w.heap.size + 1, 0, none⟩) (by show w.heap.size + 1 < _; rw [hzX]; omega)).trans (by first | (simp [go_sem]; done) | go_cell)
  have hc2 : w4.cell? ⟨w.heap.size + 2, 0, none⟩ = some (.int .u64 0) := (HU4.out.cell (p := ⟨w.heap.size + 2, 0, none⟩) (by show w.heap.size + 2 < _; rw [hzX]; omega)).trans (by first | (simp [go_sem]; done) | go_cell)
  have hf1 : w4.frozen? ⟨w.heap.size + 1, 0, none⟩ = false := (HU4.out.frozen (p := ⟨w.heap.size + 1, 0, none⟩) (by show w.heap.size + 1 < _; rw [hzX]; omega)).trans (by first | (simp [go_sem]; done) | go_cell)
  have hf2 : w4.frozen? ⟨w.heap.size + 2, 0, none⟩ = false := (HU4.out.frozen (p := ⟨w.heap.size + 2, 0, none⟩) (by show w.heap.size + 2 < _; rw [hzX]; omega)).trans (by first | (simp [go_sem]; done) | go_cell)
  go_loopw [11] (fun i wr => LeaRel s (fun c => decide (s &&& blN (absF (pars g)) (3 + g.length) c = 2 ^ c)) (listM s) w i wr ∧ IntsAt wr aL (listM s)) (fun i _ => (listM s).length - (intOf i).toNat)
  case atStart => exact ⟨⟨0, Nat.zero_le _, rfl, (by go_grown : Below w.heap.size w _).trans (HU4.out.mono (by simp; omega)), by omega, hc0, by simpa [outN] using hc2, hf2, hc1, hf1⟩, HIL.out⟩
  case round =>
    obtain ⟨⟨k, hk, rfl, hup, hsz, hb0, hbo, hfo, hr0, hfr0⟩, hints⟩ := hrel
    have hos := outN_small (fun c => decide (s &&& blN (absF (pars g)) (3 + g.length) c = 2 ^ c)) ((listM s).take k) (fun c hc => by obtain ⟨n, rfl, h1, _⟩ := listM_nat (List.mem_of_mem_take hc); simpa using h1)
    by_cases hlt : k < (listM s).length
    · obtain ⟨y, hy⟩ : ∃ y, (listM s)[k]? = some y := ⟨(listM s)[k], List.getElem?_eq_getElem hlt⟩
      obtain ⟨cn, rfl, hcn, hcb⟩ := listM_nat (List.mem_of_getElem? hy)
      have hcnn := hsn cn hcb
      obtain ⟨b, off, rfl, hb, hyc⟩ := hints k _ hy
      have hbel := (hup.cell (p := ⟨Bk, cn, none⟩) hBk).trans (HQ2.out cn hcnn)
      have q1' := (hup.cell (p := ⟨O, 2, none⟩) hOl).trans q1
      have hzr := hup.size
      have hes := blN_small (absF (pars g)) cn (3 + g.length) (by omega)
      have hnx : outN (fun c => decide (s &&& blN (absF (pars g)) (3 + g.length) c = 2 ^ c)) ((listM s).take (k + 1)) = if decide (s &&& blN (absF (pars g)) (3 + g.length) cn = 2 ^ cn) = true then outN (fun c => decide (s &&& blN (absF (pars g)) (3 + g.length) c = 2 ^ c)) ((listM s).take k) ||| 2 ^ cn else outN (fun c => decide (s &&& blN (absF (pars g)) (3 + g.length) c = 2 ^ c)) ((listM s).take k) := by rw [take_snocI _ k _ hy, outN_snoc]; simp
      generalize hE : blN (absF (pars g)) (3 + g.length) cn = E at *
      generalize hN : outN (fun c => decide (s &&& blN (absF (pars g)) (3 + g.length) c = 2 ^ c)) ((listM s).take k) = N at *
      have hms : maskL [(cn : Int)] = 2 ^ cn := by simp [maskL]
      have hcnt : ((cn : Int)).toNat = cn := by omega
      have HNX := Lib.hid hnx; have HUP := Lib.hid hup; have HINT := Lib.hid hints
      clear hnx hup hints hy hE hN
      go_wp2
      have hOr : O < wr.heap.size := Nat.lt_of_lt_of_le hOl hzr
      have hBr : Bk < wr.heap.size := Nat.lt_of_lt_of_le hBk hzr
      have hXr : w.heap.size < wr.heap.size := by omega
      have KS : RowKit.Hid (∀ w', Below wr.heap.size wr w' → (w'.cell? ⟨w.heap.size, 0, none⟩ = some (.int .u64 (s : Nat)) ∧ w'.cell? ⟨O, 2, none⟩ = some (.slice (some ⟨Bk, 0, none⟩) (3 + g.length) (3 + g.length)) ∧ w'.cell? ⟨Bk, cn, none⟩ = some (.int .u64 (E : Nat)))) := Lib.hid (fun w' hq => ⟨(hq.cell (p := ⟨w.heap.size, 0, none⟩) hXr).trans hb0, (hq.cell (p := ⟨O, 2, none⟩) hOr).trans q1', (hq.cell (p := ⟨Bk, cn, none⟩) hBr).trans hbel⟩)
      have HB := Lib.hid (Below.refl wr.heap.size wr)
      have hcnI : (cn : Int) < 3 + (g.length : Int) := by omega
      have hcnJ : (cn : Int) < ((3 + g.length : Nat) : Int) := by omega
      apply Code.wp_mono (Q := RegL (fun w6 => Below wr.heap.size wr w6) _)
      rotate_left
      · go_region_held3 (fun w' => w'.cell? ⟨w.heap.size, 0, none⟩ = some (.int .u64 (s : Nat)) ∧ w'.cell? ⟨O, 2, none⟩ = some (.slice (some ⟨Bk, 0, none⟩) (3 + g.length) (3 + g.length)) ∧ w'.cell? ⟨Bk, cn, none⟩ = some (.int .u64 (E : Nat))) (first | exact KS.out _ HB.out | exact KS.out _ (HB.out.drew) | exact KS.out _ (HB.out.alloc HB.out.size _) | exact KS.out _ ((HB.out.alloc HB.out.size _).drew) | exact KS.out _ ((HB.out.drew).alloc HB.out.size _)) (first
          | (go_at_call 69; refine (meet_any s E hs hes _).mono ?_; rintro e w5 ⟨rfl, hu5⟩; have HB := Lib.hid (show Below wr.heap.size wr w5 from by first | exact (HB.out.drew).trans (hu5.mono HB.out.drew.size) | exact ((HB.out.alloc HB.out.size _).drew).trans (hu5.mono (HB.out.alloc HB.out.size _).size)))
          | (go_at_call 63; (first | (refine (setOf_any _ [(cn : Int)] (some ⟨_, 0, none⟩) 1 (by simp) (ints1 _ _) (by intro p hp; simp at hp; omega) _ (Below.refl _ _)).mono ?_; rintro e w6 ⟨rfl, hu6⟩; rw [hms]; have HB := Lib.hid (show Below wr.heap.size wr w6 from (HB.out.alloc HB.out.size _).trans (hu6.mono (HB.out.alloc HB.out.size _).size)); have hz0 : ∃ z, z = (some ⟨w5.heap.size, 0, none⟩ : Option Addr) := ⟨_, rfl⟩; clear hu5 hu6) | (refine (setOf_any (wr.alloc (.cells #[.int .i64 (cn : Int)] 3)) [(cn : Int)] (some ⟨wr.heap.size, 0, none⟩) 1 (by simp) (ints1 wr cn) (by intro p hp; simp at hp; omega) _ ⟨hu5.os, hu5.tape, hu5.output, hu5.size, hu5.block⟩).mono ?_; rintro e w6 ⟨rfl, hu6⟩; rw [hms]; have HB := Lib.hid (show Below wr.heap.size wr w6 from HB.out.trans (hu6.mono HB.out.size)); have hz0 : ∃ z, z = (some ⟨wr.heap.size, 0, none⟩ : Option Addr) := ⟨_, rfl⟩; clear hu5 hu6))))
        all_goals obtain ⟨z, hz⟩ := hz0
        all_goals rw [← hz]
        all_goals exact ⟨z, rfl, HB.out⟩
      refine RegL.out ?_
      intro z w6 huz
      have hX2 : w.heap.size + 2 < wr.heap.size := hsz
      have hX1 : w.heap.size + 1 < wr.heap.size := Nat.lt_of_succ_lt hX2
      have hc5 := (huz.cell (p := ⟨w.heap.size + 2, 0, none⟩) hX2).trans hbo
      have hf5 := (huz.frozen (p := ⟨w.heap.size + 2, 0, none⟩) hX2).trans hfo
      have hb5 := (huz.cell (p := ⟨w.heap.size, 0, none⟩) hXr).trans hb0
      have hr5 := (huz.cell (p := ⟨w.heap.size + 1, 0, none⟩) hX1).trans hr0
      have hg5 := (huz.frozen (p := ⟨w.heap.size + 1, 0, none⟩) hX1).trans hfr0
      have hz5 := huz.size
      have HUZ := Lib.hid huz
      clear huz hbo hfo hb0 hr0 hfr0 hyc hbel q1' hc0 hc1 hc2 hf1 hf2 hz4 hzX q1
      have hq : (((s &&& E : Nat) : Int) == (2 : Int) ^ cn) = decide (s &&& E = 2 ^ cn) := by
        rw [Bool.eq_iff_iff, beq_iff_eq, decide_eq_true_eq]
        have : ((2 ^ cn : Nat) : Int) = (2 : Int) ^ cn := by simp
        rw [← this]; omega
      rw [hq]
      by_cases hse : s &&& E = 2 ^ cn
      · rw [decide_eq_true hse]
        go_wp2_with (go_at_call 68; refine (with_any N hos (cn : Int) (by omega) (by omega) _).mono ?_; rintro e w7 ⟨rfl, hu⟩; have hz7 := hu.size; have hc7 := (hu.cell (p := ⟨w.heap.size + 2, 0, none⟩) (by show w.heap.size + 2 < _; omega)).trans hc5; have hf7 := (hu.frozen (p := ⟨w.heap.size + 2, 0, none⟩) (by show w.heap.size + 2 < _; omega)).trans hf5; have hb7 := (hu.cell (p := ⟨w.heap.size, 0, none⟩) (by show w.heap.size < _; omega)).trans hb5; have hr7 := (hu.cell (p := ⟨w.heap.size + 1, 0, none⟩) (by show w.heap.size + 1 < _; omega)).trans hr5; have hg7 := (hu.frozen (p := ⟨w.heap.size + 1, 0, none⟩) (by show w.heap.size + 1 < _; omega)).trans hg5; have HU7 := Lib.hid hu; clear hu)
        have hb67 : Below wr.heap.size wr w7 := HUZ.out.trans (HU7.out.mono hz5)
        refine ⟨⟨⟨k + 1, by omega, by go_num, ?_, ?_, ?_, ?_, ?_, ?_, ?_⟩, ?_⟩, by simp [intOf]; omega⟩
        · exact (HUP.out.trans (hb67.mono HUP.out.size)).setCell (by show w.heap.size ≤ w.heap.size + 1 + 1; omega) _
        · simp; omega
        · rw [World.cell?_setCell_other _ _ _ _ (by intro e; injection e with e1 e2; omega)]; exact hb7
        · rw [HNX.out, if_pos (decide_eq_true hse)]; simp [World.cell?_setCell_same, hc7]
        · simp [hf7]
        · rw [World.cell?_setCell_other _ _ _ _ (by intro e; injection e with e1 e2; omega)]; exact hr7
        · simp [hg7]
        · exact ints_set (HINT.out.below hb67) (fun b' off' e => by have h1 := HDL.out b' off' e; simp at h1; omega)
      · rw [decide_eq_false hse]
        go_wp2
        refine ⟨⟨⟨k + 1, by omega, by go_num, HUP.out.trans (HUZ.out.mono HUP.out.size), by omega, hb5, ?_, hf5, hr5, hg5⟩, HINT.out.below HUZ.out⟩, by simp [intOf]; omega⟩
        rw [HNX.out, if_neg (by rw [decide_eq_false hse]; simp)]; exact hc5
    · obtain rfl : k = (listM s).length := by omega
      rw [List.take_length] at hbo
      go_wp2
      refine bodyPost_ret (by simp [results, Try.results50, go_sem, World.cell?_setCell_same, hr0]; try rfl) rfl ?_
      exact ⟨rfl, hup.setCell (by simp) _⟩
end Go.Proofs.Ytaofmejfdmbfoaa
namespace Go.Proofs.Ytaofmejfdmbfoaa
open Go.ChangeShapes Go.WideShapes Go.ChangeAt Go.RowKit Go.Ln Go.Fs
theorem GraphAt.below {w w' : World} {O : Nat} {g : Gr} (h : GraphAt w O g) (hb : Below w.heap.size w w') : GraphAt w' O g := by
  obtain ⟨v0, vA, v3, Bk, ho, hr, hbl⟩ := h
  exact ⟨v0, vA, v3, Bk, ho.below hb, hr.below hb, hbl.below hb⟩
set_option maxRecDepth 100000 in
set_option maxHeartbeats 2000000 in
theorem leastL_any (W0 : World) (g : Gr) (sa : Option Addr) (cap : Nat) (hl : (g.length : Int) ≤ 9223372036854775807) (hi : GrAt W0 sa g) (l : List Int) (la : Option Addr) (lc : Nat) (hll : (l.length : Int) ≤ 9223372036854775807) (hli : IntsAt W0 la l) (w : World) (hB : Below W0.heap.size W0 w) :
    Calls Try.prog 24 #[.slice sa g.length cap, .slice la l.length lc] w (LstP w.heap.size w (if okWith g l = true then listF (leastB g l) (3 + g.length) else []) (if okWith g l = true then 0 else 2)) := by
  have hop := openWith_any W0 g sa cap hl hi l la lc hll w hB (hli.below hB)
  have HOP := Lib.hid hop; have HLI := Lib.hid (hli.below hB); clear hop hi hB hli
  unfold LstP
  cases hok : okWith g l with
  | false =>
    rw [if_neg (by simp), if_neg (by simp)]
    go_enter Try.func24, Try.ntmps24
    go_wp2_with (go_at_call 49; refine HOP.out.mono ?_; (rintro e w2 ⟨hu, ⟨hb, _⟩ | ⟨_, rfl⟩⟩; (rw [hok] at hb; cases hb); have HU := Lib.hid hu; clear hu))
    go_ret2
    exact ⟨_, rfl, HU.out, Row.nil _ _ _⟩
  | true =>
    rw [if_pos rfl, if_pos rfl]
    obtain ⟨hg, h16, hn⟩ := okWith_parts hok
    have hlen := good_len hg
    have hms := meetN_small (fun c => abM g c) l _ (blN_small (absF (pars g)) 0 (3 + g.length) (by omega))
    have hsn : ∀ b, (meetN (blN (absF (pars g)) (3 + g.length) 0) (fun c => abM g c) l).testBit b = true → b < 3 + g.length := fun b hb => by
      rw [over_bit hg l hn b] at hb
      simp only [Bool.and_eq_true, decide_eq_true_eq] at hb
      exact hb.1
    have hlst := least_list hg l hn _ rfl
    have HN := Lib.hid hn
    clear hn
    generalize hS : meetN (blN (absF (pars g)) (3 + g.length) 0) (fun c => abM g c) l = s at *
    have hos := outN_small (fun c => decide (s &&& blN (absF (pars g)) (3 + g.length) c = 2 ^ c)) (listM s) (fun c hc => by obtain ⟨n, rfl, h1, _⟩ := listM_nat hc; simpa using h1)
    rw [← hlst]
    have HS := Lib.hid hS; have HSN := Lib.hid hsn
    clear hlst hS hsn
    go_enter Try.func24, Try.ntmps24
    go_wp2_with (first
      | (go_at_call 49; refine HOP.out.mono ?_; (rintro e w2 ⟨hu, ⟨_, O, rfl, hgr⟩ | ⟨hb, _⟩⟩; rotate_left; (rw [hok] at hb; cases hb); obtain ⟨gA, cA, hBk, q1, q2⟩ := hgr.aboveAll; have HGR := Lib.hid hgr; have HQ2 := Lib.hid q2; have HU := Lib.hid hu; clear hu hgr q2))
      | (go_at_call 51; refine (common_any g hg O gA _ (fun c => abM g c) (fun c => abM_small hg c) l _ _ (by omega) HN.out _ HGR.out hBk HQ2.out (HLI.out.below HU.out)).mono ?_; rintro e w3 ⟨rfl, hu⟩; rw [HS.out]; have HU3 := Lib.hid hu; clear hu)
      | (go_at_call 50; refine (least_any g hg O s hms HSN.out _ (HGR.out.below HU3.out)).mono ?_; rintro e w5 ⟨rfl, hu⟩; have HU5 := Lib.hid hu; clear hu)
      | (go_at_call 52; refine (list_any _ hos _).mono ?_; rintro e w4 ⟨v, rfl, hu, hr⟩; have HU4 := Lib.hid hu; have HR := Lib.hid hr; clear hu hr))
    go_ret2
    have hb3 : Below w.heap.size w w3 := HU.out.trans (HU3.out.mono HU.out.size)
    have hb5 : Below w.heap.size w w5 := hb3.trans (HU5.out.mono hb3.size)
    exact ⟨_, rfl, hb5.trans (HU4.out.mono hb5.size), HR.out.1, by rcases HR.out.2 with h | ⟨gg, cp, cur, h1, h2, h3⟩; exact .inl h; exact .inr ⟨gg, cp, cur, h1, Nat.le_trans hb5.size h2, h3⟩⟩
end Go.Proofs.Ytaofmejfdmbfoaa
namespace Go.Proofs.Ytaofmejfdmbfoaa
open Go.ChangeShapes Go.WideShapes Go.ChangeAt Go.RowKit Go.Ln
set_option maxRecDepth 100000 in
set_option maxHeartbeats 1000000 in
theorem sindex_any (l : List Int) (a : Option Addr) (cap : Nat) (x : Int) (w : World) (hl : (l.length : Int) ≤ 9223372036854775807) (hi : IntsAt w a l) :
    Calls Try.prog 47 #[.slice a l.length cap, .int .i64 x] w fun e w' => (∃ n : Int, e = .returned (.int .i64 n) ∧ decide (0 ≤ n) = decide (x ∈ l)) ∧ w = w' := by
  have HI := Lib.hid hi; clear hi
  obtain ⟨ans, hans⟩ : ∃ b, decide (x ∈ l) = b := ⟨_, rfl⟩
  rw [hans]
  have HA := Lib.hid hans; clear hans
  go_enter Try.func47, Try.ntmps47
  go_wp2
  go_loop [8] (fun i => ∃ k : Nat, k ≤ l.length ∧ i = .int .i64 k ∧ x ∉ l.take k) (fun i => l.length - (intOf i).toNat)
  case atStart => exact ⟨0, Nat.zero_le _, rfl, by simp⟩
  case round =>
    obtain ⟨k, hk, rfl, hn⟩ := hrel
    have HN := Lib.hid hn; clear hn
    by_cases hlt : k < l.length
    · obtain ⟨y, hy⟩ : ∃ y, l[k]? = some y := ⟨l[k], List.getElem?_eq_getElem hlt⟩
      obtain ⟨b, off, rfl, hb, hc⟩ := HI.out k y hy
      have HY := Lib.hid hy; clear hy
      by_cases he : x = y
      · have hans : true = ans := by rw [← HA.out]; symm; exact decide_eq_true (he ▸ List.mem_of_getElem? HY.out)
        subst hans
        go_wp2
        go_ret
        exact ⟨⟨_, rfl, by simp⟩, rfl⟩
      · go_wp2
        go_round
        case rel =>
          refine ⟨k + 1, by omega, by go_num, ?_⟩
          rw [take_snocI l k y HY.out]
          intro hm
          rcases List.mem_append.1 hm with h | h
          · exact HN.out h
          · exact he (List.mem_singleton.1 h)
        case measure => simp [intOf]; omega
    · obtain rfl : k = l.length := by omega
      have hn := HN.out
      rw [List.take_length] at hn
      have hans : false = ans := by rw [← HA.out]; symm; exact decide_eq_false hn
      subst hans
      go_wp2
      go_ret
      exact ⟨⟨_, rfl, by simp⟩, rfl⟩
set_option maxRecDepth 100000 in
set_option maxHeartbeats 1000000 in
theorem scontains_any (l : List Int) (a : Option Addr) (cap : Nat) (x : Int) (w : World) (hl : (l.length : Int) ≤ 9223372036854775807) (hi : IntsAt w a l) :
    Calls Try.prog 20 #[.slice a l.length cap, .int .i64 x] w fun e w' => e = .returned (.bool (decide (x ∈ l))) ∧ w = w' := by
  have HI := Lib.hid hi; clear hi
  obtain ⟨ans, hans⟩ : ∃ b, decide (x ∈ l) = b := ⟨_, rfl⟩
  rw [hans]
  have HA := Lib.hid hans; clear hans
  go_enter Try.func20, Try.ntmps20
  go_wp2_with (go_at_call 47; refine (sindex_any l _ _ x _ hl HI.out).mono ?_; rintro e w2 ⟨⟨n, rfl, hn⟩, rfl⟩; rw [HA.out] at hn)
  go_ret
  exact ⟨by rw [← hn]; simp, rfl⟩
end Go.Proofs.Ytaofmejfdmbfoaa
namespace Go.Proofs.Ytaofmejfdmbfoaa
open Go.ChangeShapes Go.WideShapes Go.ChangeAt Go.RowKit Go.Ln
set_option maxRecDepth 100000 in
set_option maxHeartbeats 2000000 in
theorem lformed_any (W0 : World) (g : Gr) (a : Option Addr) (cap : Nat) (hl : (g.length : Int) ≤ 9223372036854775807) (hi : GrAt W0 a g) (w : World) (hB : Below W0.heap.size W0 w) :
    Calls Try.prog 19 #[.slice a g.length cap] w fun e w' => e = .returned (.bool (goodB g)) ∧ Below w.heap.size w w' := by
  have HI := Lib.hid hi; clear hi
  have HB := Lib.hid hB; clear hB
  unfold goodB
  by_cases h3 : 16 < (g.length : Int)
  · have e : (decide (g.length ≤ 16) && goodFrom 0 g) = false := by rw [decide_eq_false (by omega)]; rfl
    rw [e]; clear e
    go_enter Try.func19, Try.ntmps19
    go_wp2
    go_ret
    exact ⟨rfl, Below.refl _ _⟩
  · have e : (decide (g.length ≤ 16) && goodFrom 0 g) = goodFrom 0 g := by rw [decide_eq_true (by omega)]; rfl
    rw [e]; clear e
    obtain ⟨ans, hans⟩ : ∃ b, goodFrom 0 g = b := ⟨_, rfl⟩
    rw [hans]
    have HA := Lib.hid hans; clear hans
    go_enter Try.func19, Try.ntmps19
    go_wp2
    go_loopw [12] (fun i wr => ∃ k : Nat, k ≤ g.length ∧ i = .int .i64 k ∧ goodFrom 0 (g.take k) = true ∧ Below w.heap.size w wr) (fun i _ => g.length - (intOf i).toNat)
    case atStart => exact ⟨0, Nat.zero_le _, rfl, rfl, Below.refl _ _⟩
    case round =>
      obtain ⟨k, hk, rfl, hok, hup⟩ := hrel
      have HUP := Lib.hid hup; have HOK := Lib.hid hok
      clear hup hok
      by_cases hlt : k < g.length
      · obtain ⟨l, hx⟩ : ∃ l, g[k]? = some l := ⟨g[k], List.getElem?_eq_getElem hlt⟩
        have hBr := HB.out.trans (HUP.out.mono HB.out.size)
        obtain ⟨b, off, al, cl, rfl, hb, hxc, hil, hml⟩ := HI.out.below hBr k l hx
        have hc3 : (3 : Int) + ((0 : Nat) : Int) + (k : Int) = 3 + (k : Int) := by omega
        have hst := goodFrom_stop g 0 k l hx
        have htk := goodFrom_take g 0 k l hx
        rw [hc3, canB_okP] at hst htk
        have HST := Lib.hid hst; have HTK := Lib.hid htk; have HIL := Lib.hid hil
        have hlm : (l.length : Int) ≤ 9223372036854775807 := by unfold maxLen at hml; omega
        have hcap : l.length ≤ cl := hml.1
        have hcap2 : (cl : Int) ≤ 9223372036854775807 := by unfold maxLen at hml; omega
        clear hst htk hil hml hx
        by_cases h4 : 3 < (l.length : Int)
        · obtain rfl : false = ans := by rw [← HA.out]; exact (HST.out (by rw [decide_eq_false (by omega)]; rfl)).symm
          go_wp2
          go_ret
          exact ⟨rfl, HUP.out⟩
        · have e4 : decide (l.length ≤ 3) = true := decide_eq_true (by omega)
          have HTK2 := Lib.hid (show goodFrom 0 (g.take (k + 1)) = (goodFrom 0 (g.take k) && okP (3 + (k : Int)) l) by rw [HTK.out, e4]; rfl)
          have HST2 := Lib.hid (show okP (3 + (k : Int)) l = false → goodFrom 0 g = false from fun h => HST.out (by rw [h, Bool.and_false]))
          clear HTK HST
          go_wp2
          go_loopw [22] (fun j wr2 => ∃ m : Nat, m ≤ l.length ∧ j = .int .i64 m ∧ okP (3 + (k : Int)) (l.take m) = true ∧ Below wr.heap.size wr wr2) (fun j _ => l.length - (intOf j).toNat)
          case atStart => exact ⟨0, Nat.zero_le _, rfl, by simp [okP], Below.refl _ _⟩
          case round =>
            obtain ⟨m, hm, rfl, hom, hup2⟩ := hrel
            have HUP2 := Lib.hid hup2; have HOM := Lib.hid hom
            clear hom
            have hxc2 := (hup2.cell (p := ⟨b, off + k, none⟩) hb).trans hxc
            have hil2 := HIL.out.below hup2
            clear hup2 hxc
            have HIL2 := Lib.hid hil2
            by_cases hlt2 : m < l.length
            · obtain ⟨y, hy⟩ : ∃ y, l[m]? = some y := ⟨l[m], List.getElem?_eq_getElem hlt2⟩
              obtain ⟨bl, ol, rfl, hbl, hyc⟩ := hil2 m y hy
              have hmc : m ≤ cl := by omega
              have hmc2 : (m : Int) ≤ (cl : Int) := by omega
              have hlen : (l.take m).length = m := by rw [List.length_take]; omega
              have hcall : ∀ w', Below wr.heap.size wr w' → Calls Try.prog 20 #[.slice (some ⟨bl, ol, none⟩) m cl, .int .i64 y] w' fun e w'' => e = .returned (.bool (decide (y ∈ l.take m))) ∧ w'' = w' := fun w' hb' => by
                have := scontains_any (l.take m) (some ⟨bl, ol, none⟩) cl y w' (by rw [hlen]; omega) (ints_take (HIL2.out.below hb') m)
                rw [hlen] at this
                exact this.mono fun e w'' ⟨h1, h2⟩ => ⟨h1, h2.symm⟩
              have hst := okP_stop (3 + (k : Int)) l m y hy
              have hnx := okP_next (3 + (k : Int)) l m y hy HOM.out
              have HC := Lib.hid hcall; have HST := Lib.hid hst; have HNX := Lib.hid hnx
              clear hcall hst hnx hil2 hy
              by_cases q1 : y < 3
              · obtain rfl : false = ans := by rw [← HA.out]; exact (HST2.out (HST.out (.inl q1))).symm
                go_wp2
                go_ret
                exact ⟨rfl, (HUP.out.trans (HUP2.out.mono HUP.out.size))⟩
              · have hd1 : decide (y < 3) = false := decide_eq_false q1
                have hw : IntKind.i64.wrap (3 + (k : Int)) = 3 + (k : Int) := by rw [IntKind.wrap_i64]; omega
                by_cases q2 : 3 + (k : Int) ≤ y
                · obtain rfl : false = ans := by rw [← HA.out]; exact (HST2.out (HST.out (.inr (.inl q2)))).symm
                  go_wp2
                  go_ret
                  exact ⟨rfl, (HUP.out.trans (HUP2.out.mono HUP.out.size))⟩
                · have hd2 : decide (3 + (k : Int) ≤ y) = false := decide_eq_false q2
                  cases hd : decide (y ∈ l.take m) with
                  | true =>
                    obtain rfl : false = ans := by rw [← HA.out]; exact (HST2.out (HST.out (.inr (.inr (of_decide_eq_true hd))))).symm
                    have HD := Lib.hid hd; clear hd
                    have HC2 := Lib.hid (show ∀ w', Below wr.heap.size wr w' → Calls Try.prog 20 #[.slice (some ⟨bl, ol, none⟩) m cl, .int .i64 y] w' fun e w'' => e = .returned (.bool true) ∧ w'' = w' from fun w' hb' => by have := HC.out w' hb'; rw [HD.out] at this; exact this)
                    go_wp2_with (go_at_call 20; refine (HC2.out _ (Below.refl _ _)).mono ?_; rintro e w5 ⟨rfl, rfl⟩)
                    go_ret
                    exact ⟨rfl, (HUP.out.trans (HUP2.out.mono HUP.out.size))⟩
                  | false =>
                    have hnm := of_decide_eq_false hd
                    have HD := Lib.hid hd; clear hd
                    have HC2 := Lib.hid (show ∀ w', Below wr.heap.size wr w' → Calls Try.prog 20 #[.slice (some ⟨bl, ol, none⟩) m cl, .int .i64 y] w' fun e w'' => e = .returned (.bool false) ∧ w'' = w' from fun w' hb' => by have := HC.out w' hb'; rw [HD.out] at this; exact this)
                    go_wp2_with (go_at_call 20; refine (HC2.out _ (Below.refl _ _)).mono ?_; rintro e w5 ⟨rfl, rfl⟩)
                    exact ⟨⟨m + 1, by omega, by go_num, HNX.out (by omega) (by omega) hnm, HUP2.out⟩, by simp [intOf]; omega⟩
            · obtain rfl : m = l.length := by omega
              have hom := HOM.out
              rw [List.take_length] at hom
              go_wp2
              exact ⟨⟨k + 1, by omega, by go_num, by rw [HTK2.out, HOK.out, hom]; rfl, HUP.out.trans (HUP2.out.mono HUP.out.size)⟩, by simp [intOf]; omega⟩
      · obtain rfl : k = g.length := by omega
        have hok := HOK.out
        rw [List.take_length] at hok
        obtain rfl : true = ans := by rw [← HA.out]; exact hok.symm
        go_wp2
        go_ret
        exact ⟨rfl, HUP.out⟩
end Go.Proofs.Ytaofmejfdmbfoaa
namespace Go.Proofs.Ytaofmejfdmbfoaa
open Go.ChangeShapes Go.WideShapes Go.ChangeAt Go.RowKit Go.Ln Go.Fs
theorem noGr {w : World} {a : Option Addr} : GrAt w a [] := fun k l h => by simp at h
set_option maxRecDepth 100000 in
theorem cloneG_any (all : Gr) (sa : Option Addr) (cap : Nat) (hl : all.length ≤ 1000) (w : World) (hg : GrAt w sa all) :
    Calls Try.prog 21 #[.slice sa all.length cap] w fun e w' => ∃ v, e = .returned v ∧ RowGr w.heap.size noB w' v all ∧ Below w.heap.size w w' := by
  cases all with
  | cons x t =>
    refine (clone_any (x :: t) sa cap hl (by simp) w (GrOff.of_gr hg fun b h => h)).mono ?_
    rintro e w' ⟨g, cp, rfl, h1, h2⟩
    exact ⟨_, rfl, h1, h2⟩
  | nil =>
    have qN : ∀ w : World, (binOp .eql 22 (.slice none 0 cap) (.slice none 0 0)).run Try.prog w = .ok (.bool true) w := fun w => Lib.run_eql_slice_nil w 22 25 none 0 cap 0 0 underG
    have qS : ∀ (w : World) (a : Addr) (n c : Nat), (binOp .eql 22 (.slice (some a) n c) (.slice none 0 0)).run Try.prog w = .ok (.bool false) w := fun w a n c => Lib.run_eql_slice_nil w 22 25 (some a) n c 0 0 underG
    rw [List.length_nil]
    cases sa with
    | none =>
      go_enter Try.func21, Try.ntmps21
      go_wp2
      go_ret
      exact ⟨_, rfl, RowGr.nil _ _ _, Below.refl _ _⟩
    | some ad =>
      have hr0 : Row w.heap.size (w.alloc (.cells #[] 25)) 25 (.slice (some ⟨w.heap.size, 0, none⟩) 0 0) [] := ⟨rfl, .inr ⟨w.heap.size, 0, _, rfl, Nat.le_refl _, heap_alloc_new _ _, Nat.le_refl _, Nat.zero_le _, rfl, rfl⟩⟩
      have HR0 := Lib.hid hr0
      clear hr0
      go_enter Try.func21, Try.ntmps21
      go_wp2_with (at_builtin; apply wpList_apps (B := w.heap.size) (xs := []) (sa := some ad) (n := 0) (c := cap) (news := []) (hnl := rfl) (ho := rfl) (hgd := rfl) (hty := rfl) (hs := rfl) (hx := rfl); (case hr => exact HR0.out); (case hB => simp); (case hx2 => intro k u hu; simp at hu); (case h1 => intro u hu; simp at hu); (case hb => simp); intro v3 w3 hr3 hg3; (have hb3 : Below w.heap.size w w3 := below_grown hg3); have HR3 := Lib.hid hr3; have HB3 := Lib.hid hb3; clear hr3 hb3 hg3)
      go_ret
      exact ⟨_, rfl, ⟨[], HR3.out, rfl, fun k l h => by simp at h⟩, HB3.out⟩
set_option maxRecDepth 100000 in
set_option maxHeartbeats 1000000 in
theorem seq_any (l : List Int) (a a' : Option Addr) (cap cap' : Nat) (w : World) (hl : (l.length : Int) ≤ 9223372036854775807) (hi : IntsAt w a l) (hi' : IntsAt w a' l) :
    Calls Try.prog 22 #[.slice a l.length cap, .slice a' l.length cap'] w fun e w' => e = .returned (.bool true) ∧ Below w.heap.size w w' := by
  have HI := Lib.hid hi; have HI' := Lib.hid hi'
  clear hi hi'
  go_enter Try.func22, Try.ntmps22
  go_wp2
  go_loopw [13] (fun i wr => ∃ k : Nat, k ≤ l.length ∧ i = .int .i64 k ∧ Below w.heap.size w wr) (fun i _ => l.length - (intOf i).toNat)
  case atStart => exact ⟨0, Nat.zero_le _, rfl, Below.refl _ _⟩
  case round =>
    obtain ⟨k, hk, rfl, hup⟩ := hrel
    have HUP := Lib.hid hup
    have hz := hup.size
    by_cases hlt : k < l.length
    · obtain ⟨y, hy⟩ : ∃ y, l[k]? = some y := ⟨l[k], List.getElem?_eq_getElem hlt⟩
      obtain ⟨b, off, rfl, hb, hc⟩ := HI.out.below hup k y hy
      obtain ⟨b', off', rfl, hb', hc'⟩ := HI'.out.below hup k y hy
      clear hy hup
      go_wp2
      go_quiet (fail)
      go_wp2
      exact ⟨⟨k + 1, by omega, by go_num, HUP.out.trans ((below_drewN _ _).mono hz)⟩, by simp [intOf]; omega⟩
    · obtain rfl : k = l.length := by omega
      go_wp2
      go_ret
      exact ⟨rfl, HUP.out⟩
/-- a list of bytes -/
def BytesAt (W : World) (a : Option Addr) (l : List Nat) : Prop := ∀ (k : Nat) (x : Nat), l[k]? = some x → ∃ b off, a = some ⟨b, off, none⟩ ∧ b < W.heap.size ∧ W.cell? ⟨b, off + k, none⟩ = some (.int .u8 (x : Int)) ∧ x < 256
theorem BytesAt.below {W w : World} {a : Option Addr} {l : List Nat} (h : BytesAt W a l) (hb : Below W.heap.size W w) : BytesAt w a l := fun k x hx => by
  obtain ⟨b, off, ha, hlt, hc, h2⟩ := h k x hx
  exact ⟨b, off, ha, Nat.lt_of_lt_of_le hlt hb.size, (hb.cell (p := ⟨b, off + k, none⟩) hlt).trans hc, h2⟩
def someL (n : Nat) (l : List Nat) : List Int := l.map fun (x : Nat) => (x : Int) % (n : Int)
theorem someL_snoc (n : Nat) (l : List Nat) (k x : Nat) (h : l[k]? = some x) : someL n (l.take (k + 1)) = someL n (l.take k) ++ [(x : Int) % (n : Int)] := by
  unfold someL; rw [take_snocI l k x h, List.map_append]; rfl
theorem classB_of {g : Gr} {a : Nat} (h : a < 3 + g.length) : classB g (a : Int) = true := by
  unfold classB
  rw [decide_eq_true (by omega), decide_eq_true (by omega)]; rfl
theorem linL_more {g gh : Gr} {m : List Int} (hgh : g ++ [m] = gh) (hg : goodB g = true) (hh : goodB gh = true) {a : Nat} (ha : a < 3 + g.length) : linL gh (a : Int) = linL g (a : Int) ∧ linE gh (a : Int) = linE g (a : Int) := by
  have hl : gh.length = g.length + 1 := by rw [← hgh]; simp
  have h1 : classB gh (a : Int) = true := classB_of (by omega)
  have h2 : classB g (a : Int) = true := classB_of ha
  have h3 : linO gh a = linO g a := by rw [← hgh]; exact linO_snoc g m ha
  constructor
  · unfold linL
    rw [if_pos ⟨hh, h1⟩, if_pos ⟨hg, h2⟩, Int.toNat_natCast, h3]
  · unfold linE
    simp only [hh, hg, h1, h2, and_self, if_true, Int.toNat_natCast, h3]
theorem belV_in {g : Gr} (hg : goodB g = true) {a b : Nat} (ha : a < 3 + g.length) (hb : b < 3 + g.length) : BelV g (a : Int) (b : Int) = .tuple #[.bool (aboveB g a b), .int .i64 0] := by
  unfold BelV
  rw [if_pos ⟨hg, classB_of ha, classB_of hb⟩, Int.toNat_natCast, Int.toNat_natCast]
theorem belV_more {g gh : Gr} {m : List Int} (hgh : g ++ [m] = gh) (hh : goodB gh = true) {a b : Nat} (ha : a < 3 + g.length) (hb : b < 3 + g.length) : BelV gh (a : Int) (b : Int) = .tuple #[.bool (aboveB g a b), .int .i64 0] := by
  have hl : gh.length = g.length + 1 := by rw [← hgh]; simp
  rw [belV_in hh (by omega) (by omega)]
  have h3 : aboveB gh a b = aboveB g a b := by rw [← hgh]; exact aboveB_snoc g m ha b
  rw [h3]
theorem linL_len2 (g : Gr) (c : Int) : ((linL g c).length : Int) ≤ 9223372036854775807 := by
  unfold linL
  split
  · rename_i h
    obtain ⟨an, rfl, han⟩ := classB_nat h.2
    have := linO_small h.1 han
    rw [Int.toNat_natCast]; omega
  · simp
theorem lin_pair {w4 : World} {g gh : Gr} {m : List Int} {sa ah : Option Addr} {cap ch : Nat} (hgh : g ++ [m] = gh) (hg : goodB g = true) (hh : goodB gh = true) (hi : GrAt w4 sa g) (hi' : GrAt w4 ah gh) {a : Nat} (ha : a < 3 + g.length) :
    ∃ (lA : List Int) (eA : Int), (lA.length : Int) ≤ 9223372036854775807 ∧ (∀ w', Below w4.heap.size w4 w' → Calls Try.prog 9 #[.slice sa g.length cap, .int .i64 (a : Int)] w' fun e w'' => ∃ x cp, e = .returned (.tuple #[.slice x lA.length cp, .int .i64 eA]) ∧ Below w'.heap.size w' w'' ∧ IntsAt w'' x lA) ∧
      ∀ w', Below w4.heap.size w4 w' → Calls Try.prog 9 #[.slice ah gh.length ch, .int .i64 (a : Int)] w' fun e w'' => ∃ x cp, e = .returned (.tuple #[.slice x lA.length cp, .int .i64 eA]) ∧ Below w'.heap.size w' w'' ∧ IntsAt w'' x lA := by
  have hlen := good_len hg
  have hlen' := good_len hh
  obtain ⟨e1, e2⟩ := linL_more hgh hg hh ha
  refine ⟨linL g (a : Int), linE g (a : Int), linL_len2 g _, fun w' h => lin_any w4 g sa cap (by omega) hi (a : Int) w' h, fun w' h => ?_⟩
  have := lin_any w4 gh ah ch (by omega) hi' (a : Int) w' h
  rw [e1, e2] at this
  exact this
theorem below_pair {w4 : World} {g gh : Gr} {m : List Int} {sa ah : Option Addr} {cap ch : Nat} (hgh : g ++ [m] = gh) (hg : goodB g = true) (hh : goodB gh = true) (hi : GrAt w4 sa g) (hi' : GrAt w4 ah gh) {a b : Nat} (ha : a < 3 + g.length) (hb : b < 3 + g.length) :
    ∃ ab : Bool, (∀ w', Below w4.heap.size w4 w' → Calls Try.prog 23 #[.slice sa g.length cap, .int .i64 (a : Int), .int .i64 (b : Int)] w' fun e w'' => e = .returned (.tuple #[.bool ab, .int .i64 0]) ∧ Below w'.heap.size w' w'') ∧
      ∀ w', Below w4.heap.size w4 w' → Calls Try.prog 23 #[.slice ah gh.length ch, .int .i64 (a : Int), .int .i64 (b : Int)] w' fun e w'' => e = .returned (.tuple #[.bool ab, .int .i64 0]) ∧ Below w'.heap.size w' w'' := by
  have hlen := good_len hg
  have hlen' := good_len hh
  refine ⟨aboveB g a b, fun w' h => ?_, fun w' h => ?_⟩
  · have := below_any w4 g sa cap (by omega) hi (a : Int) (b : Int) w' h
    rw [belV_in hg ha hb] at this
    exact this
  · have := below_any w4 gh ah ch (by omega) hi' (a : Int) (b : Int) w' h
    rw [belV_more hgh hh ha hb] at this
    exact this
theorem least_pair {w4 : World} {g gh : Gr} {m : List Int} {sa ah : Option Addr} {cap ch : Nat} (hgh : g ++ [m] = gh) (hg : goodB g = true) (hh : goodB gh = true) (hi : GrAt w4 sa g) (hi' : GrAt w4 ah gh) {l : List Int} {la : Option Addr} {lc : Nat} (hl : l.length ≤ 16) (h0 : l ≠ []) (hsm : ∀ c ∈ l, ∃ m : Nat, c = (m : Int) ∧ m < 3 + g.length) (hli : IntsAt w4 la l) {n : Nat} (hn : l.length = n) :
    ∃ lst : List Int, (lst.length : Int) ≤ 9223372036854775807 ∧ (∀ w', Below w4.heap.size w4 w' → Calls Try.prog 24 #[.slice sa g.length cap, .slice la n lc] w' (LstP w'.heap.size w' lst 0)) ∧
      ∀ w', Below w4.heap.size w4 w' → Calls Try.prog 24 #[.slice ah gh.length ch, .slice la n lc] w' (LstP w'.heap.size w' lst 0) := by
  have hlen := good_len hg
  have hlen' := good_len hh
  have hghl : gh.length = g.length + 1 := by rw [← hgh]; simp
  have hok : okWith g l = true := by
    unfold okWith classesB
    rw [hg, decide_eq_true hl, Bool.true_and, Bool.true_and, List.all_eq_true]
    intro c hc
    obtain ⟨m, rfl, hm⟩ := hsm c hc
    exact classB_of hm
  have hokh : okWith gh l = true := by
    unfold okWith classesB
    rw [hh, decide_eq_true hl, Bool.true_and, Bool.true_and, List.all_eq_true]
    intro c hc
    obtain ⟨m, rfl, hm⟩ := hsm c hc
    exact classB_of (by omega)
  have hfl := listF_length (leastB g l) (3 + g.length)
  have hls : listF (leastB gh l) (3 + gh.length) = listF (leastB g l) (3 + g.length) := by
    subst hgh
    exact least_list_snoc hg hh hsm h0
  subst hn
  refine ⟨listF (leastB g l) (3 + g.length), by omega, fun w' h => ?_, fun w' h => ?_⟩
  · have := leastL_any w4 g sa cap (by omega) hi l la lc (by omega) hli w' h
    rw [hok] at this
    simpa using this
  · have := leastL_any w4 gh ah ch (by omega) hi' l la lc (by omega) hli w' h
    rw [hokh, hls] at this
    simpa using this
end Go.Proofs.Ytaofmejfdmbfoaa
