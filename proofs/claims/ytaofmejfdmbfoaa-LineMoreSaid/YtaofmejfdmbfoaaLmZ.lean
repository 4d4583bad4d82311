/-
  The law LineMore returns true for every graph and every two lists of bytes: a graph with one more class has the same orders, below, and least common ones of all others; each argument reads afterwards as before. No condition.
-/
import Derived.Test.YtaofmejfdmbfoaaLnS
import Derived.Test.YtaofmejfdmbfoaaKw
import Derived.Test.YtaofmejfdmbfoaaXmD
import Derived.Test.YtaofmejfdmbfoaaLmM
import Derived.SliceStrings
import Derived.ChangeSlices
import Derived.ChangeMaps5
import Derived.ChangeArms
import Derived.Test.YtaofmejfdmbfoaaRows
namespace Go.Proofs.Ytaofmejfdmbfoaa
open Go.ChangeShapes Go.WideShapes Go.ChangeAt Go.RowKit Go.Ln
theorem namesOk_all : (Try.prog.funcs.toList.all fun fn => !(fn.body.isSome && (fn.name == "runtime.NumGoroutine"))) = true := by kernel_rfl
theorem namesOk : Xm.NamesOk Try.prog := fun f fn hf hb => by
  have := List.all_eq_true.1 namesOk_all fn (Array.mem_toList_iff.2 (Array.mem_of_getElem? hf))
  rw [hb] at this
  simpa using this
theorem works_start : (Xm.startS Try.prog 8 [] (Xm.gH Xm.Kw.gs) 0).isSome = true := by kernel_rfl
set_option maxRecDepth 100000 in
theorem works_any (w : World) : Calls Try.prog 8 #[] w fun e w' => e = .returned (.bool true) ∧ Below w.heap.size w w' := by
  have h0 : Xm.startS Try.prog 8 [] (Xm.gH Xm.Kw.gs) 0 = some Xm.Kw.K0 := by
    have := works_start
    unfold Xm.Kw.K0
    generalize Xm.startS Try.prog 8 [] (Xm.gH Xm.Kw.gs) 0 = o at this
    cases o with | none => cases this | some S => rfl
  have hl := Xm.Kw.last_ok
  split at hl
  · rename_i S' hS
    have hr := ((((((((((((((((((Xm.runK_ok namesOk 40 _ _ Xm.Kw.K1_ok).one (Xm.runK_ok namesOk 40 _ _ Xm.Kw.K2_ok)).one (Xm.runK_ok namesOk 40 _ _ Xm.Kw.K3_ok)).one (Xm.runK_ok namesOk 40 _ _ Xm.Kw.K4_ok)).one (Xm.runK_ok namesOk 40 _ _ Xm.Kw.K5_ok)).one (Xm.runK_ok namesOk 40 _ _ Xm.Kw.K6_ok)).one (Xm.runK_ok namesOk 40 _ _ Xm.Kw.K7_ok)).one (Xm.runK_ok namesOk 40 _ _ Xm.Kw.K8_ok)).one (Xm.runK_ok namesOk 40 _ _ Xm.Kw.K9_ok)).one (Xm.runK_ok namesOk 40 _ _ Xm.Kw.K10_ok)).one (Xm.runK_ok namesOk 40 _ _ Xm.Kw.K11_ok)).one (Xm.runK_ok namesOk 40 _ _ Xm.Kw.K12_ok)).one (Xm.runK_ok namesOk 40 _ _ Xm.Kw.K13_ok)).one (Xm.runK_ok namesOk 40 _ _ Xm.Kw.K14_ok)).one (Xm.runK_ok namesOk 40 _ _ Xm.Kw.K15_ok)).one (Xm.runK_ok namesOk 40 _ _ Xm.Kw.K16_ok)).one (Xm.runK_ok namesOk 40 _ _ Xm.Kw.K17_ok)).one (Xm.runK_ok namesOk 40 _ _ Xm.Kw.K18_ok)).one (Xm.runK_ok namesOk 40 _ _ Xm.Kw.K19_ok)
    exact Xm.calls_pieces namesOk (by kernel_rfl) h0 (hr.one (Xm.runK_ok namesOk 40 _ _ hS)) hl (fun x hx => by cases hx)
  · cases hl
/-- some list is longer than statements go -/
def largeB (g : Gr) : Bool := g.any (fun l => decide (60 < l.length))
def wideB (g : Gr) : Bool := decide (60 < g.length) || largeB g
set_option maxRecDepth 100000 in
set_option maxHeartbeats 1000000 in
theorem large_any (g : Gr) (a : Option Addr) (cap : Nat) (w : World) (hl : (g.length : Int) ≤ 9223372036854775807) (hi : GrAt w a g) :
    Calls Try.prog 12 #[.slice a g.length cap] w fun e w' => e = .returned (.bool (largeB g)) ∧ w = w' := by
  have HI := Lib.hid hi; clear hi
  obtain ⟨ans, hans⟩ : ∃ b, largeB g = b := ⟨_, rfl⟩
  rw [hans]
  have HA := Lib.hid hans; clear hans
  go_enter Try.func12, Try.ntmps12
  go_wp2
  go_loop [3] (fun i => ∃ k : Nat, k ≤ g.length ∧ i = .int .i64 k ∧ largeB (g.take k) = false) (fun i => g.length - (intOf i).toNat)
  case atStart => exact ⟨0, Nat.zero_le _, rfl, rfl⟩
  case round =>
    obtain ⟨k, hk, rfl, hn⟩ := hrel
    have HN := Lib.hid hn; clear hn
    by_cases hlt : k < g.length
    · obtain ⟨l, hy⟩ : ∃ l, g[k]? = some l := ⟨g[k], List.getElem?_eq_getElem hlt⟩
      obtain ⟨b, off, al, cl, rfl, hb, hc, hil, hml⟩ := HI.out k l hy
      have HY := Lib.hid hy; clear hy hil
      have hlm : (l.length : Int) ≤ 9223372036854775807 := by unfold maxLen at hml; omega
      by_cases he : 60 < (l.length : Int)
      · have hans : true = ans := by
          rw [← HA.out]; symm
          exact List.any_eq_true.2 ⟨l, List.mem_of_getElem? HY.out, decide_eq_true (by omega)⟩
        subst hans
        go_wp2
        go_ret
        exact ⟨rfl, rfl⟩
      · go_wp2
        go_round
        case rel =>
          refine ⟨k + 1, by omega, by go_num, ?_⟩
          have := HN.out
          unfold largeB at this ⊢
          rw [take_snocI g k l HY.out, List.any_append, this]
          simp; omega
        case measure => simp [intOf]; omega
    · obtain rfl : k = g.length := by omega
      have hn := HN.out
      rw [List.take_length] at hn
      have hans : false = ans := by rw [← HA.out]; exact hn.symm
      subst hans
      go_wp2
      go_ret
      exact ⟨rfl, rfl⟩
set_option maxRecDepth 100000 in
theorem wide_any (g : Gr) (a : Option Addr) (cap : Nat) (w : World) (hl : (g.length : Int) ≤ 9223372036854775807) (hi : GrAt w a g) :
    Calls Try.prog 7 #[.slice a g.length cap] w fun e w' => e = .returned (.bool (wideB g)) ∧ w = w' := by
  have HI := Lib.hid hi; clear hi
  unfold wideB
  by_cases h : 60 < (g.length : Int)
  · rw [decide_eq_true (by omega)]
    go_enter Try.func7, Try.ntmps7
    go_wp2
    go_ret
    exact ⟨rfl, rfl⟩
  · rw [decide_eq_false (by omega)]
    go_enter Try.func7, Try.ntmps7
    go_wp2_with (go_at_call 12; refine (large_any g _ _ _ hl HI.out).mono ?_; rintro e w2 ⟨rfl, rfl⟩)
    go_ret
    exact ⟨rfl, rfl⟩
end Go.Proofs.Ytaofmejfdmbfoaa
namespace Go.Proofs.Ytaofmejfdmbfoaa
open Go.ChangeShapes Go.WideShapes Go.ChangeAt Go.RowKit Go.Ln Go.Fs
set_option maxRecDepth 100000 in
set_option maxHeartbeats 8000000 in
theorem lawM_walk (W : World) (g : Gr) (sa : Option Addr) (cap : Nat) (hl : (g.length : Int) ≤ 9223372036854775807) (hi : GrAt W sa g) (ps : List Nat) (pa : Option Addr) (pc : Nat) (hpl : (ps.length : Int) ≤ 9223372036854775807) (hpc : ps.length ≤ pc) (hps : BytesAt W pa ps) (l : List Nat) (la : Option Addr) (lc : Nat) (hll : (l.length : Int) ≤ 9223372036854775807) (hli : BytesAt W la l) :
    Calls Try.prog 6 #[.slice sa g.length cap, .slice pa ps.length pc, .slice la l.length lc] W fun e w' => e = .returned (.bool true) ∧ Below W.heap.size W w' := by
  have HWD := Lib.hid (wide_any g sa cap W hl hi)
  have HFD := Lib.hid (fun (w : World) (h : Below W.heap.size W w) => lformed_any W g sa cap hl hi w h)
  have HBA := Lib.hid (Below.refl W.heap.size W)
  cases hw : wideB g with
  | true =>
    go_enter Try.func6, Try.ntmps6
    go_wp2_with (first
      | (go_at_call 7; refine HWD.out.mono ?_; rintro e w1 ⟨rfl, rfl⟩; rw [hw])
      | (go_at_call 8; refine (works_any _).mono ?_; rintro e w1 ⟨rfl, hu⟩; have HB := Lib.hid hu; clear hu))
    go_ret
    exact ⟨rfl, HB.out⟩
  | false =>
    cases hg : goodB g with
    | false =>
      rw [hg] at HFD
      go_enter Try.func6, Try.ntmps6
      go_wp2_with (first
        | (go_at_call 7; refine HWD.out.mono ?_; rintro e w1 ⟨rfl, rfl⟩; rw [hw])
        | (go_at_call 19; refine (HFD.out _ HBA.out).mono ?_; rintro e w2 ⟨rfl, hu⟩; have HBA := Lib.hid (HBA.out.trans (hu.mono HBA.out.size)); clear hu)
        | (go_at_call 8; refine (works_any _).mono ?_; rintro e w1 ⟨rfl, hu⟩; have HB := Lib.hid (HBA.out.trans (hu.mono HBA.out.size)); clear hu))
      go_ret
      exact ⟨rfl, HB.out⟩
    | true =>
      rw [hg] at HFD
      have hlen := good_len hg
      by_cases hq : (g.length : Int) = 16
      · go_enter Try.func6, Try.ntmps6
        go_wp2_with (first
          | (go_at_call 7; refine HWD.out.mono ?_; rintro e w1 ⟨rfl, rfl⟩; rw [hw])
          | (go_at_call 19; refine (HFD.out _ HBA.out).mono ?_; rintro e w2 ⟨rfl, hu⟩; have HBA := Lib.hid (HBA.out.trans (hu.mono HBA.out.size)); clear hu)
          | (go_at_call 8; refine (works_any _).mono ?_; rintro e w1 ⟨rfl, hu⟩; have HB := Lib.hid (HBA.out.trans (hu.mono HBA.out.size)); clear hu))
        go_ret
        exact ⟨rfl, HB.out⟩
      · have hqb : ((g.length : Int) == 16) = false := by simpa using hq
        by_cases h16 : 16 < (l.length : Int)
        · go_enter Try.func6, Try.ntmps6
          go_wp2_with (first
            | (go_at_call 7; refine HWD.out.mono ?_; rintro e w1 ⟨rfl, rfl⟩; rw [hw])
            | (go_at_call 19; refine (HFD.out _ HBA.out).mono ?_; rintro e w2 ⟨rfl, hu⟩; have HBA := Lib.hid (HBA.out.trans (hu.mono HBA.out.size)); clear hu)
            | (go_at_call 8; refine (works_any _).mono ?_; rintro e w1 ⟨rfl, hu⟩; have HB := Lib.hid (HBA.out.trans (hu.mono HBA.out.size)); clear hu))
          go_ret
          exact ⟨rfl, HB.out⟩
        · have HI := Lib.hid hi; have HLI := Lib.hid hli; have HPS := Lib.hid hps
          clear hi hli hps
          have hpcI : (ps.length : Int) ≤ (pc : Int) := by omega
          by_cases h3 : 3 < (ps.length : Int)
          all_goals (
            have h3pc : 3 < (ps.length : Int) → (3 : Int) ≤ (pc : Int) := by omega
            first | (have h3pd : (3 : Int) ≤ (pc : Int) := h3pc h3) | skip
            clear h3pc
            have H3X := Lib.hid h3
            go_enter Try.func6, Try.ntmps6
            go_wp2_with (first
              | (go_at_call 7; refine HWD.out.mono ?_; rintro e w1 ⟨rfl, rfl⟩; rw [hw])
              | (go_at_call 19; refine (HFD.out _ HBA.out).mono ?_; rintro e w2 ⟨rfl, hu⟩; have HBA := Lib.hid (HBA.out.trans (hu.mono HBA.out.size)); clear hu))
            have hz2 : W.heap.size ≤ w2.heap.size := HBA.out.size
            clear HFD HWD
            have hw3 : IntKind.i64.wrap (3 + (g.length : Int)) = 3 + (g.length : Int) := by rw [IntKind.wrap_i64]; omega
            go_loopw [7, 52] (fun v i wr => ∃ (k : Nat) (mo : List Int), k ≤ min ps.length 3 ∧ i = .int .i64 k ∧ Below W.heap.size W wr ∧ Row W.heap.size wr 3 v (ints mo) ∧ mo.Nodup ∧ (∀ x ∈ mo, 3 ≤ x ∧ x < 3 + (g.length : Int)) ∧ mo.length ≤ k) (fun _ i _ => 3 - (intOf i).toNat)
            case atStart => exact ⟨0, [], Nat.zero_le _, rfl, HBA.out, Row.nil _ _ _, List.nodup_nil, fun x hx => (by cases hx), Nat.le_refl _⟩
            case round =>
              obtain ⟨k, mo, hk, rfl, hup, hrow, hnd, hrg, hml⟩ := hrel
              have HUP := Lib.hid hup; have HR := Lib.hid hrow; have HND := Lib.hid hnd; have HRG := Lib.hid hrg
              have hz := hup.size
              by_cases hlt : k < min ps.length 3
              · have hlt1 : (k : Int) < 3 := by omega
                have hlt2 : (k : Int) < (ps.length : Int) := by omega
                obtain ⟨x, hx⟩ : ∃ x, ps[k]? = some x := ⟨ps[k]'(by omega), List.getElem?_eq_getElem _⟩
                obtain ⟨b, off, rfl, hb, hxc, hx8⟩ := HPS.out.below hup k x hx
                have hwx : IntKind.i64.wrap (x : Int) = x := by rw [IntKind.wrap_i64]; omega
                by_cases hg0 : g.length = 0
                · have hgI : ¬ (0 < (g.length : Int)) := by omega
                  have hgJ : (g.length : Int) = 0 := by omega
                  clear hx hup hrow hnd hrg
                  go_wp2
                  exact ⟨⟨k + 1, mo, by omega, by go_num, HUP.out, HR.out, HND.out, HRG.out, by omega⟩, by simp [intOf]; omega⟩
                · have hgI : 0 < (g.length : Int) := by omega
                  have hgJ : ¬ (g.length : Int) = 0 := by omega
                  have hmod1 : 0 ≤ (x : Int) % (g.length : Int) := Int.emod_nonneg _ (by omega)
                  have hmod2 : (x : Int) % (g.length : Int) < g.length := Int.emod_lt_of_pos _ (by omega)
                  have hwm : IntKind.i64.wrap ((x : Int) % (g.length : Int)) = (x : Int) % (g.length : Int) := by rw [IntKind.wrap_i64]; omega
                  have hwq : IntKind.i64.wrap (3 + (x : Int) % (g.length : Int)) = 3 + (x : Int) % (g.length : Int) := by rw [IntKind.wrap_i64]; omega
                  obtain ⟨am, cm, hvm, him⟩ := hrow.ints
                  have HIM := Lib.hid him
                  clear hx hup hrow hnd hrg him
                  have hsc := fun w' (h : Below wr.heap.size wr w') => scontains_any mo am cm (3 + (x : Int) % (g.length : Int)) w' (by omega) (HIM.out.below h)
                  have HSC := Lib.hid hsc
                  clear hsc
                  have HRow := HR
                  subst hvm
                  cases hmem : decide (3 + (x : Int) % (g.length : Int) ∈ mo) with
                  | true =>
                    have HME := Lib.hid hmem
                    clear hmem
                    go_wp2_with (go_at_call 20; refine (HSC.out _ (Below.refl _ _)).mono ?_; rintro e w5 ⟨rfl, rfl⟩; rw [HME.out])
                    exact ⟨⟨k + 1, mo, by omega, by go_num, HUP.out, HR.out, HND.out, HRG.out, by omega⟩, by simp [intOf]; omega⟩
                  | false =>
                    have hnm := of_decide_eq_false hmem
                    have HME := Lib.hid hmem
                    have HNM := Lib.hid hnm
                    clear hmem hnm
                    go_wp2_with (first
                      | (go_at_call 20; refine (HSC.out _ (Below.refl _ _)).mono ?_; rintro e w5 ⟨rfl, rfl⟩; rw [HME.out])
                      | (at_builtin; apply wpList_app TI (B := W.heap.size) (xs := ints mo) (g := _) (c := 1) (y := .int .i64 (3 + (x : Int) % (g.length : Int))) (ho := rfl) (hgd := rfl) (hty := rfl) (hs := rfl) (hx := rfl); (case hr => exact World.ownsRow.alloc HR.out _); (case hB => simp; omega); (case hy => simp); (case h1 => rfl); (case hb => simp [ints]; omega); intro v2 w5 hg3))
                    have hr2 : Row W.heap.size (wr.alloc (.cells #[.int .i64 (3 + (x : Int) % (g.length : Int))] 3)) 3 _ (ints mo) := World.ownsRow.alloc HR.out _
                    have hb2 : Below W.heap.size (wr.alloc (.cells #[.int .i64 (3 + (x : Int) % (g.length : Int))] 3)) w5 := hg3.below hr2 (by omega) (by simp; omega)
                    have hb3 := (HUP.out.alloc hz (.cells #[.int .i64 (3 + (x : Int) % (g.length : Int))] 3)).trans hb2
                    have hrow3 : Row W.heap.size w5 3 v2 (ints (mo ++ [3 + (x : Int) % (g.length : Int)])) := by
                      have := hg3.own
                      rw [ints_snoc]; exact this
                    refine ⟨⟨k + 1, mo ++ [3 + (x : Int) % (g.length : Int)], by omega, by go_num, hb3, hrow3, ?_, ?_, by simp; omega⟩, by simp [intOf]; omega⟩
                    · rw [List.nodup_append]
                      refine ⟨HND.out, by simp, fun a ha b hb e => ?_⟩
                      rw [List.mem_singleton] at hb
                      subst hb; subst e
                      exact HNM.out ha
                    · intro y hy
                      rcases List.mem_append.1 hy with h | h
                      · exact HRG.out y h
                      · rw [List.mem_singleton] at h; subst h; omega
              · have h3x := H3X.out
                have hk3 : k ≤ 3 := by omega
                have hA : 3 < (ps.length : Int) → ¬ (k : Int) < 3 := by omega
                have hB : (ps.length : Int) ≤ 3 → ¬ (k : Int) < (ps.length : Int) := by omega
                first
                  | (have q := hA h3x)
                  | (have q := hB h3x)
                clear h3x hA hB
                have hcan : canB mo (3 + (g.length : Int)) = true := by
                  unfold canB
                  rw [decide_eq_true (show mo.length ≤ 3 by omega), decide_eq_true hnd, Bool.true_and, Bool.and_true, List.all_eq_true]
                  intro p hp
                  have := hrg p hp
                  rw [decide_eq_true this.1, decide_eq_true this.2]; rfl
                have hh : goodB (g ++ [mo]) = true := good_snoc hg (by omega) hcan
                obtain ⟨gh, hgh⟩ : ∃ gh, g ++ [mo] = gh := ⟨_, rfl⟩
                rw [hgh] at hh
                obtain ⟨am, cm, hvm, hEm⟩ := row_elem hrow noB (fun b h => h.elim)
                have hcl := cloneG_any g sa cap (by omega) wr (HI.out.below hup)
                obtain ⟨wS, hwS⟩ : ∃ x, x = wr := ⟨wr, rfl⟩
                subst hwS
                have HCL := Lib.hid hcl; have HEM := Lib.hid hEm; have HGH := Lib.hid hgh; have HH := Lib.hid hh; have HG := Lib.hid hg
                subst hvm
                clear hcan hh hgh hEm hcl hrow hnd hrg hup HR HND HRG hg
                go_wp2_with (first
                  | (go_at_call 21; refine HCL.out.mono ?_; rintro e w3 ⟨v3, rfl, hr3, hu3⟩; have HR3 := Lib.hid hr3; have HU3 := Lib.hid hu3; clear hr3 hu3)
                  | (at_builtin; apply wpList_appG (B := wS.heap.size) (no := noB) (ls := g) (g := w3.heap.size) (c := 1) (al := am) (l := mo) (n := mo.length) (cp := cm) (hn := rfl) (ho := rfl) (hgd := rfl) (hty := rfl) (hs := rfl) (hx := rfl); (case hr => exact HR3.out.below ((Below.refl _ _).alloc (Nat.le_refl _) _)); (case hB => have := HU3.out.size; simp; omega); (case hy => simp); (case hE => exact (HEM.out.kept HU3.out.size (fun b hlt _ => HU3.out.block b hlt) (fun b hlt h => by rcases h with h | h; have := (HR3.out.lt b h).1; omega; exact h)).kept (by simp) (fun b hlt _ => Below.heap_alloc _ _ _ hlt) (fun _ _ h => h)); (case hb => omega); intro v4 w4 hg4; (have hb4 : Below wS.heap.size wS w4 := (HU3.out.alloc HU3.out.size _).trans (hg4.below (HR3.out.below ((Below.refl _ _).alloc (Nat.le_refl _) _)) (Nat.le_refl _) (by have := HU3.out.size; simp; omega))); have hown4 := hg4.own; (rw [HGH.out] at hown4); obtain ⟨ah, ch, hv4, hgr4, _⟩ := hown4.shape; subst hv4; have HB4 := Lib.hid hb4; have HGR4 := Lib.hid hgr4; clear hg4 hown4 hgr4 hb4))
                have hW4 : Below W.heap.size W w4 := HUP.out.trans (HB4.out.mono HUP.out.size)
                have HW4 := Lib.hid hW4
                have hgrg := HI.out.below hW4
                have HGG := Lib.hid hgrg
                have hz4 := hW4.size
                clear hW4 hgrg
                go_loopw [88] (fun i wr => ∃ a : Nat, a ≤ 3 + g.length ∧ i = .int .i64 a ∧ Below w4.heap.size w4 wr) (fun i _ => 3 + g.length - (intOf i).toNat)
                case atStart => exact ⟨0, Nat.zero_le _, rfl, Below.refl _ _⟩
                case round =>
                  obtain ⟨a, ha, rfl, hup⟩ := hrel
                  have HU := Lib.hid hup
                  by_cases hlt : (a : Int) < 3 + (g.length : Int)
                  · have han : a < 3 + g.length := by omega
                    obtain ⟨lA, eA, hll1, c1, c2⟩ := lin_pair (cap := cap) (ch := ch) HGH.out HG.out HH.out HGG.out HGR4.out han
                    have C1 := Lib.hid c1; have C2 := Lib.hid c2
                    clear c1 c2 hup
                    go_wp2_with (first
                      | (go_at_call_of 9 sa; refine (C1.out _ HU.out).mono ?_; rintro e w5 ⟨a1, k1, rfl, hu, hi1⟩; have I1 := Lib.hid hi1; have HU := Lib.hid (HU.out.trans (hu.mono HU.out.size)); clear hu hi1)
                      | (go_at_call_of 9 ah; refine (C2.out _ HU.out).mono ?_; rintro e w6 ⟨a2, k2, rfl, hu, hi2⟩; have I1 := Lib.hid (I1.out.below hu); have I2 := Lib.hid hi2; have HU := Lib.hid (HU.out.trans (hu.mono HU.out.size)); clear hu hi2)
                      | (go_at_call 22; refine (seq_any lA a1 a2 _ _ _ hll1 I1.out I2.out).mono ?_; rintro e w7 ⟨rfl, hu⟩; have HU := Lib.hid (HU.out.trans (hu.mono HU.out.size)); clear hu))
                    obtain ⟨wA, hwA⟩ : ∃ x, x = w7 := ⟨w7, rfl⟩
                    subst hwA
                    have hzA := HU.out.size
                    go_loopw [115] (fun i wr => ∃ b : Nat, b ≤ 3 + g.length ∧ i = .int .i64 b ∧ Below wA.heap.size wA wr) (fun i _ => 3 + g.length - (intOf i).toNat)
                    case atStart => exact ⟨0, Nat.zero_le _, rfl, Below.refl _ _⟩
                    case round =>
                      obtain ⟨b, hb, rfl, hup2⟩ := hrel
                      have HV := Lib.hid (HU.out.trans (hup2.mono hzA))
                      have HV2 := Lib.hid hup2
                      by_cases hlt2 : (b : Int) < 3 + (g.length : Int)
                      · have hbn : b < 3 + g.length := by omega
                        obtain ⟨ab, d1, d2⟩ := below_pair (cap := cap) (ch := ch) HGH.out HG.out HH.out HGG.out HGR4.out han hbn
                        have D1 := Lib.hid d1; have D2 := Lib.hid d2
                        clear d1 d2 hup2
                        cases ab
                        all_goals (
                          go_wp2_with (first
                            | (go_at_call_of 23 sa; refine (D1.out _ HV.out).mono ?_; rintro e w8 ⟨rfl, hu⟩; have HV := Lib.hid (HV.out.trans (hu.mono HV.out.size)); have HV2 := Lib.hid (HV2.out.trans (hu.mono HV2.out.size)); clear hu)
                            | (go_at_call_of 23 ah; refine (D2.out _ HV.out).mono ?_; rintro e w9 ⟨rfl, hu⟩; have HV := Lib.hid (HV.out.trans (hu.mono HV.out.size)); have HV2 := Lib.hid (HV2.out.trans (hu.mono HV2.out.size)); clear hu)))
                        all_goals exact ⟨⟨b + 1, by omega, by go_num, HV2.out⟩, by simp [intOf]; omega⟩
                      · obtain rfl : b = 3 + g.length := by omega
                        go_wp2
                        exact ⟨⟨a + 1, by omega, by go_num, HV.out⟩, by simp [intOf]; omega⟩
                  · obtain rfl : a = 3 + g.length := by omega
                    obtain ⟨wB, hwB⟩ : ∃ x, x = wr := ⟨wr, rfl⟩
                    subst hwB
                    have hWB : Below W.heap.size W wB := HW4.out.trans (hup.mono hz4)
                    have HWB := Lib.hid hWB
                    have hzB := hWB.size
                    have HGB := Lib.hid (HI.out.below hWB); have HHB := Lib.hid (HGR4.out.below hup)
                    clear hWB hup
                    obtain ⟨n, hn⟩ : ∃ n, 3 + g.length = n := ⟨_, rfl⟩
                    have hnI : 3 + (g.length : Int) = (n : Int) := by omega
                    have HN := Lib.hid hn
                    clear hn
                    go_wp2
                    go_loopw [21, 147] (fun v i wr => ∃ k : Nat, k ≤ l.length ∧ i = .int .i64 k ∧ Below wB.heap.size wB wr ∧ Row wB.heap.size wr 3 v (ints (someL n (l.take k)))) (fun _ i _ => l.length - (intOf i).toNat)
                    case atStart => exact ⟨0, Nat.zero_le _, rfl, Below.refl _ _, Row.nil _ _ _⟩
                    case round =>
                      obtain ⟨k, hk, rfl, hup, hrow⟩ := hrel
                      have HUC := Lib.hid hup; have HR := Lib.hid hrow
                      have hzC := hup.size
                      by_cases hlt : k < l.length
                      · obtain ⟨x, hx⟩ : ∃ x, l[k]? = some x := ⟨l[k], List.getElem?_eq_getElem hlt⟩
                        obtain ⟨b, off, rfl, hb, hxc, hx8⟩ := HLI.out.below (HWB.out.trans (hup.mono hzB)) k x hx
                        have hwx : IntKind.i64.wrap (x : Int) = x := by rw [IntKind.wrap_i64]; omega
                        have hmod1 : 0 ≤ (x : Int) % (n : Int) := Int.emod_nonneg _ (by have := HN.out; omega)
                        have hmod2 : (x : Int) % (n : Int) < n := Int.emod_lt_of_pos _ (by have := HN.out; omega)
                        have hwm : IntKind.i64.wrap ((x : Int) % (n : Int)) = (x : Int) % (n : Int) := by have := HN.out; rw [IntKind.wrap_i64]; omega
                        have hne : ¬ (3 + (g.length : Int)) = 0 := by omega
                        have HSN := Lib.hid (someL_snoc n l k x hx)
                        have hlk : (someL n (l.take k)).length = k := by unfold someL; rw [List.length_map, List.length_take]; omega
                        clear hx hup hrow
                        go_wp2_with (at_builtin; apply wpList_app TI (B := wB.heap.size) (xs := ints (someL n (l.take k))) (g := _) (c := 1) (y := .int .i64 ((x : Int) % (n : Int))) (ho := rfl) (hgd := rfl) (hty := rfl) (hs := rfl) (hx := rfl); (case hr => exact World.ownsRow.alloc HR.out _); (case hB => simp; omega); (case hy => simp); (case h1 => rfl); (case hb => simp [ints, hlk]; omega); intro v2 w5 hg3)
                        have hr2 : Row wB.heap.size (wr.alloc (.cells #[.int .i64 ((x : Int) % (n : Int))] 3)) 3 _ (ints (someL n (l.take k))) := World.ownsRow.alloc HR.out _
                        have hb2 : Below wB.heap.size (wr.alloc (.cells #[.int .i64 ((x : Int) % (n : Int))] 3)) w5 := hg3.below hr2 (by omega) (by simp; omega)
                        have hb3 := (HUC.out.alloc hzC (.cells #[.int .i64 ((x : Int) % (n : Int))] 3)).trans hb2
                        refine ⟨⟨k + 1, by omega, by go_num, hb3, ?_⟩, by simp [intOf]; omega⟩
                        have := hg3.own
                        rw [HSN.out, ints_snoc]; exact this
                      · obtain rfl : k = l.length := by omega
                        rw [List.take_length] at hrow
                        have hsl : (someL n l).length = l.length := by unfold someL; rw [List.length_map]
                        have hsm : ∀ c ∈ someL n l, ∃ m : Nat, c = (m : Int) ∧ m < 3 + g.length := by
                          intro c hc
                          unfold someL at hc
                          obtain ⟨x, _, rfl⟩ := List.mem_map.1 hc
                          have hN := HN.out
                          have h1 : 0 ≤ (x : Int) % (n : Int) := Int.emod_nonneg _ (by omega)
                          have h2 : (x : Int) % (n : Int) < n := Int.emod_lt_of_pos _ (by omega)
                          exact ⟨((x : Int) % (n : Int)).toNat, by omega, by omega⟩
                        obtain ⟨aS, cS, hvS, hiS⟩ := hrow.ints
                        rw [hsl] at hvS
                        subst hvS
                        have hbT : Below W.heap.size W wr := HWB.out.trans (hup.mono hzB)
                        have HBT := Lib.hid hbT
                        by_cases hl0 : l.length = 0
                        · have hlI : (l.length : Int) = 0 := by omega
                          clear hrow hup hiS hbT hsl
                          go_wp2_with (go_at_call 8; refine (works_any _).mono ?_; rintro e w1 ⟨rfl, hu⟩; have HB := Lib.hid (HBT.out.trans (hu.mono HBT.out.size)); clear hu)
                          go_ret
                          exact ⟨rfl, HB.out⟩
                        · have hlI : ¬ (l.length : Int) = 0 := by omega
                          have hne0 : someL n l ≠ [] := fun e => by rw [e] at hsl; simp at hsl; omega
                          obtain ⟨lst, hll, e1, e2⟩ := least_pair (cap := cap) (ch := ch) (lc := cS) HGH.out HG.out HH.out (HGB.out.below hup) (HHB.out.below hup) (l := someL n l) (by omega) hne0 hsm hiS hsl
                          have E1 := Lib.hid e1; have E2 := Lib.hid e2
                          have HBS := Lib.hid (Below.refl wr.heap.size wr)
                          clear e1 e2 hrow hup hiS hbT hsl hne0 hsm
                          go_wp2_with (first
                            | (go_at_call_of 24 sa; refine (E1.out _ HBS.out).mono ?_; rintro e w8 ⟨v, rfl, hu, hr⟩; obtain ⟨a1, k1, hv, hi1⟩ := hr.ints; subst hv; have I1 := Lib.hid hi1; have HBS := Lib.hid (HBS.out.trans (hu.mono HBS.out.size)); clear hu hr hi1)
                            | (go_at_call_of 24 ah; refine (E2.out _ HBS.out).mono ?_; rintro e w9 ⟨v, rfl, hu, hr⟩; obtain ⟨a2, k2, hv, hi2⟩ := hr.ints; subst hv; have I1 := Lib.hid (I1.out.below hu); have I2 := Lib.hid hi2; have HBS := Lib.hid (HBS.out.trans (hu.mono HBS.out.size)); clear hu hr hi2)
                            | (go_at_call 22; refine (seq_any lst a1 a2 _ _ _ hll I1.out I2.out).mono ?_; rintro e w7 ⟨rfl, hu⟩; have HBS := Lib.hid (HBS.out.trans (hu.mono HBS.out.size)); clear hu)
                            | (go_at_call 8; refine (works_any _).mono ?_; rintro e w1 ⟨rfl, hu⟩; have HBS := Lib.hid (HBS.out.trans (hu.mono HBS.out.size)); clear hu))
                          go_ret
                          exact ⟨rfl, HBT.out.trans (HBS.out.mono HBT.out.size)⟩)
end Go.Proofs.Ytaofmejfdmbfoaa
namespace Go.Proofs.Ytaofmejfdmbfoaa
open Go.ChangeShapes Go.WideShapes Go.ChangeAt Go.RowKit Go.Ln Go.Fs
theorem u8_wf {z : Int} (h : (Lit.int .u8 z).wf = true) : 0 ≤ z ∧ z < 256 := by
  have h2 : (IntKind.u8.min ≤ z) ∧ (z ≤ IntKind.u8.max) := by simpa [Lit.wf] using h
  have e1 : IntKind.u8.min = 0 := by rfl
  have e2 : IntKind.u8.max = 255 := by rfl
  omega
theorem own : ownKnob Try.prog.godebug = none := by kernel_rfl
theorem laidOut : laidOutB Try.prog = true := by kernel_rfl
theorem cellsOf_int : Try.prog.cellsOf 3 = 1 := by kernel_rfl
theorem cellsOf_u8 : Try.prog.cellsOf 5 = 1 := by kernel_rfl
theorem cellsOf_ints : Try.prog.cellsOf 25 = 1 := by kernel_rfl
section
variable {H : Type} {enc : TypeId × Value → H} {W : World} {spare : Nat → Bool} {held : Bool}
theorem cells_one {w : World} {a : Addr} {cs : List Value} (h : w.cells? 0 a 1 = some cs) : ∃ c, cs = [c] ∧ w.cell? a = some c := by
  unfold World.cells? at h
  rw [if_pos (Nat.zero_le _)] at h
  have hl : cs.length = 1 := by simpa using mapM_some_length h
  obtain ⟨c, rfl⟩ := List.length_eq_one_iff.1 hl
  refine ⟨c, rfl, ?_⟩
  have := mapM_some_get h 0 0 (by simp)
  simpa [Addr.add] using this
theorem open_intsL {n : Nat} {cs : List Value} {x : DataW H × List MemPlace} (h : DataW.trod enc Try.prog W 0 spare held n 25 cs = some x) : ∃ a l cap, cs = [.slice a (l : List Int).length cap] ∧ IntsAt W a l ∧ (l.length ≤ cap ∧ cap ≤ maxLen) := by
  rcases DataW.trod_slice Try.underlying25 h with ⟨rfl, _⟩ | ⟨a, len, cap, elems, rest, k, _, rfl, _, _, hlc, hcm, hel, he, _, _⟩
  · exact ⟨none, [], 0, rfl, IntsAt.nil _ _, Nat.le_refl _, Nat.zero_le _⟩
  · rw [cellsOf_int] at he
    have hex : ∀ i, ∃ z : Int, i < len → W.cell? (a.add (i * 1)) = some (.int .i64 z) := by
      intro i
      by_cases hi : i < len
      · have hb := he i hi
        rw [List.getElem?_eq_getElem (by omega)] at hb
        obtain ⟨cs, hc1, hc2⟩ := Option.bind_eq_some_iff.1 hb
        obtain ⟨z, rfl, _, _⟩ := DataW.trod_int Try.underlying3 hc2
        obtain ⟨c, hc, hcell⟩ := cells_one hc1
        cases hc
        exact ⟨z, fun _ => hcell⟩
      · exact ⟨0, fun h => absurd h hi⟩
    obtain ⟨f, hf⟩ := Classical.axiomOfChoice hex
    have hlen : ((List.range len).map f).length = len := by simp
    refine ⟨some a, (List.range len).map f, cap, by rw [hlen], fun i z hz => ?_, by rw [hlen]; exact hlc, hcm⟩
    have hi : i < len := by rw [← hlen]; exact (List.getElem?_eq_some_iff.1 hz).1
    have hz' : f i = z := by simpa [hi] using hz
    have hc := hf i hi
    rw [hz', Nat.mul_one] at hc
    obtain ⟨b, o, sp⟩ := a
    have hsp : sp = none := by simpa [Addr.add] using World.cell?_spot (hf 0 (by omega))
    subst hsp
    rw [WideShapes.add_plain] at hc
    exact ⟨b, o, rfl, cell_lt hc, hc⟩
theorem open_bytesL {n : Nat} {cs : List Value} {x : DataW H × List MemPlace} (h : DataW.trod enc Try.prog W 0 spare held n 37 cs = some x) : ∃ a l cap, cs = [.slice a (l : List Nat).length cap] ∧ BytesAt W a l ∧ (l.length ≤ cap ∧ cap ≤ maxLen) := by
  rcases DataW.trod_slice Try.underlying37 h with ⟨rfl, _⟩ | ⟨a, len, cap, elems, rest, k, _, rfl, _, _, hlc, hcm, hel, he, _, _⟩
  · exact ⟨none, [], 0, rfl, fun k x hx => by simp at hx, Nat.le_refl _, Nat.zero_le _⟩
  · rw [cellsOf_u8] at he
    have hex : ∀ i, ∃ z : Nat, i < len → W.cell? (a.add (i * 1)) = some (.int .u8 (z : Int)) ∧ z < 256 := by
      intro i
      by_cases hi : i < len
      · have hb := he i hi
        rw [List.getElem?_eq_getElem (by omega)] at hb
        obtain ⟨cs, hc1, hc2⟩ := Option.bind_eq_some_iff.1 hb
        obtain ⟨z, rfl, _, hz2⟩ := DataW.trod_int Try.underlying5 hc2
        obtain ⟨c, hc, hcell⟩ := cells_one hc1
        cases hc
        have hz3 : 0 ≤ z ∧ z < 256 := u8_wf hz2
        exact ⟨z.toNat, fun _ => ⟨by rw [hcell]; congr 2; omega, by omega⟩⟩
      · exact ⟨0, fun h => absurd h hi⟩
    obtain ⟨f, hf⟩ := Classical.axiomOfChoice hex
    have hlen : ((List.range len).map f).length = len := by simp
    refine ⟨some a, (List.range len).map f, cap, by rw [hlen], fun i z hz => ?_, by rw [hlen]; exact hlc, hcm⟩
    have hi : i < len := by rw [← hlen]; exact (List.getElem?_eq_some_iff.1 hz).1
    have hz' : f i = z := by simpa [hi] using hz
    have hc := hf i hi
    rw [hz', Nat.mul_one] at hc
    obtain ⟨b, o, sp⟩ := a
    have hsp : sp = none := by simpa [Addr.add] using World.cell?_spot (hf 0 (by omega)).1
    subst hsp
    rw [WideShapes.add_plain] at hc
    exact ⟨b, o, rfl, cell_lt hc.1, hc.1, hc.2⟩
theorem open_graph {n : Nat} {cs : List Value} {x : DataW H × List MemPlace} (h : DataW.trod enc Try.prog W 0 spare held n 22 cs = some x) : ∃ a g cap, cs = [.slice a (g : Gr).length cap] ∧ GrAt W a g ∧ g.length ≤ maxLen := by
  rcases DataW.trod_slice Try.underlying22 h with ⟨rfl, _⟩ | ⟨a, len, cap, elems, rest, k, _, rfl, _, _, hlc, hcm, hel, he, _, _⟩
  · exact ⟨none, [], 0, rfl, fun k l hl => by simp at hl, Nat.zero_le _⟩
  · rw [cellsOf_ints] at he
    have hex : ∀ i, ∃ (l : List Int) (al : Option Addr) (cl : Nat), i < len → W.cell? (a.add (i * 1)) = some (.slice al l.length cl) ∧ IntsAt W al l ∧ (l.length ≤ cl ∧ cl ≤ maxLen) := by
      intro i
      by_cases hi : i < len
      · have hb := he i hi
        rw [List.getElem?_eq_getElem (by omega)] at hb
        obtain ⟨cs, hc1, hc2⟩ := Option.bind_eq_some_iff.1 hb
        obtain ⟨al, l, cl, rfl, h1, h2⟩ := open_intsL hc2
        obtain ⟨c, hc, hcell⟩ := cells_one hc1
        cases hc
        exact ⟨l, al, cl, fun _ => ⟨hcell, h1, h2⟩⟩
      · exact ⟨[], none, 0, fun h => absurd h hi⟩
    obtain ⟨f, hf⟩ := Classical.axiomOfChoice hex
    have hlen : ((List.range len).map f).length = len := by simp
    refine ⟨some a, (List.range len).map f, cap, by rw [hlen], fun i l hz => ?_, by rw [hlen]; omega⟩
    have hi : i < len := by rw [← hlen]; exact (List.getElem?_eq_some_iff.1 hz).1
    have hz' : f i = l := by simpa [hi] using hz
    obtain ⟨al, cl, hc⟩ := hf i
    obtain ⟨hc, h1, h2⟩ := hc hi
    rw [hz', Nat.mul_one] at hc
    rw [hz'] at h1 h2
    obtain ⟨b, o, sp⟩ := a
    have hsp : sp = none := by
      obtain ⟨al0, cl0, hc0⟩ := hf 0
      simpa [Addr.add] using World.cell?_spot (hc0 (by omega)).1
    subst hsp
    rw [WideShapes.add_plain] at hc
    exact ⟨b, o, al, cl, rfl, cell_lt hc, hc, h1, h2⟩
end
set_option maxRecDepth 100000 in
theorem law_any (W : World) (args : Array Value) {H : Type} {enc : TypeId × Value → H} {ds : List (DataW H)} {p : List MemPlace} (base : Nat)
    (hval : ∀ (j : Nat) t v, Try.f6.params[j]? = some t → args[j]? = some v → Value.okWide Try.prog W .any base t v)
    (hA : DataW.TrodAll enc Try.prog W 0 (fun _ => true) true Try.f6.params.toList args.toList ds p) :
    Calls Try.prog 6 args W fun e W' => e = .returned (.bool true) ∧ Below W.heap.size W W' := by
  have hp : Try.f6.params = #[22, 37, 37] := by kernel_rfl
  rw [hp] at hval hA
  obtain ⟨v0, vs0, d0, ds0, p0, q0, hargs, rfl, rfl, h0, r0⟩ := trodAll_cons hA
  obtain ⟨v1, vs1, d1, ds1, p1, q1, rfl, rfl, rfl, h1, r1⟩ := trodAll_cons r0
  obtain ⟨v2, vs2, d2, ds2, p2, q2, rfl, rfl, rfl, h2, r2⟩ := trodAll_cons r1
  obtain ⟨rfl, rfl, rfl⟩ := trodAll_nil r2
  obtain rfl : args = #[v0, v1, v2] := by cases args; simp_all
  obtain ⟨a0, len, cap, rfl⟩ := okWide_slice Try.underlying22 (hval 0 22 v0 rfl rfl)
  obtain ⟨a1, len1, cap1, rfl⟩ := okWide_slice Try.underlying37 (hval 1 37 v1 rfl rfl)
  obtain ⟨a2, len2, cap2, rfl⟩ := okWide_slice Try.underlying37 (hval 2 37 v2 rfl rfl)
  obtain ⟨fuel, hf⟩ := h0
  obtain ⟨fuel1, hf1⟩ := h1
  obtain ⟨fuel2, hf2⟩ := h2
  obtain ⟨sa, g, cp, hcs, hg, hm⟩ := open_graph hf
  obtain ⟨pa, ps, pc, hcs1, hps, hm1, hm2⟩ := open_bytesL hf1
  obtain ⟨la, l, lc, hcs2, hli, hm3, hm4⟩ := open_bytesL hf2
  simp [Value.cells] at hcs hcs1 hcs2
  obtain ⟨rfl, rfl, rfl⟩ := hcs
  obtain ⟨rfl, rfl, rfl⟩ := hcs1
  obtain ⟨rfl, rfl, rfl⟩ := hcs2
  exact lawM_walk W g _ _ (by unfold maxLen at hm; omega) hg ps _ _ (by unfold maxLen at hm2; omega) hm1 hps l _ _ (by unfold maxLen at hm4; omega) hli
set_option maxRecDepth 100000 in
theorem contract (H : Type) (enc : TypeId × Value → H) (W : World) (base : Nat) (args : Array Value) (ds gs : List (DataW H)) (before : List MemPlace)
    (hval : ∀ (j : Nat) t v, Try.f6.params[j]? = some t → args[j]? = some v → Value.okWide Try.prog W .any base t v)
    (hW : DataW.Whole enc Try.prog Try.f6.params.toList Rows.lineMoreSpec.vars false W args.toList ds gs before) :
    Calls Try.prog 6 args W fun e W' => ∃ v, e = .returned v ∧ Rows.lineMoreSpec.post enc Try.prog Try.f6 false true false false W args v W' := by
  have hW' := hW
  obtain ⟨p, q, hA0, hV, rfl, _, _⟩ := hW
  have hA : DataW.TrodAll enc Try.prog W 0 (fun _ => true) true Try.f6.params.toList args.toList ds p := hA0
  refine (law_any W args base hval hA).mono fun e W' ⟨he, hb⟩ => ?_
  subst he
  refine ⟨_, rfl, Xm.law_post (tb := 4) laidOut (by kernel_rfl) (by kernel_rfl) (by kernel_rfl) rfl (fun ds hd => ?_) hW' hb⟩
  have hd : ds.length = 3 := hd.trans (by kernel_rfl)
  match ds, hd with
  | [a, b, c], _ => exact ⟨rfl, rfl, rfl⟩
set_option maxRecDepth 100000 in
theorem lifted (os : Os) (started : os.Started) (H : Type) (enc : TypeId × Value → H) :
    ReturnsInHanded {} Try.checked os 6 .any (Rows.lineMoreSpec.pre6 enc Try.prog Try.f6 Rows.lineMoreRow.domain false) (Rows.lineMoreSpec.post enc Try.prog Try.f6 false true false false) := by
  refine returnsInHanded_of_change (C := Try.checked) own started (by kernel_rfl) Try.func6
    (ChangeSpec.witness6 (enc := enc) (C := Try.checked) false ⟨#[], #[.slice none 0 0, .slice none 0 0, .slice none 0 0], []⟩ 8 (by kernel_rfl) (by kernel_rfl) (by kernel_rfl) (by kernel_rfl)) ?_
  intro W base args ds gs before hval hW _ _
  exact contract H enc W base args ds gs before hval hW
theorem holds : Rows.LineMoreSaid :=
  OpenClaim.holds_of_wide 6 Try.f6 rfl rfl rfl rfl rfl rfl rfl ⟨rfl, rfl, rfl, rfl, rfl⟩ rfl rfl rfl rfl rfl (by kernel_rfl) Try.func6 (by kernel_rfl)
    (of_decide_eq_true (by kernel_rfl)) (by unfold Func.isWrapper; first | (rw [if_pos (by decide +kernel)]; kernel_rfl) | (rw [if_neg (by decide +kernel)]; exact ⟨rfl, rfl⟩))
    (fun os started H enc _ => lifted os started H enc)
end Go.Proofs.Ytaofmejfdmbfoaa
