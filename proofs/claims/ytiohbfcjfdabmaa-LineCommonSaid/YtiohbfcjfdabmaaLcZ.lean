/-
  The law LineCommon returns true for every graph and every list of bytes: the least common classes are least, and each common one is above one of them; each argument reads afterwards as before. No condition.
-/
import Derived.Test.YtiohbfcjfdabmaaLcC
import Derived.Test.YtiohbfcjfdabmaaLcG
import Derived.SliceStrings
import Derived.ChangeSlices
import Derived.ChangeMaps5
import Derived.ChangeArms
import Derived.Test.YtiohbfcjfdabmaaRows
namespace Go.Proofs.Ytiohbfcjfdabmaa
open Go.ChangeShapes Go.WideShapes Go.ChangeAt Go.RowKit Go.Ln Go.Fs
/-- a list of bytes -/
def BytesAt (W : World) (a : Option Addr) (l : List Nat) : Prop := ∀ (k : Nat) (x : Nat), l[k]? = some x → ∃ b off, a = some ⟨b, off, none⟩ ∧ b < W.heap.size ∧ W.cell? ⟨b, off + k, none⟩ = some (.int .u8 (x : Int)) ∧ x < 256
theorem BytesAt.below {W w : World} {a : Option Addr} {l : List Nat} (h : BytesAt W a l) (hb : Below W.heap.size W w) : BytesAt w a l := fun k x hx => by
  obtain ⟨b, off, ha, hlt, hc, h2⟩ := h k x hx
  exact ⟨b, off, ha, Nat.lt_of_lt_of_le hlt hb.size, (hb.cell (p := ⟨b, off + k, none⟩) hlt).trans hc, h2⟩
def someL (n : Nat) (l : List Nat) : List Int := l.map fun (x : Nat) => (x : Int) % (n : Int)
theorem someL_snoc (n : Nat) (l : List Nat) (k x : Nat) (h : l[k]? = some x) : someL n (l.take (k + 1)) = someL n (l.take k) ++ [(x : Int) % (n : Int)] := by
  unfold someL; rw [take_snocI l k x h, List.map_append]; rfl
set_option maxRecDepth 100000 in
set_option maxHeartbeats 4000000 in
theorem lawC_walk (W : World) (g : Gr) (sa : Option Addr) (cap : Nat) (hl : (g.length : Int) ≤ 9223372036854775807) (hi : GrAt W sa g) (l : List Nat) (la : Option Addr) (lc : Nat) (hll : (l.length : Int) ≤ 9223372036854775807) (hli : BytesAt W la l) :
    Calls Try.prog 6 #[.slice sa g.length cap, .slice la l.length lc] W fun e w' => e = .returned (.bool true) ∧ Below W.heap.size W w' := by
  have hBA : Below W.heap.size W (W.alloc (.cells #[.slice sa g.length cap] 22)) := (Below.refl _ _).alloc (Nat.le_refl _) _
  have hG0 : (W.alloc (.cells #[.slice sa g.length cap] 22)).cell? ⟨W.heap.size, 0, none⟩ = some (.slice sa g.length cap) := by rw [World.cell?_alloc_at _ _ _ _ rfl]; rfl
  have hsz1 : (W.alloc (.cells #[.slice sa g.length cap] 22)).heap.size = W.heap.size + 1 := by simp
  have hbox : (Instr.box 22 (.slice sa g.length cap)).run Try.prog W = .ok (.pointer (some ⟨W.heap.size, 0, none⟩)) (W.alloc (.cells #[.slice sa g.length cap] 22)) := by rfl
  have hwd := wide_any g sa cap (W.alloc (.cells #[.slice sa g.length cap] 22)) hl (hi.below hBA)
  have hfd := fun (w : World) (h : Below W.heap.size W w) => lformed_any W g sa cap hl hi w h
  have HWD := Lib.hid hwd; have HFD := Lib.hid hfd; have HBA := Lib.hid hBA
  clear hwd hfd hBA
  cases hw : wideB g with
  | true =>
    go_enter Try.func6, Try.ntmps6
    go_wp2_with (first
      | (go_at_call 7; refine HWD.out.mono ?_; rintro e w1 ⟨rfl, rfl⟩; rw [hw])
      | (go_at_call 8; refine (works_any _).mono ?_; rintro e w1 ⟨rfl, hu⟩; have HB := Lib.hid (HBA.out.trans (hu.mono HBA.out.size)); clear hu))
    go_ret
    exact ⟨rfl, HB.out⟩
  | false =>
    cases hg : goodB g with
    | false =>
      rw [hg] at HFD
      go_enter Try.func6, Try.ntmps6
      go_wp2_with (first
        | (go_at_call 7; refine HWD.out.mono ?_; rintro e w1 ⟨rfl, rfl⟩; rw [hw])
        | (go_at_call 19; refine (HFD.out _ HBA.out).mono ?_; rintro e w2 ⟨rfl, hu⟩; have HBA := Lib.hid (HBA.out.trans (hu.mono HBA.out.size)); clear hu)
        | (go_at_call 8; refine (works_any _).mono ?_; rintro e w1 ⟨rfl, hu⟩; have HB := Lib.hid (HBA.out.trans (hu.mono HBA.out.size)); clear hu))
      go_ret
      exact ⟨rfl, HB.out⟩
    | true =>
      rw [hg] at HFD
      by_cases h16 : 16 < (l.length : Int)
      · go_enter Try.func6, Try.ntmps6
        go_wp2_with (first
          | (go_at_call 7; refine HWD.out.mono ?_; rintro e w1 ⟨rfl, rfl⟩; rw [hw])
          | (go_at_call 19; refine (HFD.out _ HBA.out).mono ?_; rintro e w2 ⟨rfl, hu⟩; have HBA := Lib.hid (HBA.out.trans (hu.mono HBA.out.size)); clear hu)
          | (go_at_call 8; refine (works_any _).mono ?_; rintro e w1 ⟨rfl, hu⟩; have HB := Lib.hid (HBA.out.trans (hu.mono HBA.out.size)); clear hu))
        go_ret
        exact ⟨rfl, HB.out⟩
      · have hlen := good_len hg
        have HI := Lib.hid hi; have HLI := Lib.hid hli
        clear hi hli
        have hw3 : IntKind.i64.wrap (3 + (g.length : Int)) = 3 + (g.length : Int) := by rw [IntKind.wrap_i64]; omega
        go_enter Try.func6, Try.ntmps6
        go_wp2_with (first
          | (go_at_call 7; refine HWD.out.mono ?_; rintro e w1 ⟨rfl, rfl⟩; rw [hw])
          | (go_at_call 19; refine (HFD.out _ HBA.out).mono ?_; rintro e w2 ⟨rfl, hu⟩; have hG2 := (hu.cell (p := ⟨W.heap.size, 0, none⟩) (by show W.heap.size < _; omega)).trans hG0; have hz2 := hu.size; have HBA := Lib.hid (HBA.out.trans (hu.mono HBA.out.size)); clear hu))
        have hszW : W.heap.size < w2.heap.size := by omega
        clear HFD HWD
        generalize hn : 3 + g.length = n at *
        have hn3 : 3 + (g.length : Int) = (n : Int) := by omega
        go_loopw [5, 31] (fun v i wr => ∃ k : Nat, k ≤ l.length ∧ i = .int .i64 k ∧ Below W.heap.size W wr ∧ W.heap.size < wr.heap.size ∧ wr.cell? ⟨W.heap.size, 0, none⟩ = some (.slice sa g.length cap) ∧ Row (W.heap.size + 1) wr 3 v (ints (someL n (l.take k)))) (fun _ i _ => l.length - (intOf i).toNat)
        case atStart => exact ⟨0, Nat.zero_le _, rfl, HBA.out, hszW, hG2, Row.nil _ _ _⟩
        case round =>
          obtain ⟨k, hk, rfl, hup, hsz, hGr, hrow⟩ := hrel
          have HUP := Lib.hid hup; have HR := Lib.hid hrow
          clear hrow
          by_cases hlt : k < l.length
          · obtain ⟨x, hx⟩ : ∃ x, l[k]? = some x := ⟨l[k], List.getElem?_eq_getElem hlt⟩
            obtain ⟨b, off, rfl, hb, hxc, hx8⟩ := HLI.out.below hup k x hx
            have hwx : IntKind.i64.wrap (x : Int) = x := by rw [IntKind.wrap_i64]; omega
            have hmod1 : 0 ≤ (x : Int) % (n : Int) := Int.emod_nonneg _ (by omega)
            have hmod2 : (x : Int) % (n : Int) < n := Int.emod_lt_of_pos _ (by omega)
            have hwm : IntKind.i64.wrap ((x : Int) % (n : Int)) = (x : Int) % (n : Int) := by rw [IntKind.wrap_i64]; omega
            have hne : ¬ (3 + (g.length : Int)) = 0 := by omega
            have HSN := Lib.hid (someL_snoc n l k x hx)
            clear hx hup
            have hlk : (someL n (l.take k)).length = k := by unfold someL; rw [List.length_map, List.length_take]; omega
            go_wp2_with (at_builtin; apply wpList_app TI (B := W.heap.size + 1) (xs := ints (someL n (l.take k))) (g := _) (c := 1) (y := .int .i64 ((x : Int) % (n : Int))) (ho := rfl) (hgd := rfl) (hty := rfl) (hs := rfl) (hx := rfl); (case hr => exact World.ownsRow.alloc HR.out _); (case hB => simp; omega); (case hy => simp); (case h1 => rfl); (case hb => simp [ints, hlk]; omega); intro v2 w3 hg3)
            have hr2 : Row (W.heap.size + 1) (wr.alloc (.cells #[.int .i64 ((x : Int) % (n : Int))] 3)) 3 _ (ints (someL n (l.take k))) := World.ownsRow.alloc HR.out _
            have hb2 : Below (W.heap.size + 1) (wr.alloc (.cells #[.int .i64 ((x : Int) % (n : Int))] 3)) w3 := hg3.below hr2 (by omega) (by simp; omega)
            have hb1 : Below (W.heap.size + 1) wr (wr.alloc (.cells #[.int .i64 ((x : Int) % (n : Int))] 3)) := (Below.refl _ _).alloc (by omega) _
            have hb3 := hb1.trans hb2
            refine ⟨⟨k + 1, by omega, by go_num, HUP.out.trans (hb3.mono (by omega)), by have := hb3.size; omega, (hb3.cell (p := ⟨W.heap.size, 0, none⟩) (by show W.heap.size < W.heap.size + 1; omega)).trans hGr, ?_⟩, by simp [intOf]; omega⟩
            have := hg3.own
            rw [HSN.out, ints_snoc]; exact this
          · obtain rfl : k = l.length := by omega
            have hsm : NatL g (someL n l) := by
              intro c hc
              unfold someL at hc
              obtain ⟨x, _, rfl⟩ := List.mem_map.1 hc
              have h1 : 0 ≤ (x : Int) % (n : Int) := Int.emod_nonneg _ (by omega)
              have h2 : (x : Int) % (n : Int) < n := Int.emod_lt_of_pos _ (by omega)
              exact ⟨((x : Int) % (n : Int)).toNat, by omega, by omega⟩
            have hsl : (someL n l).length ≤ 16 := by unfold someL; rw [List.length_map]; omega
            obtain ⟨aS, cS, hvS, hiS⟩ := HR.out.ints
            rw [List.take_length] at hvS hiS
            subst hvS
            generalize someL n l = sm at *
            have hok : okWith g sm = true := by
              unfold okWith classesB
              rw [hg, decide_eq_true hsl, Bool.true_and, Bool.true_and, List.all_eq_true]
              intro c hc
              obtain ⟨m, rfl, hm⟩ := hsm c hc
              unfold classB
              rw [decide_eq_true (by omega), decide_eq_true (by omega)]; rfl
            subst hn
            clear hn3
            have hgr := HI.out.below hup
            obtain ⟨wS, hwS⟩ : ∃ x, x = wr := ⟨wr, rfl⟩
            subst hwS
            have hcL := fun w' (h : Below wS.heap.size wS w') => leastL_any wS g sa cap hl hgr sm aS cS (by omega) hiS w' h
            have hcH := fun w' (h : Below wS.heap.size wS w') => heirs_any wS g sa cap hl hgr sm aS cS (by omega) hiS w' h
            rw [hok] at hcL hcH
            simp only [if_true] at hcL hcH
            have hLl := listF_length (leastB g sm) (3 + g.length)
            have hHl := listF_length (heirB g sm) (3 + g.length)
            have hLm : NatL g (listF (leastB g sm) (3 + g.length)) := fun c hc => by obtain ⟨m, h1, h2, _⟩ := listF_mem hc; exact ⟨m, h1, h2⟩
            have hLu : UpL (listF (leastB g sm) (3 + g.length)) := listF_up _ _
            have hHu : UpL (listF (heirB g sm) (3 + g.length)) := listF_up _ _
            have CL := Lib.hid hcL; have CH := Lib.hid hcH; have HSM := Lib.hid hsm; have HGR := Lib.hid hgr; have HIS := Lib.hid hiS; have HLM := Lib.hid hLm; have HLU := Lib.hid hLu; have HHU := Lib.hid hHu
            have HBS := Lib.hid (Below.refl wS.heap.size wS)
            clear hcL hcH hsm hgr hiS hLm hLu hHu hup HR HI HLI HBA
            go_wp2_with (first
              | (go_at_call 17; refine (CL.out _ HBS.out).mono ?_; rintro e w3 ⟨v, rfl, hu, hr⟩; obtain ⟨aL, cL, hv, hi1⟩ := hr.ints; subst hv; have IL := Lib.hid hi1; have HBS := Lib.hid (HBS.out.trans (hu.mono HBS.out.size)); have hGc := (HBS.out.cell (p := ⟨W.heap.size, 0, none⟩) hsz).trans hGr; clear hu hr hi1)
              | (go_at_call 15; refine (CH.out _ HBS.out).mono ?_; rintro e w4 ⟨v, rfl, hu, hr⟩; obtain ⟨aH, cH, hv, hi1⟩ := hr.ints; subst hv; have IL := Lib.hid (IL.out.below hu); have IH := Lib.hid hi1; have HBS := Lib.hid (HBS.out.trans (hu.mono HBS.out.size)); have hGc := (HBS.out.cell (p := ⟨W.heap.size, 0, none⟩) hsz).trans hGr; clear hu hr hi1)
              | (go_at_call_of 20 aL; refine (sorted_any _ _ _ HLU.out _ (by omega) IL.out).mono ?_; rintro e w5 ⟨rfl, hu⟩; have IL := Lib.hid (IL.out.below hu); have IH := Lib.hid (IH.out.below hu); have HBS := Lib.hid (HBS.out.trans (hu.mono HBS.out.size)); have hGc := (HBS.out.cell (p := ⟨W.heap.size, 0, none⟩) hsz).trans hGr; clear hu)
              | (go_at_call_of 20 aH; refine (sorted_any _ _ _ HHU.out _ (by omega) IH.out).mono ?_; rintro e w6 ⟨rfl, hu⟩; have IL := Lib.hid (IL.out.below hu); have IH := Lib.hid (IH.out.below hu); have HBS := Lib.hid (HBS.out.trans (hu.mono HBS.out.size)); have hGc := (HBS.out.cell (p := ⟨W.heap.size, 0, none⟩) hsz).trans hGr; clear hu)
              | (go_at_call 21; refine (cf_1 (.pointer (some ⟨W.heap.size, 0, none⟩)) _ _ aL cL (by omega) IL.out (fun _ => false) (fun x hx w' hw' => by obtain ⟨m, rfl, hm⟩ := HLM.out x hx; exact c1_any W.heap.size g sa cap hlen _ (by omega) (by omega) w' ((hw'.cell (p := ⟨W.heap.size, 0, none⟩) (Nat.lt_of_lt_of_le hsz HBS.out.size)).trans hGc)) _ (Below.refl _ _)).mono ?_; rintro e w7 ⟨rfl, hu⟩; rw [show (listF (leastB g sm) (3 + g.length)).any (fun _ => false) = false by simp]; have IL := Lib.hid (IL.out.below hu); have IH := Lib.hid (IH.out.below hu); have HBS := Lib.hid (HBS.out.trans (hu.mono HBS.out.size)); have hGd := (HBS.out.cell (p := ⟨W.heap.size, 0, none⟩) hsz).trans hGr; clear hu))
            obtain ⟨wM, hwM⟩ : ∃ x, x = w7 := ⟨w7, rfl⟩
            subst hwM
            have hszM : W.heap.size < wM.heap.size := Nat.lt_of_lt_of_le hsz HBS.out.size
            have hISM := HIS.out.below HBS.out
            have IS := Lib.hid hISM
            have hGRM := HGR.out.below HBS.out
            have HGRM := Lib.hid hGRM
            have hWM : Below W.heap.size W wM := HUP.out.trans (HBS.out.mono HUP.out.size)
            have HWM := Lib.hid hWM
            clear hISM hGRM hWM HIS HGR CL CH HLU HHU HUP HBS
            go_loopw [81] (fun i wr => ∃ b : Nat, b ≤ 3 + g.length ∧ i = .int .i64 b ∧ Below wM.heap.size wM wr) (fun i _ => 3 + g.length - (intOf i).toNat)
            case atStart => exact ⟨0, Nat.zero_le _, rfl, Below.refl _ _⟩
            case round =>
              obtain ⟨b, hb, rfl, hup⟩ := hrel
              have HU := Lib.hid hup
              by_cases hlt : (b : Int) < 3 + (g.length : Int)
              · have hbn : b < 3 + g.length := by omega
                have hal : Below wM.heap.size wM (wr.alloc (.cells #[.int .i64 (b : Int)] 3)) := hup.alloc hup.size _
                have hBx0 : (wr.alloc (.cells #[.int .i64 (b : Int)] 3)).cell? ⟨wr.heap.size, 0, none⟩ = some (.int .i64 (b : Int)) := by rw [World.cell?_alloc_at _ _ _ _ rfl]; rfl
                have hGb : (wr.alloc (.cells #[.int .i64 (b : Int)] 3)).cell? ⟨W.heap.size, 0, none⟩ = some (.slice sa g.length cap) := (hal.cell (p := ⟨W.heap.size, 0, none⟩) hszM).trans hGd
                have hGl : W.heap.size < (wr.alloc (.cells #[.int .i64 (b : Int)] 3)).heap.size := Nat.lt_of_lt_of_le hszM hal.size
                have hBl : wr.heap.size < (wr.alloc (.cells #[.int .i64 (b : Int)] 3)).heap.size := by simp
                have hGRb := HGRM.out.below hal
                have hISb := IS.out.below hal
                have hILb := IL.out.below hal
                have hIHb := IH.out.below hal
                have k2 : ∀ w', Below (wr.alloc (.cells #[.int .i64 (b : Int)] 3)).heap.size (wr.alloc (.cells #[.int .i64 (b : Int)] 3)) w' → Calls Try.prog 21 #[.slice aS sm.length cS, .func (.func 23) #[] #[(.pointer (some ⟨W.heap.size, 0, none⟩)), (.pointer (some ⟨wr.heap.size, 0, none⟩))]] w' fun e w'' => e = .returned (.bool (!overB g sm b)) ∧ Below w'.heap.size w' w'' := fun w' h => by
                  have := cf_2 (.pointer (some ⟨W.heap.size, 0, none⟩)) (.pointer (some ⟨wr.heap.size, 0, none⟩)) (wr.alloc (.cells #[.int .i64 (b : Int)] 3)) sm aS cS (by omega) hISb (fun c => !belowR g c.toNat b) (fun x hx w'' h'' => by obtain ⟨m, rfl, hm⟩ := HSM.out x hx; exact c2_any (wr.alloc (.cells #[.int .i64 (b : Int)] 3)) g sa cap hg hGRb W.heap.size wr.heap.size m b hm hbn w'' h'' ((h''.cell (p := ⟨W.heap.size, 0, none⟩) hGl).trans hGb) ((h''.cell (p := ⟨wr.heap.size, 0, none⟩) hBl).trans hBx0)) w' h
                  rw [any_not] at this; exact this
                have k3 : ∀ w', Below (wr.alloc (.cells #[.int .i64 (b : Int)] 3)).heap.size (wr.alloc (.cells #[.int .i64 (b : Int)] 3)) w' → Calls Try.prog 21 #[.slice aS sm.length cS, .func (.func 25) #[] #[(.pointer (some ⟨W.heap.size, 0, none⟩)), (.pointer (some ⟨wr.heap.size, 0, none⟩))]] w' fun e w'' => e = .returned (.bool (!heirB g sm b)) ∧ Below w'.heap.size w' w'' := fun w' h => by
                  have := cf_3 (.pointer (some ⟨W.heap.size, 0, none⟩)) (.pointer (some ⟨wr.heap.size, 0, none⟩)) (wr.alloc (.cells #[.int .i64 (b : Int)] 3)) sm aS cS (by omega) hISb (fun c => !belowR g b c.toNat) (fun x hx w'' h'' => by obtain ⟨m, rfl, hm⟩ := HSM.out x hx; exact c3_any (wr.alloc (.cells #[.int .i64 (b : Int)] 3)) g sa cap hg hGRb W.heap.size wr.heap.size m b hm hbn w'' h'' ((h''.cell (p := ⟨W.heap.size, 0, none⟩) hGl).trans hGb) ((h''.cell (p := ⟨wr.heap.size, 0, none⟩) hBl).trans hBx0)) w' h
                  rw [any_not] at this; exact this
                have k4 : ∀ w', Below (wr.alloc (.cells #[.int .i64 (b : Int)] 3)).heap.size (wr.alloc (.cells #[.int .i64 (b : Int)] 3)) w' → Calls Try.prog 21 #[.slice aL (listF (leastB g sm) (3 + g.length)).length cL, .func (.func 27) #[] #[(.pointer (some ⟨W.heap.size, 0, none⟩)), (.pointer (some ⟨wr.heap.size, 0, none⟩))]] w' fun e w'' => e = .returned (.bool (overB g sm b)) ∧ Below w'.heap.size w' w'' := fun w' h => by
                  have := cf_4 (.pointer (some ⟨W.heap.size, 0, none⟩)) (.pointer (some ⟨wr.heap.size, 0, none⟩)) (wr.alloc (.cells #[.int .i64 (b : Int)] 3)) (listF (leastB g sm) (3 + g.length)) aL cL (by omega) hILb (fun c => belowR g c.toNat b) (fun x hx w'' h'' => by obtain ⟨m, rfl, hm⟩ := HLM.out x hx; exact c4_any (wr.alloc (.cells #[.int .i64 (b : Int)] 3)) g sa cap hg hGRb W.heap.size wr.heap.size m b hm hbn w'' h'' ((h''.cell (p := ⟨W.heap.size, 0, none⟩) hGl).trans hGb) ((h''.cell (p := ⟨wr.heap.size, 0, none⟩) hBl).trans hBx0)) w' h
                  rw [over_any hg HSM.out b hbn] at this; exact this
                have k5 : ∀ w', leastB g sm b = true → Below (wr.alloc (.cells #[.int .i64 (b : Int)] 3)).heap.size (wr.alloc (.cells #[.int .i64 (b : Int)] 3)) w' → Calls Try.prog 21 #[.slice aL (listF (leastB g sm) (3 + g.length)).length cL, .func (.func 28) #[] #[(.pointer (some ⟨wr.heap.size, 0, none⟩)), (.pointer (some ⟨W.heap.size, 0, none⟩))]] w' fun e w'' => e = .returned (.bool false) ∧ Below w'.heap.size w' w'' := fun w' hlb h => by
                  have := cf_5 (.pointer (some ⟨wr.heap.size, 0, none⟩)) (.pointer (some ⟨W.heap.size, 0, none⟩)) (wr.alloc (.cells #[.int .i64 (b : Int)] 3)) (listF (leastB g sm) (3 + g.length)) aL cL (by omega) hILb (fun c => decide (c.toNat ≠ b) && belowR g c.toNat b) (fun x hx w'' h'' => by obtain ⟨m, rfl, hm⟩ := HLM.out x hx; exact c5_any (wr.alloc (.cells #[.int .i64 (b : Int)] 3)) g sa cap hg hGRb W.heap.size wr.heap.size m b hm hbn w'' h'' ((h''.cell (p := ⟨W.heap.size, 0, none⟩) hGl).trans hGb) ((h''.cell (p := ⟨wr.heap.size, 0, none⟩) hBl).trans hBx0)) w' h
                  rw [none_below b hlb] at this; exact this
                have k6 : ∀ w', Below (wr.alloc (.cells #[.int .i64 (b : Int)] 3)).heap.size (wr.alloc (.cells #[.int .i64 (b : Int)] 3)) w' → Calls Try.prog 26 #[.slice aH (listF (heirB g sm) (3 + g.length)).length cH, .int .i64 (b : Int)] w' fun e w'' => e = .returned (.bool (heirB g sm b)) ∧ w' = w'' := fun w' h => by
                  have := scontains_any (listF (heirB g sm) (3 + g.length)) aH cH (b : Int) w' (by omega) (hIHb.below h)
                  rw [memF _ _ b hbn] at this; exact this
                have k7 : ∀ w', Below (wr.alloc (.cells #[.int .i64 (b : Int)] 3)).heap.size (wr.alloc (.cells #[.int .i64 (b : Int)] 3)) w' → Calls Try.prog 26 #[.slice aL (listF (leastB g sm) (3 + g.length)).length cL, .int .i64 (b : Int)] w' fun e w'' => e = .returned (.bool (leastB g sm b)) ∧ w' = w'' := fun w' h => by
                  have := scontains_any (listF (leastB g sm) (3 + g.length)) aL cL (b : Int) w' (by omega) (hILb.below h)
                  rw [memF _ _ b hbn] at this; exact this
                generalize overB g sm b = ov at *
                generalize heirB g sm b = un at *
                generalize leastB g sm b = lb at *
                have K2 := Lib.hid k2; have K3 := Lib.hid k3; have K4 := Lib.hid k4; have K5 := Lib.hid k5; have K6 := Lib.hid k6; have K7 := Lib.hid k7; have HAL := Lib.hid hal
                have M2 : True := trivial
                have M3 : True := trivial
                have M4 : True := trivial
                have M5 : True := trivial
                have HBb := Lib.hid (Below.refl (wr.alloc (.cells #[.int .i64 (b : Int)] 3)).heap.size (wr.alloc (.cells #[.int .i64 (b : Int)] 3)))
                clear k2 k3 k4 k5 k6 k7 hGRb hISb hILb hIHb hup hal
                cases ov <;> cases un <;> cases lb
                all_goals (
                  go_wp2_with (first
                    | (go_at_call 21; clear M2; refine (K2.out _ HBb.out).mono ?_; rintro e w8 ⟨rfl, hu⟩; have hb8 := (hu.cell (p := ⟨wr.heap.size, 0, none⟩) (Nat.lt_of_lt_of_le hBl HBb.out.size)).trans ((HBb.out.cell (p := ⟨wr.heap.size, 0, none⟩) hBl).trans hBx0); have HBb := Lib.hid (HBb.out.trans (hu.mono HBb.out.size)); clear hu)
                    | (go_at_call 21; clear M3; refine (K3.out _ HBb.out).mono ?_; rintro e w8 ⟨rfl, hu⟩; have hb8 := (hu.cell (p := ⟨wr.heap.size, 0, none⟩) (Nat.lt_of_lt_of_le hBl HBb.out.size)).trans ((HBb.out.cell (p := ⟨wr.heap.size, 0, none⟩) hBl).trans hBx0); have HBb := Lib.hid (HBb.out.trans (hu.mono HBb.out.size)); clear hu)
                    | (go_at_call 21; clear M4; refine (K4.out _ HBb.out).mono ?_; rintro e w8 ⟨rfl, hu⟩; have hb8 := (hu.cell (p := ⟨wr.heap.size, 0, none⟩) (Nat.lt_of_lt_of_le hBl HBb.out.size)).trans ((HBb.out.cell (p := ⟨wr.heap.size, 0, none⟩) hBl).trans hBx0); have HBb := Lib.hid (HBb.out.trans (hu.mono HBb.out.size)); clear hu)
                    | (go_at_call 21; clear M5; refine (K5.out _ (by first | rfl | trivial) HBb.out).mono ?_; rintro e w8 ⟨rfl, hu⟩; have HBb := Lib.hid (HBb.out.trans (hu.mono HBb.out.size)); clear hu)
                    | (go_at_call_of 26 aH; refine (K6.out _ HBb.out).mono ?_; rintro e w8 ⟨rfl, rfl⟩)
                    | (go_at_call_of 26 aL; refine (K7.out _ HBb.out).mono ?_; rintro e w8 ⟨rfl, rfl⟩)))
                all_goals exact ⟨⟨b + 1, by omega, by go_num, HAL.out.trans (HBb.out.mono HAL.out.size)⟩, by simp [intOf]; omega⟩
              · go_wp2_with (go_at_call 8; refine (works_any _).mono ?_; rintro e w1 ⟨rfl, hu⟩; have HX := Lib.hid hu; clear hu)
                go_ret
                have h1 : Below W.heap.size W wr := HWM.out.trans (HU.out.mono HWM.out.size)
                exact ⟨rfl, h1.trans (HX.out.mono h1.size)⟩
end Go.Proofs.Ytiohbfcjfdabmaa
namespace Go.Proofs.Ytiohbfcjfdabmaa
open Go.ChangeShapes Go.WideShapes Go.ChangeAt Go.RowKit Go.Ln Go.Fs
theorem u8_wf {z : Int} (h : (Lit.int .u8 z).wf = true) : 0 ≤ z ∧ z < 256 := by
  have h2 : (IntKind.u8.min ≤ z) ∧ (z ≤ IntKind.u8.max) := by simpa [Lit.wf] using h
  have e1 : IntKind.u8.min = 0 := by rfl
  have e2 : IntKind.u8.max = 255 := by rfl
  omega
theorem own : ownKnob Try.prog.godebug = none := by kernel_rfl
theorem laidOut : laidOutB Try.prog = true := by kernel_rfl
theorem cellsOf_int : Try.prog.cellsOf 3 = 1 := by kernel_rfl
theorem cellsOf_u8 : Try.prog.cellsOf 5 = 1 := by kernel_rfl
theorem cellsOf_ints : Try.prog.cellsOf 25 = 1 := by kernel_rfl
section
variable {H : Type} {enc : TypeId × Value → H} {W : World} {spare : Nat → Bool} {held : Bool}
theorem cells_one {w : World} {a : Addr} {cs : List Value} (h : w.cells? 0 a 1 = some cs) : ∃ c, cs = [c] ∧ w.cell? a = some c := by
  unfold World.cells? at h
  rw [if_pos (Nat.zero_le _)] at h
  have hl : cs.length = 1 := by simpa using mapM_some_length h
  obtain ⟨c, rfl⟩ := List.length_eq_one_iff.1 hl
  refine ⟨c, rfl, ?_⟩
  have := mapM_some_get h 0 0 (by simp)
  simpa [Addr.add] using this
theorem open_intsL {n : Nat} {cs : List Value} {x : DataW H × List MemPlace} (h : DataW.trod enc Try.prog W 0 spare held n 25 cs = some x) : ∃ a l cap, cs = [.slice a (l : List Int).length cap] ∧ IntsAt W a l ∧ (l.length ≤ cap ∧ cap ≤ maxLen) := by
  rcases DataW.trod_slice Try.underlying25 h with ⟨rfl, _⟩ | ⟨a, len, cap, elems, rest, k, _, rfl, _, _, hlc, hcm, hel, he, _, _⟩
  · exact ⟨none, [], 0, rfl, IntsAt.nil _ _, Nat.le_refl _, Nat.zero_le _⟩
  · rw [cellsOf_int] at he
    have hex : ∀ i, ∃ z : Int, i < len → W.cell? (a.add (i * 1)) = some (.int .i64 z) := by
      intro i
      by_cases hi : i < len
      · have hb := he i hi
        rw [List.getElem?_eq_getElem (by omega)] at hb
        obtain ⟨cs, hc1, hc2⟩ := Option.bind_eq_some_iff.1 hb
        obtain ⟨z, rfl, _, _⟩ := DataW.trod_int Try.underlying3 hc2
        obtain ⟨c, hc, hcell⟩ := cells_one hc1
        cases hc
        exact ⟨z, fun _ => hcell⟩
      · exact ⟨0, fun h => absurd h hi⟩
    obtain ⟨f, hf⟩ := Classical.axiomOfChoice hex
    have hlen : ((List.range len).map f).length = len := by simp
    refine ⟨some a, (List.range len).map f, cap, by rw [hlen], fun i z hz => ?_, by rw [hlen]; exact hlc, hcm⟩
    have hi : i < len := by rw [← hlen]; exact (List.getElem?_eq_some_iff.1 hz).1
    have hz' : f i = z := by simpa [hi] using hz
    have hc := hf i hi
    rw [hz', Nat.mul_one] at hc
    obtain ⟨b, o, sp⟩ := a
    have hsp : sp = none := by simpa [Addr.add] using World.cell?_spot (hf 0 (by omega))
    subst hsp
    rw [WideShapes.add_plain] at hc
    exact ⟨b, o, rfl, cell_lt hc, hc⟩
theorem open_bytesL {n : Nat} {cs : List Value} {x : DataW H × List MemPlace} (h : DataW.trod enc Try.prog W 0 spare held n 37 cs = some x) : ∃ a l cap, cs = [.slice a (l : List Nat).length cap] ∧ BytesAt W a l ∧ (l.length ≤ cap ∧ cap ≤ maxLen) := by
  rcases DataW.trod_slice Try.underlying37 h with ⟨rfl, _⟩ | ⟨a, len, cap, elems, rest, k, _, rfl, _, _, hlc, hcm, hel, he, _, _⟩
  · exact ⟨none, [], 0, rfl, fun k x hx => by simp at hx, Nat.le_refl _, Nat.zero_le _⟩
  · rw [cellsOf_u8] at he
    have hex : ∀ i, ∃ z : Nat, i < len → W.cell? (a.add (i * 1)) = some (.int .u8 (z : Int)) ∧ z < 256 := by
      intro i
      by_cases hi : i < len
      · have hb := he i hi
        rw [List.getElem?_eq_getElem (by omega)] at hb
        obtain ⟨cs, hc1, hc2⟩ := Option.bind_eq_some_iff.1 hb
        obtain ⟨z, rfl, _, hz2⟩ := DataW.trod_int Try.underlying5 hc2
        obtain ⟨c, hc, hcell⟩ := cells_one hc1
        cases hc
        have hz3 : 0 ≤ z ∧ z < 256 := u8_wf hz2
        exact ⟨z.toNat, fun _ => ⟨by rw [hcell]; congr 2; omega, by omega⟩⟩
      · exact ⟨0, fun h => absurd h hi⟩
    obtain ⟨f, hf⟩ := Classical.axiomOfChoice hex
    have hlen : ((List.range len).map f).length = len := by simp
    refine ⟨some a, (List.range len).map f, cap, by rw [hlen], fun i z hz => ?_, by rw [hlen]; exact hlc, hcm⟩
    have hi : i < len := by rw [← hlen]; exact (List.getElem?_eq_some_iff.1 hz).1
    have hz' : f i = z := by simpa [hi] using hz
    have hc := hf i hi
    rw [hz', Nat.mul_one] at hc
    obtain ⟨b, o, sp⟩ := a
    have hsp : sp = none := by simpa [Addr.add] using World.cell?_spot (hf 0 (by omega)).1
    subst hsp
    rw [WideShapes.add_plain] at hc
    exact ⟨b, o, rfl, cell_lt hc.1, hc.1, hc.2⟩
theorem open_graph {n : Nat} {cs : List Value} {x : DataW H × List MemPlace} (h : DataW.trod enc Try.prog W 0 spare held n 22 cs = some x) : ∃ a g cap, cs = [.slice a (g : Gr).length cap] ∧ GrAt W a g ∧ g.length ≤ maxLen := by
  rcases DataW.trod_slice Try.underlying22 h with ⟨rfl, _⟩ | ⟨a, len, cap, elems, rest, k, _, rfl, _, _, hlc, hcm, hel, he, _, _⟩
  · exact ⟨none, [], 0, rfl, fun k l hl => by simp at hl, Nat.zero_le _⟩
  · rw [cellsOf_ints] at he
    have hex : ∀ i, ∃ (l : List Int) (al : Option Addr) (cl : Nat), i < len → W.cell? (a.add (i * 1)) = some (.slice al l.length cl) ∧ IntsAt W al l ∧ (l.length ≤ cl ∧ cl ≤ maxLen) := by
      intro i
      by_cases hi : i < len
      · have hb := he i hi
        rw [List.getElem?_eq_getElem (by omega)] at hb
        obtain ⟨cs, hc1, hc2⟩ := Option.bind_eq_some_iff.1 hb
        obtain ⟨al, l, cl, rfl, h1, h2⟩ := open_intsL hc2
        obtain ⟨c, hc, hcell⟩ := cells_one hc1
        cases hc
        exact ⟨l, al, cl, fun _ => ⟨hcell, h1, h2⟩⟩
      · exact ⟨[], none, 0, fun h => absurd h hi⟩
    obtain ⟨f, hf⟩ := Classical.axiomOfChoice hex
    have hlen : ((List.range len).map f).length = len := by simp
    refine ⟨some a, (List.range len).map f, cap, by rw [hlen], fun i l hz => ?_, by rw [hlen]; omega⟩
    have hi : i < len := by rw [← hlen]; exact (List.getElem?_eq_some_iff.1 hz).1
    have hz' : f i = l := by simpa [hi] using hz
    obtain ⟨al, cl, hc⟩ := hf i
    obtain ⟨hc, h1, h2⟩ := hc hi
    rw [hz', Nat.mul_one] at hc
    rw [hz'] at h1 h2
    obtain ⟨b, o, sp⟩ := a
    have hsp : sp = none := by
      obtain ⟨al0, cl0, hc0⟩ := hf 0
      simpa [Addr.add] using World.cell?_spot (hc0 (by omega)).1
    subst hsp
    rw [WideShapes.add_plain] at hc
    exact ⟨b, o, al, cl, rfl, cell_lt hc, hc, h1, h2⟩
end
set_option maxRecDepth 100000 in
theorem law_any (W : World) (args : Array Value) {H : Type} {enc : TypeId × Value → H} {ds : List (DataW H)} {p : List MemPlace} (base : Nat)
    (hval : ∀ (j : Nat) t v, Try.f6.params[j]? = some t → args[j]? = some v → Value.okWide Try.prog W .any base t v)
    (hA : DataW.TrodAll enc Try.prog W 0 (fun _ => true) true Try.f6.params.toList args.toList ds p) :
    Calls Try.prog 6 args W fun e W' => e = .returned (.bool true) ∧ Below W.heap.size W W' := by
  have hp : Try.f6.params = #[22, 37] := by kernel_rfl
  rw [hp] at hval hA
  obtain ⟨v0, vs0, d0, ds0, p0, q0, hargs, rfl, rfl, h0, r0⟩ := trodAll_cons hA
  obtain ⟨v1, vs1, d1, ds1, p1, q1, rfl, rfl, rfl, h1, r1⟩ := trodAll_cons r0
  obtain ⟨rfl, rfl, rfl⟩ := trodAll_nil r1
  obtain rfl : args = #[v0, v1] := by cases args; simp_all
  obtain ⟨a0, len, cap, rfl⟩ := okWide_slice Try.underlying22 (hval 0 22 v0 rfl rfl)
  obtain ⟨a1, len1, cap1, rfl⟩ := okWide_slice Try.underlying37 (hval 1 37 v1 rfl rfl)
  obtain ⟨fuel, hf⟩ := h0
  obtain ⟨fuel1, hf1⟩ := h1
  obtain ⟨sa, g, cp, hcs, hg, hm⟩ := open_graph hf
  obtain ⟨la, l, lc, hcs1, hli, hm1, hm2⟩ := open_bytesL hf1
  simp [Value.cells] at hcs hcs1
  obtain ⟨rfl, rfl, rfl⟩ := hcs
  obtain ⟨rfl, rfl, rfl⟩ := hcs1
  exact lawC_walk W g _ _ (by unfold maxLen at hm; omega) hg l _ _ (by unfold maxLen at hm2; omega) hli
set_option maxRecDepth 100000 in
theorem contract (H : Type) (enc : TypeId × Value → H) (W : World) (base : Nat) (args : Array Value) (ds gs : List (DataW H)) (before : List MemPlace)
    (hval : ∀ (j : Nat) t v, Try.f6.params[j]? = some t → args[j]? = some v → Value.okWide Try.prog W .any base t v)
    (hW : DataW.Whole enc Try.prog Try.f6.params.toList Rows.lineCommonSpec.vars false W args.toList ds gs before) :
    Calls Try.prog 6 args W fun e W' => ∃ v, e = .returned v ∧ Rows.lineCommonSpec.post enc Try.prog Try.f6 false true false false W args v W' := by
  have hW' := hW
  obtain ⟨p, q, hA0, hV, rfl, _, _⟩ := hW
  have hA : DataW.TrodAll enc Try.prog W 0 (fun _ => true) true Try.f6.params.toList args.toList ds p := hA0
  refine (law_any W args base hval hA).mono fun e W' ⟨he, hb⟩ => ?_
  subst he
  refine ⟨_, rfl, Xm.law_post (tb := 4) laidOut (by kernel_rfl) (by kernel_rfl) (by kernel_rfl) rfl (fun ds hd => ?_) hW' hb⟩
  have hd : ds.length = 2 := hd.trans (by kernel_rfl)
  match ds, hd with
  | [a, b], _ => exact ⟨rfl, rfl, rfl⟩
set_option maxRecDepth 100000 in
theorem lifted (os : Os) (started : os.Started) (H : Type) (enc : TypeId × Value → H) :
    ReturnsInHanded {} Try.checked os 6 .any (Rows.lineCommonSpec.pre6 enc Try.prog Try.f6 Rows.lineCommonRow.domain false) (Rows.lineCommonSpec.post enc Try.prog Try.f6 false true false false) := by
  refine returnsInHanded_of_change (C := Try.checked) own started (by kernel_rfl) Try.func6
    (ChangeSpec.witness6 (enc := enc) (C := Try.checked) false ⟨#[], #[.slice none 0 0, .slice none 0 0], []⟩ 8 (by kernel_rfl) (by kernel_rfl) (by kernel_rfl) (by kernel_rfl)) ?_
  intro W base args ds gs before hval hW _ _
  exact contract H enc W base args ds gs before hval hW
theorem holds : Rows.LineCommonSaid :=
  OpenClaim.holds_of_wide 6 Try.f6 rfl rfl rfl rfl rfl rfl rfl ⟨rfl, rfl, rfl, rfl, rfl⟩ rfl rfl rfl rfl rfl (by kernel_rfl) Try.func6 (by kernel_rfl)
    (of_decide_eq_true (by kernel_rfl)) (by unfold Func.isWrapper; first | (rw [if_pos (by decide +kernel)]; kernel_rfl) | (rw [if_neg (by decide +kernel)]; exact ⟨rfl, rfl⟩))
    (fun os started H enc _ => lifted os started H enc)
end Go.Proofs.Ytiohbfcjfdabmaa
