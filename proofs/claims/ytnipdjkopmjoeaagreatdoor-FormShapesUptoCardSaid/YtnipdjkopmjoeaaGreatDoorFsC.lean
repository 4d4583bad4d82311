/-
  The program on expressions: its walk of all nodes, what gives up by a panic, CheckExp and Depth. No condition but what the table of kinds holds.
-/
import Derived.Test.YtnipdjkopmjoeaaGreatDoorFsB
import Derived.TacticsIn
import Derived.BigFrameIn
import Derived.RangeFuncCalls
import Derived.RangeFuncRecord
import Derived.LoopIn
import Derived.IntWalk
import Derived.Deep.RegionHeld3
import Derived.Deep.RegionWith
import Derived.Laws.EntriesVeiled
import Derived.Test.YtnipdjkopmjoeaaGreatDoorFsA
import Derived.Defers
import Derived.Recover
namespace Go.Proofs.YtnipdjkopmjoeaaGreatDoor
open Go.ChangeShapes Go.WideShapes Go.ChangeAt Go.RowKit Go.Fs
mutual
/-- the nodes of an expression with their depths, in order -/
def preE (d : Int) : ET → List (Int × ET) | .mk o n t ks => (d, .mk o n t ks) :: preL (d + 1) ks
def preL (d : Int) : List ET → List (Int × ET) | [] => [] | k :: ks => preE d k ++ preL d ks
end
theorem preL_append (d : Int) : ∀ (a b : List ET), preL d (a ++ b) = preL d a ++ preL d b
  | [], b => rfl
  | x :: a, b => by simp [preL, preL_append d a b]
theorem preL_take (d : Int) (l : List ET) (k : Nat) (x : ET) (h : l[k]? = some x) : preL d (l.take (k + 1)) = preL d (l.take k) ++ preE d x := by
  rw [take_snoc l k x h, preL_append]; simp [preL]
/-- do all rounds go through? -/
def goodAll (good : List (Int × ET) → (Int × ET) → Bool) (pre : List (Int × ET)) : List (Int × ET) → Bool
  | [] => true
  | y :: ys => good pre y && goodAll good (pre ++ [y]) ys
theorem goodAll_append (good : List (Int × ET) → (Int × ET) → Bool) : ∀ (a pre b : List (Int × ET)), goodAll good pre (a ++ b) = (goodAll good pre a && goodAll good (pre ++ a) b)
  | [], pre, b => by simp [goodAll]
  | x :: a, pre, b => by simp [goodAll, goodAll_append good a, Bool.and_assoc]
theorem good_kid (good : List (Int × ET) → (Int × ET) → Bool) (pre : List (Int × ET)) (d : Int) (ks : List ET) (k : Nat) (x : ET) (hx : ks[k]? = some x) (h : goodAll good pre (preL d (ks.take k)) = true) (h2 : goodAll good (pre ++ preL d (ks.take k)) (preE d x) = true) : goodAll good pre (preL d (ks.take (k + 1))) = true := by
  rw [preL_take d ks k x hx, goodAll_append, h, h2]; rfl
theorem good_stop (good : List (Int × ET) → (Int × ET) → Bool) (pre : List (Int × ET)) (d : Int) (ks : List ET) (k : Nat) (x : ET) (hx : ks[k]? = some x) (h2 : goodAll good (pre ++ preL d (ks.take k)) (preE d x) = false) : goodAll good pre (preL d ks) = false := by
  rw [take_split ks k x hx, preL_append, goodAll_append]
  simp only [preL]
  rw [goodAll_append, h2]; simp
/-- the temporaries of a round -/
def rt (r : Loop) (args : Array Value) : Array Value := (r.params.zip args).foldl (fun tmps (t, a) => tmps.setIfInBounds t a) r.tmps
abbrev ifE (cs : List Value) : Value := .iface 41 (.agg cs.toArray)
def WkP (M : List Nat) (J : List (Int × ET) → World → Prop) (b : Bool) (pre : List (Int × ET)) (W : World) (e : Ending) (W' : World) : Prop :=
  Upd M W W' ∧ ((b = true ∧ e = .returned (.bool true) ∧ J pre W') ∨ (b = false ∧ e = pe))
/-- what the rounds of a loop over the nodes of an expression promise -/
structure Rounds (W0 : World) (l : Nat) (r : Loop) (M : List Nat) (good : List (Int × ET) → (Int × ET) → Bool) (J : List (Int × ET) → World → Prop) (Rng : Int → ET → Prop) : Prop where
  params : r.params.size = 2
  old : ∀ b ∈ M, W0.heap.size ≤ b
  rec_ : ∀ pre W, J pre W → W.heap[l]? = some (.loop r)
  keep : ∀ pre W W', J pre W → Below W.heap.size W W' → J pre W'
  deep : ∀ pre d x W, Rng d x → J (pre ++ [(d, x)]) W → d ≤ 1000
  inh : ∀ d op n t ks (k : Nat) x, Rng d (.mk op n t ks) → ks[k]? = some x → Rng (d + 1) x
  round : ∀ (n : Nat) pre (d : Int) x cs W, 1 ≤ d → d ≤ 1001 → Rng d x → ExpR W0 x cs → Below W0.heap.size W0 W → J pre W →
    RoundIn Fence.wide n Tryz.prog l r.fn (rt r #[ifE cs, .int .i64 d]) r.assign r.body W fun e W' => WkP M J (good pre (d, x)) (pre ++ [(d, x)]) W e W'
/-- the two variables that walk captures -/
structure Caps (l cy cw : Nat) (W : World) : Prop where
  y : W.cell? ⟨cy, 0, none⟩ = some (.func (.yield l) #[] #[])
  w : W.cell? ⟨cw, 0, none⟩ = some (.func (.func 36) #[] #[.pointer (some ⟨cy, 0, none⟩), .pointer (some ⟨cw, 0, none⟩)])
def WkC (W0 : World) (l : Nat) (M : List Nat) (good : List (Int × ET) → (Int × ET) → Bool) (J : List (Int × ET) → World → Prop) (Rng : Int → ET → Prop) (cy cw : Nat) (e : ET) (cs : List Value) : Prop :=
  ∀ (n : Nat) pre (d : Int) W, 1 ≤ d → d ≤ 1001 → Rng d e → Below W0.heap.size W0 W → J pre W → Caps l cy cw W →
    CallsIn Fence.wide n Tryz.prog 36 #[ifE cs, .int .i64 d, .pointer (some ⟨cy, 0, none⟩), .pointer (some ⟨cw, 0, none⟩)] W (WkP M J (goodAll good pre (preE d e)) (pre ++ preE d e) W)
theorem meth_size (v : Value) (w : World) : (method 290 41 v "consort/shape.size").run Tryz.prog w = .ok (120, v) w := by kernel_rfl
theorem meth_at (v : Value) (w : World) : (method 290 41 v "consort/shape.at").run Tryz.prog w = .ok (119, v) w := by kernel_rfl
theorem size_any (op n : Int) (t : ByteArray) (a : Option Addr) (len cap : Nat) (w : World) : Calls Tryz.prog 120 #[.agg #[.int .i64 op, .int .i64 n, .string t, .slice a len cap]] w fun e w' => e = .returned (.int .i64 len) ∧ Below w.heap.size w w' := by
  go_enter Tryz.func120, Tryz.ntmps120
  go_wp2
  go_ret
  exact ⟨rfl, (Below.refl _ _).alloc (Nat.le_refl _) _⟩
set_option maxRecDepth 100000 in
set_option maxHeartbeats 2000000 in
theorem at_any (op n : Int) (t : ByteArray) (b off len cap : Nat) (w : World) (k : Nat) (hk : k < len) (_hl : (len : Int) ≤ 9223372036854775807) (hb : b < w.heap.size) (x : ET) (a' : Option Addr) (cap' : Nat)
    (q0 : w.cell? ⟨b, off + k * 4, none⟩ = some (.int .i64 x.op)) (q1 : w.cell? ⟨b, off + k * 4 + 1, none⟩ = some (.int .i64 x.n)) (q2 : w.cell? ⟨b, off + k * 4 + 2, none⟩ = some (.string x.text)) (q3 : w.cell? ⟨b, off + k * 4 + 3, none⟩ = some (.slice a' x.kids.length cap')) :
    Calls Tryz.prog 119 #[.agg #[.int .i64 op, .int .i64 n, .string t, .slice (some ⟨b, off, none⟩) len cap], .int .i64 k] w fun e w' => e = .returned (ifE [.int .i64 x.op, .int .i64 x.n, .string x.text, .slice a' x.kids.length cap']) ∧ Below w.heap.size w w' := by
  go_enter Tryz.func119, Tryz.ntmps119
  go_wp2
  go_ret
  exact ⟨rfl, (Below.refl _ _).alloc (Nat.le_refl _) _⟩
def WkRel (W : World) (M : List Nat) (good : List (Int × ET) → (Int × ET) → Bool) (J : List (Int × ET) → World → Prop) (pre : List (Int × ET)) (d : Int) (ks : List ET) (i : Value) (wr : World) : Prop :=
  ∃ k : Nat, k ≤ ks.length ∧ i = .int .i64 k ∧ J (pre ++ preL (d + 1) (ks.take k)) wr ∧ goodAll good pre (preL (d + 1) (ks.take k)) = true ∧ Upd M W wr
set_option maxRecDepth 100000 in
set_option maxHeartbeats 4000000 in
theorem walk_step (W0 : World) (l : Nat) (r : Loop) (M : List Nat) (good : List (Int × ET) → (Int × ET) → Bool) (J : List (Int × ET) → World → Prop) (Rng : Int → ET → Prop) (HR : Rounds W0 l r M good J Rng) (cy cw : Nat) (hcy : cy ∉ M) (hcw : cw ∉ M)
    (op n : Int) (t : ByteArray) (ks : List ET) (a : Option Addr) (cap : Nat) (h4' : (ks.length : Int) ≤ 9223372036854775807)
    (hx0 : ExpR W0 (.mk op n t ks) [.int .i64 op, .int .i64 n, .string t, .slice a ks.length cap])
    (hk : ∀ k x, ks[k]? = some x → Kid W0 a (fun e cs _ => WkC W0 l M good J Rng cy cw e cs) k x) : WkC W0 l M good J Rng cy cw (.mk op n t ks) [.int .i64 op, .int .i64 n, .string t, .slice a ks.length cap] := by
  intro m pre d W hd1 hd2 hrg hB hJ hcap
  have HK := Lib.hid hk; clear hk
  have hrec := HR.rec_ pre W hJ
  have hy : (Instr.yield l #[ifE [.int .i64 op, .int .i64 n, .string t, .slice a ks.length cap], .int .i64 d]).run Tryz.prog W = .ok (.round l r.fn (rt r #[ifE [.int .i64 op, .int .i64 n, .string t, .slice a ks.length cap], .int .i64 d]) r.assign r.body) W := run_yield (P := Tryz.prog) hrec (by rw [HR.params]; rfl)
  have hrd := HR.round (m - 1) pre d _ _ W hd1 hd2 hrg hx0 hB hJ
  obtain ⟨hc1, hc2⟩ := hcap
  refine callsIn_of_wp Tryz.func36 rfl trivial ?_ rfl
  simp only [Tryz.ntmps36, List.size_toArray, List.length_cons, List.length_nil, Nat.reduceAdd, Nat.reduceSub, Array.replicate_succ, Array.replicate_zero, List.push_toArray, List.append_toArray, List.nil_append, List.cons_append]
  have HRD := Lib.hid hrd; clear hrd
  clear hrec
  have hfw : ∀ f, Fence.wide.fn f := fun _ => trivial
  have hdw : Fence.wide.depth.isSome = false := rfl
  cases hg1 : good pre (d, .mk op n t ks) with
  | false =>
    have HG1 := Lib.hid hg1; clear hg1
    gi_wp2_with fail
    refine HRD.out.mono ?_
    rintro e1 W1 ⟨hu, ⟨hb, -, -⟩ | ⟨-, rfl⟩⟩
    · rw [HG1.out] at hb; cases hb
    · exact ⟨rfl, hu, .inr ⟨by simp only [preE, goodAll]; rw [HG1.out]; rfl, rfl⟩⟩
  | true =>
    have HG1 := Lib.hid hg1; clear hg1
    gi_wp2_with fail
    refine HRD.out.mono ?_
    rintro e1 W1 ⟨hu, ⟨-, rfl, hj⟩ | ⟨hb, -⟩⟩
    rotate_left
    · rw [HG1.out] at hb; cases hb
    have hdd := HR.deep _ _ _ _ hrg hj
    have hcy1 := (hu.cells cy 0 (cell_lt hc1) hcy).trans hc1
    have hcw1 := (hu.cells cw 0 (cell_lt hc2) hcw).trans hc2
    have HJ := Lib.hid hj; clear hj
    have HU := Lib.hid hu; clear hu
    clear hy HRD
    have hms := meth_size
    have hma := meth_at
    gi_wp2_with (gi_at_call 120; refine (callsIn_wide.2 (size_any op n t a ks.length cap _)).mono ?_; rintro e w2 ⟨rfl, hb2⟩; have HB2 := Lib.hid hb2; clear hb2)
    gi_loopw [15] (fun i wr => WkRel W M good J (pre ++ [(d, .mk op n t ks)]) d ks i wr) (fun i _ => ks.length - (intOf i).toNat)
    case atStart =>
      exact ⟨0, Nat.zero_le _, rfl, by simp only [List.take_zero, preL, List.append_nil]; exact HR.keep _ _ _ HJ.out HB2.out, rfl, HU.out.step (Upd.ofBelow [] HB2.out) (fun _ h => by cases h)⟩
    case round =>
      obtain ⟨k, hkl, rfl, hj, hgo, hup⟩ := hrel
      have hBW : Below W0.heap.size W0 wr := hB.trans (hup.below W0.heap.size hB.size HR.old)
      have hcy2 := (hup.cells cy 0 (cell_lt hc1) hcy).trans hc1
      have hcw2 := (hup.cells cw 0 (cell_lt hc2) hcw).trans hc2
      have HJ2 := Lib.hid hj; clear hj
      have HGO := Lib.hid hgo; clear hgo
      have HUP := Lib.hid hup; clear hup
      by_cases hlt : k < ks.length
      · obtain ⟨x, hx⟩ : ∃ x, ks[k]? = some x := ⟨ks[k], List.getElem?_eq_getElem hlt⟩
        obtain ⟨b, off, cs, ha, hb, hat, hxr, ih⟩ := HK.out k x hx
        subst ha
        have hbr : b < wr.heap.size := Nat.lt_of_lt_of_le hb hBW.size
        obtain ⟨v, rfl, a', cap', rfl⟩ := hxr.four
        have q0 : wr.cell? ⟨b, off + k * 4, none⟩ = some (.int .i64 x.op) := (hBW.cell (p := ⟨b, off + k * 4, none⟩) hb).trans (by simpa using hat 0 _ rfl)
        have q1 : wr.cell? ⟨b, off + k * 4 + 1, none⟩ = some (.int .i64 x.n) := (hBW.cell (p := ⟨b, off + k * 4 + 1, none⟩) hb).trans (by simpa using hat 1 _ rfl)
        have q2 : wr.cell? ⟨b, off + k * 4 + 2, none⟩ = some (.string x.text) := (hBW.cell (p := ⟨b, off + k * 4 + 2, none⟩) hb).trans (by simpa using hat 2 _ rfl)
        have q3 : wr.cell? ⟨b, off + k * 4 + 3, none⟩ = some (.slice a' x.kids.length cap') := (hBW.cell (p := ⟨b, off + k * 4 + 3, none⟩) hb).trans (by simpa using hat 3 _ rfl)
        have hat' : ∀ w, Below wr.heap.size wr w → Calls Tryz.prog 119 #[.agg #[.int .i64 op, .int .i64 n, .string t, .slice (some ⟨b, off, none⟩) ks.length cap], .int .i64 k] w fun e w' => e = .returned (ifE [.int .i64 x.op, .int .i64 x.n, .string x.text, .slice a' x.kids.length cap']) ∧ Below w.heap.size w w' := fun w hw =>
          at_any op n t b off ks.length cap w k hlt h4' (Nat.lt_of_lt_of_le hbr hw.size) x a' cap' ((hw.cell (p := ⟨b, off + k * 4, none⟩) hbr).trans q0) ((hw.cell (p := ⟨b, off + k * 4 + 1, none⟩) hbr).trans q1) ((hw.cell (p := ⟨b, off + k * 4 + 2, none⟩) hbr).trans q2) ((hw.cell (p := ⟨b, off + k * 4 + 3, none⟩) hbr).trans q3)
        have IH := Lib.hid ih; clear ih
        have HRG := Lib.hid (HR.inh d op n t ks k x hrg hx)
        have HX := Lib.hid hx; clear hx
        have HAT := Lib.hid hat'; clear hat'
        have HBWr := Lib.hid hBW; clear hBW hat hxr q0 q1 q2 q3
        have hsum : IntKind.i64.wrap (d + 1) = d + 1 := IntWalk.i64_in _ (by omega)
        cases hgk : goodAll good (pre ++ [(d, .mk op n t ks)] ++ preL (d + 1) (ks.take k)) (preE (d + 1) x) with
        | true =>
          have HGK := Lib.hid hgk; clear hgk
          gi_wp2_with fail
          refine wpIn_wide.2 ?_
          go_region_held3 (fun w' => w'.cell? ⟨cw, 0, none⟩ = some (.func (.func 36) #[] #[.pointer (some ⟨cy, 0, none⟩), .pointer (some ⟨cw, 0, none⟩)])) (first | (simp [go_sem, *]; done))
            (first
              | (go_at_call 119; refine (HAT.out _ (by exact (Below.refl _ _).drew)).mono ?_; rintro e w3 ⟨rfl, hb3⟩; have HB3 : Hid (Below wr.heap.size wr w3) := (show Below wr.heap.size wr w3 from ((Below.refl _ wr).drew).trans hb3); have hcw3 := (HB3.out.cell (p := ⟨cw, 0, none⟩) (cell_lt hcw2)).trans hcw2; clear hb3)
              | (go_at_call 36; refine (callsIn_wide.1 (IH.out 0 (pre ++ [(d, .mk op n t ks)] ++ preL (d + 1) (ks.take k)) (d + 1) _ (by omega) (by omega) HRG.out (by exact HBWr.out.trans (HB3.out.mono HBWr.out.size)) (by exact HR.keep _ _ _ HJ2.out HB3.out) (by exact ⟨(HB3.out.cell (p := ⟨cy, 0, none⟩) (cell_lt hcy2)).trans hcy2, hcw3⟩))).mono ?_; (rintro e w4 ⟨hu4, ⟨-, rfl, hj4⟩ | ⟨hb4, -⟩⟩; rotate_left; (rw [HGK.out] at hb4; cases hb4); have hcw4 := (hu4.cells cw 0 (cell_lt hcw3) hcw).trans hcw3; have HU4 := Lib.hid hu4; have HJ4 := Lib.hid hj4; clear hu4 hj4)))
          gi_wp2_with fail
          refine ⟨⟨k + 1, by omega, by go_num, ?_, good_kid good _ (d + 1) ks k x HX.out HGO.out HGK.out, (HUP.out.step (Upd.ofBelow [] HB3.out) (fun _ h => by cases h)).trans HU4.out⟩, by simp [intOf]; omega⟩
          have hj4 := HJ4.out
          rw [preL_take (d + 1) ks k x HX.out, ← List.append_assoc]
          exact hj4
        | false =>
          have HGK := Lib.hid hgk; clear hgk
          gi_wp2_with fail
          refine wpIn_wide.2 ?_
          refine wp_region_any (by kernel_rfl) ?_
          refine wpAny_take (i := 1) rfl (by kernel_rfl) (by kernel_rfl) (by kernel_rfl) (fun _ _ _ h => h) (.inl ⟨rfl, fun _ => rfl⟩) ?_
          refine wpAny_take (i := 2) rfl (by kernel_rfl) (by kernel_rfl) (by kernel_rfl) (fun _ _ _ h => h) (.inl ⟨rfl, fun _ => rfl⟩) ?_
          refine wpAny_take (i := 4) rfl (by kernel_rfl) (by kernel_rfl) (by kernel_rfl) (fun _ _ _ h => h) (.inl ⟨rfl, fun _ => rfl⟩) ?_
          refine wpAny_take (i := 5) rfl (by kernel_rfl) (by kernel_rfl) (by kernel_rfl) (fun _ _ _ h => h) (.inl ⟨rfl, fun _ => rfl⟩) ?_
          refine wpAny_ready (rs := [0, 3]) (by kernel_rfl) (by simp) (AllReady.cons rfl (fun K1 hK1 => ?_) (AllReady.cons rfl (fun K1 hK1 => ?_) AllReady.nil))
          · go_simp
            refine hK1 _ _ ?_
            refine wpAny_ready (rs := [3]) (by kernel_rfl) (by simp) (AllReady.cons rfl (fun K2 hK2 => ?_) AllReady.nil)
            go_simp
            refine (HAT.out _ (by exact (Below.refl _ _).drew)).mono ?_
            rintro e w3 ⟨rfl, hb3⟩
            have HB3 : Hid (Below wr.heap.size wr w3) := (show Below wr.heap.size wr w3 from ((Below.refl _ wr).drew).trans hb3)
            have hcw3 := (HB3.out.cell (p := ⟨cw, 0, none⟩) (cell_lt hcw2)).trans hcw2
            clear hb3
            go_simp
            refine hK2 _ _ ?_
            refine wpAny_ready (rs := [6]) (by kernel_rfl) (by simp) (AllReady.cons rfl (fun K3 hK3 => ?_) AllReady.nil)
            go_simp
            refine (callsIn_wide.1 (IH.out 0 (pre ++ [(d, .mk op n t ks)] ++ preL (d + 1) (ks.take k)) (d + 1) _ (by omega) (by omega) HRG.out (by exact HBWr.out.trans (HB3.out.mono HBWr.out.size)) (by exact HR.keep _ _ _ HJ2.out HB3.out) (by exact ⟨(HB3.out.cell (p := ⟨cy, 0, none⟩) (cell_lt hcy2)).trans hcy2, hcw3⟩))).mono ?_
            rintro e w4 ⟨hu4, ⟨hb4, -, -⟩ | ⟨-, rfl⟩⟩
            · rw [HGK.out] at hb4; cases hb4
            · exact ⟨rfl, (HUP.out.step (Upd.ofBelow [] HB3.out) (fun _ h => by cases h)).trans hu4, .inr ⟨by simp only [preE, goodAll]; rw [HG1.out, good_stop good _ (d + 1) ks k x HX.out HGK.out]; rfl, rfl⟩⟩
          · go_simp
            refine (HAT.out _ (by exact (Below.refl _ _).drew)).mono ?_
            rintro e w3 ⟨rfl, hb3⟩
            have HB3 : Hid (Below wr.heap.size wr w3) := (show Below wr.heap.size wr w3 from ((Below.refl _ wr).drew).trans hb3)
            have hcw3 := (HB3.out.cell (p := ⟨cw, 0, none⟩) (cell_lt hcw2)).trans hcw2
            clear hb3
            go_simp
            refine hK1 _ _ ?_
            refine wpAny_ready (rs := [0]) (by kernel_rfl) (by simp) (AllReady.cons rfl (fun K2 hK2 => ?_) AllReady.nil)
            go_simp
            refine hK2 _ _ ?_
            refine wpAny_ready (rs := [6]) (by kernel_rfl) (by simp) (AllReady.cons rfl (fun K3 hK3 => ?_) AllReady.nil)
            go_simp
            refine (callsIn_wide.1 (IH.out 0 (pre ++ [(d, .mk op n t ks)] ++ preL (d + 1) (ks.take k)) (d + 1) _ (by omega) (by omega) HRG.out (by exact HBWr.out.trans (HB3.out.mono HBWr.out.size)) (by exact HR.keep _ _ _ HJ2.out HB3.out) (by exact ⟨(HB3.out.cell (p := ⟨cy, 0, none⟩) (cell_lt hcy2)).trans hcy2, hcw3⟩))).mono ?_
            rintro e w4 ⟨hu4, ⟨hb4, -, -⟩ | ⟨-, rfl⟩⟩
            · rw [HGK.out] at hb4; cases hb4
            · exact ⟨rfl, (HUP.out.step (Upd.ofBelow [] HB3.out) (fun _ h => by cases h)).trans hu4, .inr ⟨by simp only [preE, goodAll]; rw [HG1.out, good_stop good _ (d + 1) ks k x HX.out HGK.out]; rfl, rfl⟩⟩
      · obtain rfl : k = ks.length := by omega
        gi_wp2_with fail
        have hj := HJ2.out
        have hg := HGO.out
        rw [List.take_length] at hj hg
        go_ret
        exact ⟨HUP.out, .inl ⟨by simp only [preE, goodAll]; rw [HG1.out, hg]; rfl, rfl, by simp only [preE]; rw [show pre ++ (d, ET.mk op n t ks) :: preL (d + 1) ks = pre ++ [(d, .mk op n t ks)] ++ preL (d + 1) ks by simp]; exact hj⟩⟩
end Go.Proofs.YtnipdjkopmjoeaaGreatDoor
namespace Go.Proofs.YtnipdjkopmjoeaaGreatDoor
open Go.ChangeShapes Go.WideShapes Go.ChangeAt Go.RowKit Go.Fs
theorem walk_tree (W0 : World) (l : Nat) (r : Loop) (M : List Nat) (good : List (Int × ET) → (Int × ET) → Bool) (J : List (Int × ET) → World → Prop) (Rng : Int → ET → Prop) (HR : Rounds W0 l r M good J Rng) (cy cw : Nat) (hcy : cy ∉ M) (hcw : cw ∉ M)
    (e : ET) (cs : List Value) (hr : ExpR W0 e cs) : WkC W0 l M good J Rng cy cw e cs := by
  induction hr with
  | none op n t a cap h1 h2 h3 => exact walk_step W0 l r M good J Rng HR cy cw hcy hcw op n t [] a cap (by simp) (.none op n t a cap h1 h2 h3) (fun k x h => by simp at h)
  | some op n t ks b off cap cs h1 h2 h3 h4 h5 hb hc hk ih =>
    refine walk_step W0 l r M good J Rng HR cy cw hcy hcw op n t ks (some ⟨b, off, none⟩) cap (by unfold maxLen at h4; omega) (.some op n t ks b off cap cs h1 h2 h3 h4 h5 hb hc hk) (fun k x hx => ?_)
    have hlt : k < ks.length := (List.getElem?_eq_some_iff.1 hx).1
    exact ⟨b, off, cs k, rfl, hb, hc k hlt, hk k x hx, ih k x hx⟩
/-- what the call of the iterator comes to -/
def NdP (M : List Nat) (J : List (Int × ET) → World → Prop) (b : Bool) (pre : List (Int × ET)) (W : World) (e : Ending) (W' : World) : Prop :=
  Upd M W W' ∧ ((b = true ∧ e = rn ∧ J pre W') ∨ (b = false ∧ e = pe))
set_option maxRecDepth 100000 in
set_option maxHeartbeats 4000000 in
theorem nodes1_any (W0 : World) (l : Nat) (r : Loop) (M : List Nat) (good : List (Int × ET) → (Int × ET) → Bool) (J : List (Int × ET) → World → Prop) (Rng : Int → ET → Prop) (HR : Rounds W0 l r M good J Rng)
    (e : ET) (cs : List Value) (hr : ExpR W0 e cs) (n cr : Nat) (W : World) (hB : Below W0.heap.size W0 W) (hJ : J [] W) (hcr : W.cell? ⟨cr, 0, none⟩ = some (ifE cs)) (hM : ∀ b ∈ M, b < W.heap.size) (hrg : Rng 1 e) :
    CallsIn Fence.wide n Tryz.prog 35 #[.func (.yield l) #[] #[], .pointer (some ⟨cr, 0, none⟩)] W (NdP M J (goodAll good [] (preE 1 e)) (preE 1 e) W) := by
  have hw := walk_tree W0 l r M good J Rng HR W.heap.size (W.heap.size + 1) (fun h => by have := hM _ h; omega) (fun h => by have := hM _ h; omega) e cs hr
  have HW := Lib.hid hw; clear hw
  have hcl := cell_lt hcr
  have hmf : ∀ (fn : Fn) (first cap : Array Value) (w : World), (Instr.makeFunc fn first cap).run Tryz.prog w = .ok (.func fn first cap) w := fun _ _ _ _ => rfl
  obtain ⟨v, rfl, a, cap, rfl⟩ := hr.four
  refine callsIn_of_wp Tryz.func35 rfl trivial ?_ rfl
  simp only [Tryz.ntmps35, List.size_toArray, List.length_cons, List.length_nil, Nat.reduceAdd, Nat.reduceSub, Array.replicate_succ, Array.replicate_zero, List.push_toArray, List.append_toArray, List.nil_append, List.cons_append]
  have hfw : ∀ f, Fence.wide.fn f := fun _ => trivial
  have hdw : Fence.wide.depth.isSome = false := rfl
  gi_wp2_with fail
  refine (HW.out _ [] 1 _ (by omega) (by omega) hrg (by exact (hB.alloc hB.size _).alloc (by have := hB.size; simp; omega) _) (by exact HR.keep _ _ _ hJ (((Below.refl _ _).alloc (Nat.le_refl _) _).alloc (by simp) _)) ⟨by simp, by rw [World.cell?_alloc_at _ _ _ _ (by simp)]; rfl⟩).mono ?_
  rintro e1 W1 ⟨hu, hor⟩
  have hU : Upd M W W1 := ((((Upd.refl M W).alloc _).alloc _).trans hu)
  rcases hor with ⟨hb, rfl, hj⟩ | ⟨hb, rfl⟩
  · have HB2 := Lib.hid hb; clear hb
    gi_wp2_with fail
    refine bodyPost_end (results_none rfl _ _ _) rfl ?_
    exact ⟨hU, .inl ⟨HB2.out, rfl, hj⟩⟩
  · exact ⟨rfl, hU, .inr ⟨hb, rfl⟩⟩
end Go.Proofs.YtnipdjkopmjoeaaGreatDoor
namespace Go.Proofs.YtnipdjkopmjoeaaGreatDoor
open Go.ChangeShapes Go.WideShapes Go.ChangeAt Go.RowKit Go.Fs
theorem nodes_any (v : Value) (w : World) (hv : ∃ cs, v = ifE cs) : Calls Tryz.prog 11 #[v] w fun e w' => e = .returned (.func (.func 35) #[] #[.pointer (some ⟨w.heap.size, 0, none⟩)]) ∧ w' = w.alloc (.cells #[v] 43) := by
  have hmf : ∀ (fn : Fn) (first cap : Array Value) (w : World), (Instr.makeFunc fn first cap).run Tryz.prog w = .ok (.func fn first cap) w := fun _ _ _ _ => rfl
  obtain ⟨cs, rfl⟩ := hv
  go_enter Tryz.func11, Tryz.ntmps11
  go_wp2
  go_ret
  exact ⟨rfl, rfl⟩
/-- the table of kinds of expressions stands in its variable -/
def Kinds (w : World) : Prop := ∀ op : Nat, 1 ≤ op ∧ op < 19 → w.cell? ⟨1, op * 4, none⟩ = some (.bool (kNum op)) ∧ w.cell? ⟨1, op * 4 + 1, none⟩ = some (.int .i64 (kText op)) ∧ w.cell? ⟨1, op * 4 + 2, none⟩ = some (.int .i64 (kLo op)) ∧ w.cell? ⟨1, op * 4 + 3, none⟩ = some (.int .i64 (kHi op))
theorem Fs.Upd.putObj {L : List Nat} {a w : World} (h : Upd L a w) {k : Nat} (hk : k < a.heap.size → k ∈ L) (o : Obj) : Upd L a (w.putObj k o) :=
  ⟨h.os, h.tape, h.output, by have := h.size; simpa using this, fun i hi hn => by rw [World.putObj_heap_other (fun e => hn (by subst e; exact hk hi))]; exact h.block i hi hn⟩
/-- the record of a loop, as it is laid -/
abbrev rec0 (fn : FuncId) (a : Act) (ps : Array Tmp) (assign body : Code) (w : World) : Loop := { state := .ready, pending := none, fn, tmps := a.tmps, params := ps, assign, body, defers := w.heap.size }
abbrev laid0 (fn : FuncId) (a : Act) (ps : Array Tmp) (assign body : Code) (w : World) : World := (w.alloc (.deferred (some []))).alloc (.loop (rec0 fn a ps assign body w))
abbrev marked (a : Act) (w : World) : Act := { a with defers := [{ target := .collected w.heap.size, args := #[] }] ++ a.defers }
theorem range_nodes {fn : FuncId} {gf : Operand} {ps : Array Tmp} {assign body : Code} {Q : Exit → Act → World → Prop} {a : Act} {w : World} (W0 : World) (e : ET) (cs : List Value) (hr : ExpR W0 e cs) (cr : Nat)
    (hg : a.eval gf = .func (.func 35) #[] #[.pointer (some ⟨cr, 0, none⟩)]) (hB : Below W0.heap.size W0 w) (hcr : w.cell? ⟨cr, 0, none⟩ = some (ifE cs))
    (M : List Nat) (good : List (Int × ET) → (Int × ET) → Bool) (J : Loop → List (Int × ET) → World → Prop) (Rng : Int → ET → Prop) (hrg : Rng 1 e) (hM : ∀ b ∈ M, b < w.heap.size + 2)
    (HR : Rounds W0 (w.heap.size + 1) (rec0 fn a ps assign body w) M good (J (rec0 fn a ps assign body w)) Rng)
    (h0 : J (rec0 fn a ps assign body w) [] (laid0 fn a ps assign body w))
    (hn : ∀ W' W6, Upd M (laid0 fn a ps assign body w) W' → goodAll good [] (preE 1 e) = true → J (rec0 fn a ps assign body w) (preE 1 e) W' → Upd [w.heap.size + 1] W' W6 → Q .normal (marked a w) W6)
    (hp : ∀ W', Upd M (laid0 fn a ps assign body w) W' → goodAll good [] (preE 1 e) = false → Q (.panic [{ v := .iface 128 (.agg #[]), recovered := false }]) (marked a w) W') :
    (Code.rangeFunc gf ps assign body).wpAt fn Tryz.prog Q a w := by
  refine wpAt_rangeFunc ⟨w.heap.size + 1, _, _, { target := .fn (.func 35) #[.pointer (some ⟨cr, 0, none⟩)], args := #[.func (.yield (w.heap.size + 1)) #[] #[]] }, laid0 fn a ps assign body w, 35, #[.func (.yield (w.heap.size + 1)) #[] #[], .pointer (some ⟨cr, 0, none⟩)], laid0 fn a ps assign body w, run_enterLoop_outer _ _ _ _ _, ?_, ?_, ?_⟩
  · simp only [resolve, hg]; simp [go_sem, Deferred.ofValue, Act.eval]
  · simp [invoke, go_sem]
  · refine (nodes1_any W0 (w.heap.size + 1) (rec0 fn a ps assign body w) M good (J (rec0 fn a ps assign body w)) Rng HR e cs hr _ cr _ (by exact (hB.alloc hB.size _).alloc (by have := hB.size; simp; omega) _) h0 ?_ ?_ hrg).mono ?_
    · have hlt := cell_lt hcr
      exact (((Below.refl _ w).alloc (Nat.le_refl _) _).alloc (by simp) _ |>.cell (p := ⟨cr, 0, none⟩) hlt).trans hcr
    · intro b hb; have := hM b hb; simp; omega
    · rintro e1 W1 ⟨hu, ⟨hb, rfl, hj⟩ | ⟨hb, rfl⟩⟩
      · have hrec := HR.rec_ _ _ hj
        exact ⟨_, run_endLoop hrec (by simp), hn W1 _ hu hb hj (Fs.Upd.putObj (Upd.refl _ _) (fun _ => by simp) _)⟩
      · exact hp W1 hu hb
theorem kText_cases (op : Int) : kText op = 0 ∨ kText op = 1 ∨ kText op = 2 ∨ kText op = 3 ∨ kText op = 4 := by
  unfold kText; (repeat' split) <;> simp
theorem Kinds.env {w : World} {g s : Nat} (h : Kinds w) (hs : Sc w g s) (op : Int) (h1 : 1 ≤ op) (h2 : op ≤ 18) : Env w g s op (kNum op) (kText op) (kLo op) (kHi op) := by
  have := h op.toNat (by omega)
  rw [show ((op.toNat : Nat) : Int) = op by omega] at this
  exact ⟨hs, this.1, this.2.1, this.2.2.1, this.2.2.2⟩
theorem xe_any (g s : Nat) (op n : Int) (x : ByteArray) (a : Option Addr) (len cap : Nat) (w : World) (hs : Sc w g s) (hk : Kinds w) :
    Calls Tryz.prog 41 (XArgs s op n x a len cap) w (ExP (shE op n x len) w) := by
  by_cases ho : op < 1 ∨ 18 < op
  · exact examineExp_out g s op n x a len cap w _ _ _ _ ho
  · have h1 : 1 ≤ op := by omega
    have h18 : op ≤ 18 := by omega
    have hv := hk.env hs op h1 h18
    have hrow : ∀ b, (decide (kLo op ≤ len) && decide ((len : Int) ≤ kHi op) && (decide (n = 0) || kNum op && numB n) && textB (kText op) x) = b → shE op n x len = b := fun b hb => row_split h1 h18 b hb
    by_cases k1 : kLo op ≤ len
    · by_cases k2 : (len : Int) ≤ kHi op
      · by_cases k3 : n = 0 ∨ (¬ n = 0 ∧ kNum op = true ∧ numB n = true)
        · have hn : (decide (n = 0) || kNum op && numB n) = true := by
            rcases k3 with rfl | ⟨_, h, h'⟩
            · simp
            · rw [h, h']; simp
          have hr := hrow _ (by rw [decide_eq_true k1, decide_eq_true k2, hn])
          simp only [Bool.true_and, Bool.and_true] at hr
          rw [hr]
          rcases kText_cases op with h | h | h | h | h
          · rw [h] at hv ⊢
            exact xe_t0 g s op n x a len cap w _ _ _ h1 h18 hv k1 k2 k3 _ (by simp [textB])
          · rw [h] at hv ⊢
            exact xe_t1 g s op n x a len cap w _ _ _ h1 h18 hv k1 k2 k3 _ (by simp [textB])
          · rw [h] at hv ⊢
            exact xe_t2 g s op n x a len cap w _ _ _ h1 h18 hv k1 k2 k3 _ (by simp [textB])
          · rw [h] at hv ⊢
            exact xe_t3 g s op n x a len cap w _ _ _ h1 h18 hv k1 k2 k3 _ (by simp [textB])
          · rw [h] at hv ⊢
            exact xe_t4 g s op n x a len cap w _ _ _ h1 h18 hv k1 k2 k3 _ (by simp [textB])
        · have hn0 : ¬ n = 0 := fun h => k3 (.inl h)
          have hnn : kNum op = false ∨ numB n = false := by
            cases h : kNum op with
            | false => exact .inl rfl
            | true =>
              cases h' : numB n with
              | false => exact .inr rfl
              | true => exact absurd (.inr ⟨hn0, h, h'⟩) k3
          rw [hrow false (by rw [decide_eq_false hn0]; rcases hnn with h | h <;> rw [h] <;> simp)]
          exact xe_num g s op n x a len cap w _ _ _ _ h1 h18 hv k1 k2 hn0 hnn
      · rw [hrow false (by rw [decide_eq_false k2]; simp)]
        exact xe_many g s op n x a len cap w _ _ _ _ h1 h18 hv k1 k2
    · rw [hrow false (by rw [decide_eq_false k1]; simp)]
      exact xe_few g s op n x a len cap w _ _ _ _ h1 h18 hv k1
end Go.Proofs.YtnipdjkopmjoeaaGreatDoor
namespace Go.Proofs.YtnipdjkopmjoeaaGreatDoor
open Go.ChangeShapes Go.WideShapes Go.ChangeAt Go.RowKit Go.Fs
/-- how the loop of examine stands behind some nodes -/
structure ExJ (g s bs D l : Nat) (r : Loop) (n0 : Int) (pre : List (Int × ET)) (W : World) : Prop where
  box : W.cell? ⟨bs, 0, none⟩ = some (.pointer (some ⟨s, 0, none⟩))
  sc : Sc W g s
  cnt : W.cell? ⟨g, 4, none⟩ = some (.int .i64 (n0 + pre.length))
  free : W.frozen? ⟨g, 4, none⟩ = false
  kinds : Kinds W
  rec_ : W.heap[l]? = some (.loop r)
  def_ : W.heap[D]? = some (.deferred (some []))
  many : n0 + pre.length ≤ 120
  deep : ∀ y ∈ pre, y.1 ≤ 12
def exGood (n0 : Int) (pre : List (Int × ET)) (y : Int × ET) : Bool := decide (n0 + pre.length + 1 ≤ 120) && decide (y.1 ≤ 12) && shE y.2.op y.2.n y.2.text y.2.kids.length
theorem ExJ.keep {g s bs D l : Nat} {r : Loop} {n0 : Int} {pre : List (Int × ET)} {W W' : World} (h : ExJ g s bs D l r n0 pre W) (hb : Below W.heap.size W W') : ExJ g s bs D l r n0 pre W' :=
  ⟨(hb.cell (p := ⟨bs, 0, none⟩) (cell_lt h.box)).trans h.box, h.sc.below hb, (hb.cell (p := ⟨g, 4, none⟩) (cell_lt h.cnt)).trans h.cnt, (hb.frozen (p := ⟨g, 4, none⟩) (cell_lt h.cnt)).trans h.free,
   fun op ho => by
    have hz := cell_lt (h.kinds 1 (by omega)).1
    obtain ⟨k0, k1, k2, k3⟩ := h.kinds op ho
    exact ⟨(hb.cell (p := ⟨_, _, none⟩) hz).trans k0, (hb.cell (p := ⟨_, _, none⟩) hz).trans k1, (hb.cell (p := ⟨_, _, none⟩) hz).trans k2, (hb.cell (p := ⟨_, _, none⟩) hz).trans k3⟩,
   (hb.block l (lt_of_block h.rec_)).trans h.rec_, (hb.block D (lt_of_block h.def_)).trans h.def_, h.many, h.deep⟩
mutual
theorem pre_len (d : Int) : ∀ e : ET, (preE d e).length = sizeE e
  | .mk o n t ks => by simp only [preE, sizeE, List.length_cons]; rw [pre_lenL (d + 1) ks]; omega
theorem pre_lenL (d : Int) : ∀ l : List ET, (preL d l).length = sizeL l
  | [] => rfl
  | x :: l => by simp only [preL, sizeL, List.length_append]; rw [pre_len d x, pre_lenL d l]
end
mutual
theorem ga_E (n0 : Int) (pre : List (Int × ET)) (d : Int) : ∀ e : ET, goodAll (exGood n0) pre (preE d e) = (okE shE d e && decide (n0 + pre.length + sizeE e ≤ 120))
  | .mk o n t ks => by
    simp only [preE, goodAll]
    rw [ga_L n0 (pre ++ [(d, ET.mk o n t ks)]) (d + 1) ks]
    simp only [exGood, okE, sizeE, ET.op, ET.n, ET.text, ET.kids, List.length_append, List.length_singleton]
    rw [Bool.eq_iff_iff]
    simp only [Bool.and_eq_true, decide_eq_true_eq, Bool.or_eq_true, List.isEmpty_iff]
    constructor
    · rintro ⟨⟨⟨h1, h2⟩, h3⟩, h4, h5⟩
      refine ⟨⟨⟨h2, h3⟩, h4⟩, decide_eq_true ?_⟩
      rcases h5 with rfl | h5
      · simp [sizeL]; omega
      · omega
    · rintro ⟨⟨⟨h2, h3⟩, h4⟩, h5⟩
      have h5 := of_decide_eq_true h5
      exact ⟨⟨⟨by omega, h2⟩, h3⟩, h4, .inr (by omega)⟩
theorem ga_L (n0 : Int) (pre : List (Int × ET)) (d : Int) : ∀ l : List ET, goodAll (exGood n0) pre (preL d l) = (okL shE d l && (l.isEmpty || decide (n0 + pre.length + sizeL l ≤ 120)))
  | [] => by simp [preL, goodAll, okL]
  | x :: l => by
    simp only [preL, okL, sizeL]
    rw [goodAll_append, ga_E n0 pre d x, ga_L n0 (pre ++ preE d x) d l]
    simp only [List.length_append, pre_len]
    rw [Bool.eq_iff_iff]
    simp only [Bool.and_eq_true, decide_eq_true_eq, Bool.or_eq_true, List.isEmpty_iff, List.isEmpty_cons]
    have hx := sizeE_pos x
    constructor
    · rintro ⟨⟨h1, h2⟩, h3, h4⟩
      refine ⟨⟨h1, h3⟩, .inr (decide_eq_true ?_)⟩
      rcases h4 with rfl | h4
      · simp [sizeL]; omega
      · omega
    · rintro ⟨⟨h1, h3⟩, h4⟩
      have h4 := of_decide_eq_true (h4.resolve_left (by simp))
      exact ⟨⟨h1, by omega⟩, h3, .inr (by omega)⟩
end
def exOk (n0 : Int) (e : ET) : Bool := okE shE 1 e && decide (n0 + sizeE e ≤ 120)
theorem ga_top (n0 : Int) (e : ET) : goodAll (exGood n0) [] (preE 1 e) = exOk n0 e := by rw [ga_E]; simp [exOk]
theorem ExJ.start {g s : Nat} {n0 : Int} {w : World} (hsc : Sc w g s) (hk : Kinds w) (hcnt : w.cell? ⟨g, 4, none⟩ = some (.int .i64 n0)) (hfr : w.frozen? ⟨g, 4, none⟩ = false) (hn1 : n0 ≤ 120) (T1 T2 : TypeId) (v2 : Value) (r : Loop) :
    ExJ g s w.heap.size (w.heap.size + 2) (w.heap.size + 3) r n0 [] ((((w.alloc (.cells #[.pointer (some ⟨s, 0, none⟩)] T1)).alloc (.cells #[v2] T2)).alloc (.deferred (some []))).alloc (.loop r)) := by
  have hb : Below w.heap.size w ((((w.alloc (.cells #[.pointer (some ⟨s, 0, none⟩)] T1)).alloc (.cells #[v2] T2)).alloc (.deferred (some []))).alloc (.loop r)) :=
    (((((Below.refl _ w).alloc (Nat.le_refl _) _).alloc (by simp) _).alloc (by simp; try omega) _).alloc (by simp; try omega) _)
  have hb1 : Below (w.alloc (.cells #[.pointer (some ⟨s, 0, none⟩)] T1)).heap.size (w.alloc (.cells #[.pointer (some ⟨s, 0, none⟩)] T1)) ((((w.alloc (.cells #[.pointer (some ⟨s, 0, none⟩)] T1)).alloc (.cells #[v2] T2)).alloc (.deferred (some []))).alloc (.loop r)) :=
    ((((Below.refl _ _).alloc (Nat.le_refl _) _).alloc (by simp) _).alloc (by simp; try omega) _)
  refine ⟨(hb1.cell (p := ⟨w.heap.size, 0, none⟩) (by show w.heap.size < _; simp)).trans (by rw [World.cell?_alloc_at _ _ _ _ rfl]; simp), hsc.below hb, ?_, (hb.frozen (p := ⟨g, 4, none⟩) (cell_lt hcnt)).trans hfr, ?_, ?_, ?_, by simpa using hn1, fun y hy => by cases hy⟩
  · rw [hb.cell (p := ⟨g, 4, none⟩) (cell_lt hcnt), hcnt]; simp
  · intro op ho
    have hz := cell_lt (hk 1 (by omega)).1
    obtain ⟨k0, k1, k2, k3⟩ := hk op ho
    exact ⟨(hb.cell (p := ⟨_, _, none⟩) hz).trans k0, (hb.cell (p := ⟨_, _, none⟩) hz).trans k1, (hb.cell (p := ⟨_, _, none⟩) hz).trans k2, (hb.cell (p := ⟨_, _, none⟩) hz).trans k3⟩
  · have := World.alloc_heap_new (((w.alloc (.cells #[.pointer (some ⟨s, 0, none⟩)] T1)).alloc (.cells #[v2] T2)).alloc (.deferred (some []))) (.loop r)
    rwa [show (((w.alloc (.cells #[.pointer (some ⟨s, 0, none⟩)] T1)).alloc (.cells #[v2] T2)).alloc (.deferred (some []))).heap.size = w.heap.size + 3 by simp] at this
  · rw [Below.heap_alloc _ _ _ (by simp)]
    have := World.alloc_heap_new ((w.alloc (.cells #[.pointer (some ⟨s, 0, none⟩)] T1)).alloc (.cells #[v2] T2)) (.deferred (some []))
    rwa [show ((w.alloc (.cells #[.pointer (some ⟨s, 0, none⟩)] T1)).alloc (.cells #[v2] T2)).heap.size = w.heap.size + 2 by simp] at this
theorem begin_round {P : Program} {l : Nat} {r : Loop} {W : World} (h : W.heap[l]? = some (.loop r)) (hr : r.state = .ready) : ∃ W2, (Instr.beginRound l).run P W = .ok () W2 ∧ W2.heap[l]? = some (.loop { r with state := .busy }) ∧ Upd [l] W W2 :=
  ⟨_, run_beginRound h hr, World.putObj_heap_same (lt_of_block h), Fs.Upd.putObj (Upd.refl _ _) (fun _ => by simp) _⟩
theorem end_round {P : Program} {l : Nat} {fn : FuncId} {tmps : Array Value} {ps : Array Tmp} {assign body : Code} {D : Nat} {W : World} (h : W.heap[l]? = some (.loop { state := .busy, pending := none, fn, tmps, params := ps, assign, body, defers := D })) :
    ∃ W', (Instr.endRound l none).run P W = .ok (.bool true) W' ∧ W'.heap[l]? = some (.loop { state := .ready, pending := none, fn, tmps, params := ps, assign, body, defers := D }) ∧ Upd [l] W W' :=
  ⟨_, run_endRound none h, World.putObj_heap_same (lt_of_block h), Fs.Upd.putObj (Upd.refl _ _) (fun _ => by simp) _⟩
theorem Sc.upd {L : List Nat} {w w' : World} {g s : Nat} (h : Sc w g s) (hu : Upd L w w') (hg : g ∉ L) (hs : s ∉ L) : Sc w' g s :=
  ⟨(hu.cells _ _ (cell_lt h.open_) hg).trans h.open_, (hu.cells _ _ (cell_lt h.open_) hg).trans h.slots, (hu.cells _ _ (cell_lt h.open_) hg).trans h.has, (hu.cells _ _ (cell_lt h.glob) hs).trans h.glob, (hu.cells _ _ (cell_lt h.glob) hs).trans h.params, (hu.cells _ _ (cell_lt h.glob) hs).trans h.next⟩
theorem Kinds.upd {L : List Nat} {w w' : World} (h : Kinds w) (hu : Upd L w w') (hg : 1 ∉ L) : Kinds w' := fun op ho => by
  have hz := cell_lt (h 1 (by omega)).1
  obtain ⟨k0, k1, k2, k3⟩ := h op ho
  exact ⟨(hu.cells _ _ hz hg).trans k0, (hu.cells _ _ hz hg).trans k1, (hu.cells _ _ hz hg).trans k2, (hu.cells _ _ hz hg).trans k3⟩
theorem set4_other (w : World) (g b o : Nat) (v : Value) (h : b ≠ g ∨ o ≠ 4) : (w.setCell ⟨g, 4, none⟩ v).cell? ⟨b, o, none⟩ = w.cell? ⟨b, o, none⟩ :=
  World.cell?_setCell_other _ _ _ _ (by intro e; injection e with e1 e2; rcases h with h | h <;> omega)
theorem Sc.set4 {w : World} {g s : Nat} (h : Sc w g s) (v : Value) : Sc (w.setCell ⟨g, 4, none⟩ v) g s :=
  ⟨(set4_other _ _ _ _ _ (.inr (by decide))).trans h.open_, (set4_other _ _ _ _ _ (.inr (by decide))).trans h.slots, (set4_other _ _ _ _ _ (.inr (by decide))).trans h.has, (set4_other _ _ _ _ _ (.inr (by decide))).trans h.glob, (set4_other _ _ _ _ _ (.inr (by decide))).trans h.params, (set4_other _ _ _ _ _ (.inr (by decide))).trans h.next⟩
theorem Kinds.set4 {w : World} {g : Nat} (h : Kinds w) (hg : g ≠ 1) (v : Value) : Kinds (w.setCell ⟨g, 4, none⟩ v) := fun op ho => by
  obtain ⟨k0, k1, k2, k3⟩ := h op ho
  exact ⟨(set4_other _ _ _ _ _ (.inl (Ne.symm hg))).trans k0, (set4_other _ _ _ _ _ (.inl (Ne.symm hg))).trans k1, (set4_other _ _ _ _ _ (.inl (Ne.symm hg))).trans k2, (set4_other _ _ _ _ _ (.inl (Ne.symm hg))).trans k3⟩
theorem ta_fact (cs : List Value) (w : World) : (Instr.typeAssert (ifE cs) 43 50 true).run Tryz.prog w = .ok (.tuple #[.agg #[.int .i64 0, .string ⟨#[]⟩, .slice none 0 0, .string ⟨#[]⟩, .int .i64 0, .slice none 0 0], .bool false]) w := by kernel_rfl
theorem ta_exp (cs : List Value) (w : World) : (Instr.typeAssert (ifE cs) 43 41 true).run Tryz.prog w = .ok (.tuple #[.agg cs.toArray, .bool true]) w := by kernel_rfl
/-- what examine comes to -/
def ExmP (g : Nat) (n0 : Int) (e : ET) (w : World) (en : Ending) (w' : World) : Prop :=
  Upd [g] w w' ∧ ((exOk n0 e = true ∧ en = rn ∧ w'.cell? ⟨g, 4, none⟩ = some (.int .i64 (n0 + sizeE e))) ∨ (exOk n0 e = false ∧ en = pe))
set_option maxRecDepth 100000 in
set_option maxHeartbeats 4000000 in
theorem examine_any (W0 : World) (e : ET) (cs : List Value) (hr : ExpR W0 e cs) (g s : Nat) (n0 : Int) (w : World) (hB : Below W0.heap.size W0 w) (hg0 : W0.heap.size ≤ g) (hg1 : g ≠ 1) (hsc : Sc w g s) (hk : Kinds w) (hcnt : w.cell? ⟨g, 4, none⟩ = some (.int .i64 n0)) (hfr : w.frozen? ⟨g, 4, none⟩ = false) (hn0 : 0 ≤ n0) (hn1 : n0 ≤ 120) :
    Calls Tryz.prog 17 #[.pointer (some ⟨s, 0, none⟩), ifE cs] w (ExmP g n0 e w) := by
  refine calls_of_wpAt Tryz.func17 rfl ?_
  simp only [Tryz.ntmps17, List.size_toArray, List.length_cons, List.length_nil, Nat.reduceAdd, Nat.reduceSub, Array.replicate_succ, Array.replicate_zero, List.push_toArray, List.append_toArray, List.nil_append, List.cons_append]
  have hfw : ∀ f, Fence.wide.fn f := fun _ => trivial
  have hdw : Fence.wide.depth.isSome = false := rfl
  have HK := Lib.hid hk; clear hk
  have HSC := Lib.hid hsc; clear hsc
  have hgl := cell_lt hcnt
  refine wpAt_seq (wpAt_of_wpIn 0 ?_)
  gi_wp2_with fail
  refine wpAt_seq (wpAt_of_wpIn 0 ?_)
  gi_wp2_with (gi_at_call 11; refine (callsIn_wide.2 (nodes_any _ _ ⟨_, rfl⟩)).mono ?_; rintro e w2 ⟨rfl, rfl⟩)
  refine wpAt_block ?_
  refine range_nodes W0 e cs hr (w.heap.size + 1) rfl (by exact (hB.alloc hB.size _).alloc (by have := hB.size; simp; omega) _) (by rw [World.cell?_alloc_at _ _ _ _ (by simp)]; rfl) [g, w.heap.size + 3] (exGood n0)
    (fun r => ExJ g s w.heap.size (w.heap.size + 2) (w.heap.size + 3) r n0) (fun _ _ => True) trivial (by intro b hb; simp at hb ⊢; omega) ?HR (ExJ.start HSC.out HK.out hcnt hfr hn1 _ _ _ _) ?hn ?hp
  case hn =>
    intro W' W6 hu hgd hj hu6
    have hsz : ((w.alloc (.cells #[.pointer (some ⟨s, 0, none⟩)] 47)).alloc (.cells #[ifE cs] 43)).heap.size = w.heap.size + 2 := by simp
    rw [hsz] at hu6
    refine ⟨by simp, .inl ⟨_, _, rfl, run_takeDeferred (by rw [hsz]; exact (hu6.block _ (lt_of_block hj.def_) (by simp)).trans hj.def_), ?_⟩⟩
    refine ⟨_, results_none rfl _ _ _, ?_, .inl ⟨by rw [← ga_top]; exact hgd, rfl, ?_⟩⟩
    · refine Fs.Upd.putObj (Upd.step (Upd.step (L := [g]) ((((Upd.refl _ w).alloc _).alloc _).alloc _ |>.alloc _) hu ?_) hu6 ?_) ?_ _
      · intro x hx hlt; simp at hx ⊢; omega
      · intro x hx hlt; simp at hx ⊢; omega
      · intro h; rw [hsz] at h; omega
    · rw [World.cell?_of_block (World.putObj_heap_other (by rw [hsz]; show g ≠ _; omega)), hu6.cells g 4 (cell_lt hj.cnt) (by simp; omega), hj.cnt, pre_len]
  case hp =>
    intro W' hu hgd
    have hsz : ((w.alloc (.cells #[.pointer (some ⟨s, 0, none⟩)] 47)).alloc (.cells #[ifE cs] 43)).heap.size = w.heap.size + 2 := by simp
    refine ⟨by simp, .inl ⟨_, _, rfl, run_takeDeferred ((hu.block _ (by simp) (by simp; try omega)).trans (by rw [Below.heap_alloc _ _ _ (by simp)]; exact World.alloc_heap_new _ _)), ?_⟩⟩
    refine ⟨?_, .inr ⟨by rw [← ga_top]; exact hgd, rfl⟩⟩
    refine Fs.Upd.putObj (Upd.step (L := [g]) ((((Upd.refl _ w).alloc _).alloc _).alloc _ |>.alloc _) hu ?_) ?_ _
    · intro x hx hlt; simp at hx ⊢; omega
    · intro h; rw [hsz] at h; omega
  case HR =>
    have hsz : ((w.alloc (.cells #[.pointer (some ⟨s, 0, none⟩)] 47)).alloc (.cells #[ifE cs] 43)).heap.size = w.heap.size + 2 := by simp
    refine ⟨rfl, by intro b hb; have := hB.size; simp at hb; omega, fun pre W h => by rw [hsz]; exact h.rec_, fun _ _ _ h hb => h.keep hb, fun pre d x W _ h => by have := h.deep (d, x) (by simp); simp at this; omega, fun _ _ _ _ _ _ _ _ _ => trivial, ?_⟩
    intro n pre d x cs' W hd1 hd2 _ hx hBW hJ
    obtain ⟨v, rfl, a, cap, rfl⟩ := hx.four
    refine roundIn_of_wpInP trivial ⟨_, Tryz.func17⟩ ?_
    simp only [rt]
    rw [hsz]
    have h_box := hJ.box
    have h_cnt := hJ.cnt
    have h_free := hJ.free
    have h_rec := hJ.rec_
    have h_many := hJ.many
    have h_glob := hJ.sc.glob
    have HJ := Lib.hid hJ; clear hJ
    have hsl := cell_lt HSC.out.glob
    obtain ⟨W2, hrun, hl2, hu2⟩ := begin_round (P := Tryz.prog) h_rec rfl
    have c_box := (hu2.cells _ 0 (cell_lt h_box) (by simp)).trans h_box
    have c_glob := (hu2.cells _ 0 (cell_lt h_glob) (by simp; try omega)).trans h_glob
    have c_cnt := (hu2.cells _ 4 (cell_lt h_cnt) (by simp; try omega)).trans h_cnt
    have c_free := (hu2.frozens _ 4 (cell_lt h_cnt) (by simp; try omega)).trans h_free
    have hbs := cell_lt c_box
    have SC2 := Lib.hid (HJ.out.sc.upd hu2 (by simp; try omega) (by simp; try omega))
    have K2 := Lib.hid (HJ.out.kinds.upd hu2 (by have := cell_lt (HK.out 1 (by omega)).1; simp; try omega))
    have HU2 := Lib.hid hu2; clear hu2
    have HL2 := Lib.hid hl2; clear hl2
    have HRN := Lib.hid hrun; clear hrun
    clear h_rec h_box h_glob h_cnt h_free
    have hU2 : Upd [g, w.heap.size + 3] W W2 := HU2.out.mono (fun y hy _ => by simp at hy ⊢; omega)
    have HUU := Lib.hid hU2; clear hU2
    by_cases k1 : n0 + pre.length + 1 ≤ 120
    · by_cases k2 : d ≤ 12
      · have hgd : exGood n0 pre (d, x) = shE x.op x.n x.text x.kids.length := by unfold exGood; rw [decide_eq_true k1, decide_eq_true (p := (d, x).1 ≤ 12) k2]; rfl
        have HGD := Lib.hid hgd; clear hgd
        have hta := ta_fact
        have hte := ta_exp
        gi_wp2_with (rw [Oper.semAt_eq _ _ _ (fun c h => by cases h)]; go_simp; try go_bits)
        refine ⟨W2, HRN.out, ?_⟩
        gi_wp2_with (first
          | (rw [Oper.semAt_eq _ _ _ (fun c h => by cases h)]; go_simp; try go_bits)
          | (gi_at_call 39; refine (CallsIn.inRound _ (callsIn_wide.2 (need_any _ _))).mono ?_; (rintro e w' ⟨rfl, ⟨hb, rfl⟩ | ⟨hb, rfl⟩⟩ <;> (first | (cases hb; done) | (exfalso; simp at hb; omega) | skip)))
          | (gi_at_call 41; refine (CallsIn.inRound _ (callsIn_wide.2 (xe_any g s x.op x.n x.text a x.kids.length cap _ (by exact (SC2.out.set4 _).below (by repeat (first | exact Below.refl _ _ | refine Below.alloc ?_ (by simp; try omega) _ | refine Below.setCell ?_ (by simp; try omega) _ | refine Below.drew ?_))) (by exact ((K2.out.set4 hg1 _).upd (Upd.ofBelow [] (by repeat (first | exact Below.refl _ _ | refine Below.alloc ?_ (by simp; try omega) _ | refine Below.setCell ?_ (by simp; try omega) _ | refine Below.drew ?_))) (by simp)))))).mono ?_; rintro e w4 ⟨hb4, ⟨hb, rfl⟩ | ⟨hb, rfl⟩⟩))
        · have hb4' : Below ((W2.setCell ⟨g, 4, none⟩ (.int .i64 (n0 + pre.length + 1))).alloc (.cells #[.int .i64 x.op, .int .i64 x.n, .string x.text, .slice a x.kids.length cap] 41)).heap.size ((W2.setCell ⟨g, 4, none⟩ (.int .i64 (n0 + pre.length + 1))).alloc (.cells #[.int .i64 x.op, .int .i64 x.n, .string x.text, .slice a x.kids.length cap] 41)) w4 := hb4
          have hW3 : Below (W2.setCell ⟨g, 4, none⟩ (.int .i64 (n0 + pre.length + 1))).heap.size (W2.setCell ⟨g, 4, none⟩ (.int .i64 (n0 + pre.length + 1))) w4 := ((Below.refl _ _).alloc (Nat.le_refl _) _).trans (hb4'.mono (by simp))
          have hsz3 : (W2.setCell ⟨g, 4, none⟩ (.int .i64 (n0 + pre.length + 1))).heap.size = W2.heap.size := by simp [World.setCell]
          have hlt := lt_of_block HL2.out
          have hl4 := (hW3.block (w.heap.size + 3) (by rw [hsz3]; exact hlt)).trans ((Below.heap_setCell _ _ _ _ (by show w.heap.size + 3 ≠ g; omega)).trans HL2.out)
          obtain ⟨W5, hend, hl5, hu5⟩ := end_round (P := Tryz.prog) hl4
          have hch : Upd [g, w.heap.size + 3] W2 W5 := (((Upd.refl _ W2).setCell (fun _ => by simp) _).step (Upd.ofBelow [] hW3) (fun _ h => by cases h)).step hu5 (fun y hy _ => by simp at hy ⊢; omega)
          have hgs : g < W2.heap.size := cell_lt c_cnt
          refine ⟨_, W5, hend, HUU.out.trans hch, .inl ⟨HGD.out.trans hb, rfl, ?_⟩⟩
          refine ⟨(hch.cells _ 0 hbs (by simp; try omega)).trans c_box, ((SC2.out.set4 _).below hW3).upd hu5 (by simp; try omega) (by simp; try omega), ?_, ?_, ((K2.out.set4 hg1 _).upd (Upd.ofBelow [] hW3) (by simp)).upd hu5 (by have := cell_lt (HK.out 1 (by omega)).1; simp; try omega), hl5, ?_, by simp; try omega, ?_⟩
          · rw [hu5.cells g 4 (Nat.lt_of_lt_of_le (by rw [hsz3]; exact hgs) hW3.size) (by simp; try omega), hW3.cell (p := ⟨g, 4, none⟩) (by rw [hsz3]; exact hgs), World.cell?_setCell_same' _ _ _ (by rw [c_cnt]; rfl)]
            simp; omega
          · rw [hu5.frozens g 4 (Nat.lt_of_lt_of_le (by rw [hsz3]; exact hgs) hW3.size) (by simp; try omega), hW3.frozen (p := ⟨g, 4, none⟩) (by rw [hsz3]; exact hgs), World.frozen?_setCell]
            exact c_free
          · have hd2 := (HU2.out.block (w.heap.size + 2) (lt_of_block HJ.out.def_) (by simp)).trans HJ.out.def_
            exact (hch.block _ (lt_of_block hd2) (by simp; try omega)).trans hd2
          · intro y hy
            rcases List.mem_append.1 hy with hy | hy
            · exact HJ.out.deep y hy
            · rw [List.mem_singleton.1 hy]; exact k2
        · exact ⟨rfl, ((HUU.out.setCell (fun _ => by simp) _).alloc _).step (Upd.ofBelow [] hb4) (fun _ h => by cases h), .inr ⟨HGD.out.trans hb, rfl⟩⟩
      · have hgd : exGood n0 pre (d, x) = false := by unfold exGood; rw [decide_eq_false (p := (d, x).1 ≤ 12) k2]; simp
        have HGD := Lib.hid hgd; clear hgd
        gi_wp2_with (rw [Oper.semAt_eq _ _ _ (fun c h => by cases h)]; go_simp; try go_bits)
        refine ⟨W2, HRN.out, ?_⟩
        gi_wp2_with (first
          | (rw [Oper.semAt_eq _ _ _ (fun c h => by cases h)]; go_simp; try go_bits)
          | (gi_at_call 39; refine (CallsIn.inRound _ (callsIn_wide.2 (need_any _ _))).mono ?_; (rintro e w' ⟨rfl, ⟨hb, rfl⟩ | ⟨hb, rfl⟩⟩ <;> (first | (cases hb; done) | (exfalso; simp at hb; omega) | skip))))
        exact ⟨rfl, HUU.out.setCell (fun _ => by simp) _, .inr ⟨HGD.out, rfl⟩⟩
    · have hgd : exGood n0 pre (d, x) = false := by unfold exGood; rw [decide_eq_false k1]; simp
      have HGD := Lib.hid hgd; clear hgd
      gi_wp2_with (rw [Oper.semAt_eq _ _ _ (fun c h => by cases h)]; go_simp; try go_bits)
      refine ⟨W2, HRN.out, ?_⟩
      gi_wp2_with (first
        | (rw [Oper.semAt_eq _ _ _ (fun c h => by cases h)]; go_simp; try go_bits)
        | (gi_at_call 39; refine (CallsIn.inRound _ (callsIn_wide.2 (need_any _ _))).mono ?_; (rintro e w' ⟨rfl, ⟨hb, rfl⟩ | ⟨hb, rfl⟩⟩ <;> (first | (cases hb; done) | (exfalso; simp at hb; omega) | skip))))
      exact ⟨rfl, HUU.out.setCell (fun _ => by simp) _, .inr ⟨HGD.out, rfl⟩⟩
end Go.Proofs.YtnipdjkopmjoeaaGreatDoor
namespace Go.Proofs.YtnipdjkopmjoeaaGreatDoor
open Go.ChangeShapes Go.WideShapes Go.ChangeAt Go.RowKit Go.Fs
theorem catch_panicking (p : Addr) (x : Int) (u : TypeId) (pv : Value) (older : List PanicEntry) (w : World) (hc : w.cell? p = some (.int .i64 x)) (hz : w.frozen? p = false) :
    CallsD Tryz.prog 38 #[.pointer (some p)] (.panicking ({ v := .iface u pv, recovered := false } :: older)) w fun e u' w' =>
      e = .returned (.tuple #[]) ∧ u' = .panicking ({ v := .iface u pv, recovered := true } :: older) ∧ w' = w.setCell p (.int .i64 2) := by
  refine callsD_of_wpS Tryz.func38 rfl fun c₀ cs hu => ?_
  apply wpS_seq
  apply wpS_region
  simp [wpOpsS, go_sem, recoverD, hu, Tryz.ntmps38, Exit.thenS]
  refine wpS_cond (t := true) (by simp [Act.eval, Array.replicate]) ?_
  simp only [if_true]
  apply wpS_region
  simp [wpOpsS, go_sem, hc, hz, bodyPostS, results, Tryz.results38]
theorem catch_idle (p : Addr) (w : World) :
    CallsD Tryz.prog 38 #[.pointer (some p)] .returning w fun e u' w' => e = .returned (.tuple #[]) ∧ u' = .returning ∧ w' = w := by
  refine callsD_of_wpS Tryz.func38 rfl fun c₀ cs hu => ?_
  apply wpS_seq
  apply wpS_region
  simp [wpOpsS, go_sem, recoverD, hu, Tryz.ntmps38, Exit.thenS]
  refine wpS_cond (t := false) (by simp [Act.eval, Array.replicate]) ?_
  simp only [Bool.false_eq_true, if_false]
  refine wpS_of_wp (wp_skip ?_)
  cases c₀
  simp_all [bodyPostS, results, Tryz.results38]
def AttP (b : Bool) (w : World) (e : Ending) (w' : World) : Prop := e = .returned (.int .i64 (if b = true then 0 else 2)) ∧ Below w.heap.size w w'
set_option maxRecDepth 100000 in
set_option maxHeartbeats 1000000 in
theorem attempt_any (f : FuncId) (cap : Array Value) (b : Bool) (w : World) (hcf : ∀ w, (callFunc f cap).run Tryz.prog w = .ok (.enter f cap) w) (hcall : ∀ w', Below w.heap.size w w' → Calls Tryz.prog f cap w' (ExP b w')) : Calls Tryz.prog 14 #[.func (.func f) #[] cap] w (AttP b w) := by
  have hmf : ∀ (fn : Fn) (first cap : Array Value) (w : World), (Instr.makeFunc fn first cap).run Tryz.prog w = .ok (.func fn first cap) w := fun _ _ _ _ => rfl
  have HC := Lib.hid hcall; clear hcall
  go_enter_defers Tryz.func14, Tryz.ntmps14
  go_wp2_with fail
  refine (HC.out _ (by exact (Below.refl _ _).alloc (Nat.le_refl _) _)).mono ?_
  rintro e w1 ⟨hb, ⟨rfl, rfl⟩ | ⟨rfl, rfl⟩⟩
  · have h1 : w1.cell? ⟨w.heap.size, 0, none⟩ = some (.int .i64 0) := (hb.cell (p := ⟨w.heap.size, 0, none⟩) (by simp)).trans (by simp)
    have h2 : w1.frozen? ⟨w.heap.size, 0, none⟩ = false := (hb.frozen (p := ⟨w.heap.size, 0, none⟩) (by simp)).trans (by simp)
    have HB := Lib.hid hb; clear hb
    go_wp2_with fail
    refine leaves_cons (f := 38) (args := #[.pointer (some ⟨w.heap.size, 0, none⟩)]) (by simp) (by simp [go_sem]) ?_
    refine (catch_idle ⟨w.heap.size, 0, none⟩ _).mono ?_
    rintro e u' w'' ⟨rfl, rfl, rfl⟩
    have h3 : (w1.setCell ⟨w.heap.size, 0, none⟩ (.int .i64 0)).cell? ⟨w.heap.size, 0, none⟩ = some (.int .i64 0) := World.cell?_setCell_same' _ _ _ (by rw [h1]; rfl)
    simp [Leaves, settle, results, Tryz.results14, go_sem, h3]
    exact ⟨rfl, (((Below.refl _ w).alloc (Nat.le_refl _) _).trans (HB.out.mono (by simp))).setCell (Nat.le_refl _) _⟩
  · have h1 : w1.cell? ⟨w.heap.size, 0, none⟩ = some (.int .i64 0) := (hb.cell (p := ⟨w.heap.size, 0, none⟩) (by simp)).trans (by simp)
    have h2 : w1.frozen? ⟨w.heap.size, 0, none⟩ = false := (hb.frozen (p := ⟨w.heap.size, 0, none⟩) (by simp)).trans (by simp)
    have HB := Lib.hid hb; clear hb
    refine leaves_cons (f := 38) (args := #[.pointer (some ⟨w.heap.size, 0, none⟩)]) (by simp) (by simp [go_sem]) ?_
    refine (catch_panicking ⟨w.heap.size, 0, none⟩ 0 _ _ [] _ h1 h2).mono ?_
    rintro e u' w'' ⟨rfl, rfl, rfl⟩
    have h3 : (w1.setCell ⟨w.heap.size, 0, none⟩ (.int .i64 2)).cell? ⟨w.heap.size, 0, none⟩ = some (.int .i64 2) := World.cell?_setCell_same' _ _ _ (by rw [h1]; rfl)
    simp [Leaves, settle, results, Tryz.results14, go_sem, h3]
    exact ⟨rfl, (((Below.refl _ w).alloc (Nat.le_refl _) _).trans (HB.out.mono (by simp))).setCell (Nat.le_refl _) _⟩
theorem alone_any (w : World) : Calls Tryz.prog 16 #[] w fun e w' => e = .returned (.pointer (some ⟨w.heap.size + 1, 0, none⟩)) ∧ w' = (w.alloc (.cells #[.bool true, .map none, .map none, .map none, .int .i64 0] 86)).alloc (.cells #[.pointer (some ⟨w.heap.size, 0, none⟩), .map none, .bool true] 88) := by
  go_enter Tryz.func16, Tryz.ntmps16
  go_wp2
  go_ret
  exact ⟨rfl, rfl⟩
theorem exOk_form (e : ET) : exOk 0 e = formB e := by unfold exOk formB cntB; simp
end Go.Proofs.YtnipdjkopmjoeaaGreatDoor
namespace Go.Proofs.YtnipdjkopmjoeaaGreatDoor
open Go.ChangeShapes Go.WideShapes Go.ChangeAt Go.RowKit Go.Fs
theorem region_any {P : Program} {ops : Array Oper} {Q : Exit → Act → World → Prop} {id : Nat} {a : Act} {w : World} (hm : P.follows .mixedOrders = true)
    (h : wpAny P .any ops Q ops.size (Array.replicate ops.size false) a w.drew) : (Code.region id ops true).wp P Q a w := wp_region_any hm h
abbrev gCells : Array Value := #[.bool true, .map none, .map none, .map none, .int .i64 0]
theorem alone_sc (w : World) : Sc ((w.alloc (.cells gCells 86)).alloc (.cells #[.pointer (some ⟨w.heap.size, 0, none⟩), .map none, .bool true] 88)) w.heap.size (w.heap.size + 1) ∧
    ((w.alloc (.cells gCells 86)).alloc (.cells #[.pointer (some ⟨w.heap.size, 0, none⟩), .map none, .bool true] 88)).cell? ⟨w.heap.size, 4, none⟩ = some (.int .i64 0) ∧
    ((w.alloc (.cells gCells 86)).alloc (.cells #[.pointer (some ⟨w.heap.size, 0, none⟩), .map none, .bool true] 88)).frozen? ⟨w.heap.size, 4, none⟩ = false := by
  refine ⟨⟨?_, ?_, ?_, ?_, ?_, ?_⟩, ?_, ?_⟩ <;> simp [gCells, go_sem]
set_option maxRecDepth 100000 in
set_option maxHeartbeats 2000000 in
theorem checkExp1_any (W0 : World) (e : ET) (cs : List Value) (hr : ExpR W0 e cs) (ce : Nat) (w : World) (hB : Below W0.heap.size W0 w) (hk : Kinds w) (hat : At w ce 0 cs) :
    Calls Tryz.prog 15 #[.pointer (some ⟨ce, 0, none⟩)] w (ExP (formB e) w) := by
  have hx := fun g s n0 w => examine_any W0 e cs hr g s n0 w
  obtain ⟨v, rfl, a, cap, rfl⟩ := hr.four
  have c0 : w.cell? ⟨ce, 0, none⟩ = some (.int .i64 e.op) := by simpa using hat 0 _ rfl
  have c1 : w.cell? ⟨ce, 1, none⟩ = some (.int .i64 e.n) := by simpa using hat 1 _ rfl
  have c2 : w.cell? ⟨ce, 2, none⟩ = some (.string e.text) := by simpa using hat 2 _ rfl
  have c3 : w.cell? ⟨ce, 3, none⟩ = some (.slice a e.kids.length cap) := by simpa using hat 3 _ rfl
  have hce := cell_lt c0
  have hz1 := cell_lt (hk 1 (by omega)).1
  have HX := Lib.hid hx; clear hx
  have HK := Lib.hid hk; clear hk
  have HB := Lib.hid hB; clear hB hat
  have hfin : Calls Tryz.prog 17 #[.pointer (some ⟨w.heap.size + 1, 0, none⟩), ifE [.int .i64 e.op, .int .i64 e.n, .string e.text, .slice a e.kids.length cap]]
      ((w.drew.alloc (.cells gCells 86)).alloc (.cells #[.pointer (some ⟨w.heap.size, 0, none⟩), .map none, .bool true] 88)) fun e1 w3 =>
      (formB e = true ∧ e1 = rn ∧ Below w.heap.size w w3) ∨ (formB e = false ∧ e1 = pe ∧ Below w.heap.size w w3) := by
    obtain ⟨s1, s2, s3⟩ := alone_sc w.drew
    have hbl : Below w.heap.size w ((w.drew.alloc (.cells gCells 86)).alloc (.cells #[.pointer (some ⟨w.heap.size, 0, none⟩), .map none, .bool true] 88)) := (((Below.refl _ w).drew).alloc (Nat.le_refl _) _).alloc (by simp) _
    refine (HX.out w.heap.size (w.heap.size + 1) 0 _ (by exact HB.out.trans (hbl.mono HB.out.size)) HB.out.size (by omega) s1 (HK.out.upd (Upd.ofBelow [] hbl) (by simp)) s2 s3 (by omega) (by omega)).mono ?_
    rintro e1 w3 ⟨hu, ⟨hb, rfl, _⟩ | ⟨hb, rfl⟩⟩
    · exact .inl ⟨by rw [← exOk_form]; exact hb, rfl, hbl.trans (hu.below _ (by simp; try omega) (by intro x hx; simp at hx; omega))⟩
    · exact .inr ⟨by rw [← exOk_form]; exact hb, rfl, hbl.trans (hu.below _ (by simp; try omega) (by intro x hx; simp at hx; omega))⟩
  have FIN := Lib.hid hfin; clear hfin
  go_enter Tryz.func15, Tryz.ntmps15
  go_wp2_with fail
  refine region_any (by kernel_rfl) ?_
  refine wpAny_ready (rs := [0, 1]) (by kernel_rfl) (by simp) (AllReady.cons rfl (fun K1 hK1 => ?_) (AllReady.cons rfl (fun K1 hK1 => ?_) AllReady.nil))
  · go_simp
    refine (alone_any _).mono ?_
    rintro e1 w1 ⟨rfl, rfl⟩
    go_simp
    refine hK1 _ _ ?_
    refine wpAny_ready (rs := [1]) (by kernel_rfl) (by simp) (AllReady.cons rfl (fun K2 hK2 => ?_) AllReady.nil)
    go_simp
    refine hK2 _ _ ?_
    refine wpAny_ready (rs := [2]) (by kernel_rfl) (by simp) (AllReady.cons rfl (fun K3 hK3 => ?_) AllReady.nil)
    go_simp
    refine hK3 _ _ ?_
    refine wpAny_ready (rs := [3]) (by kernel_rfl) (by simp) (AllReady.cons rfl (fun K4 hK4 => ?_) AllReady.nil)
    go_simp
    refine FIN.out.mono ?_
    rintro e1 w3 (⟨hb, rfl, hbel⟩ | ⟨hb, rfl, hbel⟩)
    · go_simp
      refine hK4 _ _ ?_
      refine wpAny_done (by kernel_rfl) ?_ _
      exact bodyPost_end (results_none rfl _ _ _) rfl ⟨hbel, .inl ⟨hb, rfl⟩⟩
    · exact ⟨rfl, hbel, .inr ⟨hb, rfl⟩⟩
  · go_simp
    refine hK1 _ _ ?_
    refine wpAny_ready (rs := [0, 2]) (by kernel_rfl) (by simp) (AllReady.cons rfl (fun K2 hK2 => ?_) (AllReady.cons rfl (fun K2 hK2 => ?_) AllReady.nil))
    · go_simp
      refine (alone_any _).mono ?_
      rintro e1 w1 ⟨rfl, rfl⟩
      go_simp
      refine hK2 _ _ ?_
      refine wpAny_ready (rs := [2]) (by kernel_rfl) (by simp) (AllReady.cons rfl (fun K3 hK3 => ?_) AllReady.nil)
      go_simp
      refine hK3 _ _ ?_
      refine wpAny_ready (rs := [3]) (by kernel_rfl) (by simp) (AllReady.cons rfl (fun K4 hK4 => ?_) AllReady.nil)
      go_simp
      refine FIN.out.mono ?_
      rintro e1 w3 (⟨hb, rfl, hbel⟩ | ⟨hb, rfl, hbel⟩)
      · go_simp
        refine hK4 _ _ ?_
        refine wpAny_done (by kernel_rfl) ?_ _
        exact bodyPost_end (results_none rfl _ _ _) rfl ⟨hbel, .inl ⟨hb, rfl⟩⟩
      · exact ⟨rfl, hbel, .inr ⟨hb, rfl⟩⟩
    · go_simp
      refine hK2 _ _ ?_
      refine wpAny_ready (rs := [0]) (by kernel_rfl) (by simp) (AllReady.cons rfl (fun K3 hK3 => ?_) AllReady.nil)
      go_simp
      refine (alone_any _).mono ?_
      rintro e1 w1 ⟨rfl, rfl⟩
      go_simp
      refine hK3 _ _ ?_
      refine wpAny_ready (rs := [3]) (by kernel_rfl) (by simp) (AllReady.cons rfl (fun K4 hK4 => ?_) AllReady.nil)
      go_simp
      refine FIN.out.mono ?_
      rintro e1 w3 (⟨hb, rfl, hbel⟩ | ⟨hb, rfl, hbel⟩)
      · go_simp
        refine hK4 _ _ ?_
        refine wpAny_done (by kernel_rfl) ?_ _
        exact bodyPost_end (results_none rfl _ _ _) rfl ⟨hbel, .inl ⟨hb, rfl⟩⟩
      · exact ⟨rfl, hbel, .inr ⟨hb, rfl⟩⟩
/-- what CheckExp comes to -/
def errV (b : Bool) : Value := .int .i64 (if b = true then 0 else 2)
set_option maxRecDepth 100000 in
set_option maxHeartbeats 2000000 in
theorem checkExp_any (W0 : World) (e : ET) (cs : List Value) (hr : ExpR W0 e cs) (w : World) (hB : Below W0.heap.size W0 w) (hk : Kinds w) :
    Calls Tryz.prog 6 #[.agg cs.toArray] w (AttP (formB e) w) := by
  have hmf : ∀ (fn : Fn) (first cap : Array Value) (w : World), (Instr.makeFunc fn first cap).run Tryz.prog w = .ok (.func fn first cap) w := fun _ _ _ _ => rfl
  have hc := fun ce w => checkExp1_any W0 e cs hr ce w
  obtain ⟨v, rfl, a, cap, rfl⟩ := hr.four
  have hat : ∀ w', Below (w.heap.size + 1) (w.alloc (.cells #[.int .i64 e.op, .int .i64 e.n, .string e.text, .slice a e.kids.length cap] 25)) w' → Calls Tryz.prog 15 #[.pointer (some ⟨w.heap.size, 0, none⟩)] w' (ExP (formB e) w') := by
    intro w' hw
    have hb1 : Below w.heap.size w w' := ((Below.refl _ w).alloc (Nat.le_refl _) _).trans (hw.mono (by omega))
    refine hc w.heap.size w' (hB.trans (hb1.mono hB.size)) (hk.upd (Upd.ofBelow [] hb1) (by simp)) ?_
    intro j u hj
    rw [hw.cell (p := ⟨w.heap.size, 0 + j, none⟩) (by show w.heap.size < _; omega), World.cell?_alloc_at _ _ _ _ rfl, Nat.zero_add]
    simpa using hj
  have HA := Lib.hid hat; clear hat
  go_enter Tryz.func6, Tryz.ntmps6
  go_wp2_with (go_at_call 14; refine (attempt_any 15 #[.pointer (some ⟨w.heap.size, 0, none⟩)] (formB e) _ (fun _ => by kernel_rfl) (fun w' hw => HA.out w' (by simpa using hw))).mono ?_; rintro e1 w1 ⟨rfl, hb1⟩; have HB1 := Lib.hid hb1; clear hb1)
  all_goals go_ret
  all_goals exact ⟨rfl, ((Below.refl _ _).alloc (Nat.le_refl _) _).trans (HB1.out.mono (by simp))⟩
end Go.Proofs.YtnipdjkopmjoeaaGreatDoor
namespace Go.Proofs.YtnipdjkopmjoeaaGreatDoor
open Go.ChangeShapes Go.WideShapes Go.ChangeAt Go.RowKit Go.Fs
def maxD : List (Int × ET) → Int | [] => 0 | y :: ys => max y.1 (maxD ys)
theorem maxD_append : ∀ a b : List (Int × ET), maxD (a ++ b) = max (maxD a) (maxD b)
  | [], b => by
    have : 0 ≤ maxD b := by induction b with | nil => simp [maxD] | cons y b ih => simp only [maxD]; omega
    simp only [List.nil_append, maxD]; omega
  | x :: a, b => by simp only [List.cons_append, maxD]; rw [maxD_append a b]; omega
theorem maxD_pos (a : List (Int × ET)) : 0 ≤ maxD a := by induction a with | nil => simp [maxD] | cons y b ih => simp only [maxD]; omega
mutual
theorem maxD_E (d : Int) (hd : 1 ≤ d) : ∀ e : ET, maxD (preE d e) = d - 1 + deepE e
  | .mk o n t ks => by
    simp only [preE, maxD, deepE]
    have := maxD_L (d + 1) (by omega) ks
    rcases this with ⟨h1, h2⟩ | ⟨h1, h2⟩ <;> (rw [h2]; omega)
theorem maxD_L (d : Int) (hd : 1 ≤ d) : ∀ l : List ET, (deepL l = 0 ∧ maxD (preL d l) = 0) ∨ (0 < deepL l ∧ maxD (preL d l) = d - 1 + deepL l)
  | [] => .inl ⟨rfl, rfl⟩
  | x :: l => by
    have h1 := maxD_E d hd x
    have h2 := maxD_L d hd l
    right
    simp only [preL, deepL]
    rw [maxD_append, h1]
    have hp : 0 < deepE x := by cases x; simp [deepE]
    rcases h2 with ⟨a, b⟩ | ⟨a, b⟩ <;> (rw [b]; omega)
end
structure DpJ (bm D l : Nat) (r : Loop) (pre : List (Int × ET)) (W : World) : Prop where
  most : W.cell? ⟨bm, 0, none⟩ = some (.int .i64 (maxD pre))
  free : W.frozen? ⟨bm, 0, none⟩ = false
  rec_ : W.heap[l]? = some (.loop r)
  def_ : W.heap[D]? = some (.deferred (some []))
theorem DpJ.keep {bm D l : Nat} {r : Loop} {pre : List (Int × ET)} {W W' : World} (h : DpJ bm D l r pre W) (hb : Below W.heap.size W W') : DpJ bm D l r pre W' :=
  ⟨(hb.cell (p := ⟨bm, 0, none⟩) (cell_lt h.most)).trans h.most, (hb.frozen (p := ⟨bm, 0, none⟩) (cell_lt h.most)).trans h.free, (hb.block l (lt_of_block h.rec_)).trans h.rec_, (hb.block D (lt_of_block h.def_)).trans h.def_⟩
theorem DpJ.start (w : World) (T1 T2 : TypeId) (v2 : Value) (r : Loop) :
    DpJ w.heap.size (w.heap.size + 2) (w.heap.size + 3) r [] ((((w.alloc (.cells #[.int .i64 0] T1)).alloc (.cells #[v2] T2)).alloc (.deferred (some []))).alloc (.loop r)) := by
  have hb1 : Below (w.alloc (.cells #[.int .i64 0] T1)).heap.size (w.alloc (.cells #[.int .i64 0] T1)) ((((w.alloc (.cells #[.int .i64 0] T1)).alloc (.cells #[v2] T2)).alloc (.deferred (some []))).alloc (.loop r)) :=
    ((((Below.refl _ _).alloc (Nat.le_refl _) _).alloc (by simp) _).alloc (by simp; try omega) _)
  refine ⟨(hb1.cell (p := ⟨w.heap.size, 0, none⟩) (by show w.heap.size < _; simp)).trans (by rw [World.cell?_alloc_at _ _ _ _ rfl]; simp [maxD]), (hb1.frozen (p := ⟨w.heap.size, 0, none⟩) (by show w.heap.size < _; simp)).trans (by rw [World.frozen?_alloc_at _ _ _ _ rfl]), ?_, ?_⟩
  · have := World.alloc_heap_new (((w.alloc (.cells #[.int .i64 0] T1)).alloc (.cells #[v2] T2)).alloc (.deferred (some []))) (.loop r)
    rwa [show (((w.alloc (.cells #[.int .i64 0] T1)).alloc (.cells #[v2] T2)).alloc (.deferred (some []))).heap.size = w.heap.size + 3 by simp] at this
  · rw [Below.heap_alloc _ _ _ (by simp)]
    have := World.alloc_heap_new ((w.alloc (.cells #[.int .i64 0] T1)).alloc (.cells #[v2] T2)) (.deferred (some []))
    rwa [show ((w.alloc (.cells #[.int .i64 0] T1)).alloc (.cells #[v2] T2)).heap.size = w.heap.size + 2 by simp] at this
theorem DpJ.round {P : Program} {bm D l : Nat} {fn : FuncId} {tmps : Array Value} {ps : Array Tmp} {assign body : Code} {D' : Nat} {pre : List (Int × ET)} {W W2 : World} {m v : Int} {y : Int × ET}
    (hbl : bm ≠ l) (hbD : bm ≠ D) (hlD : l ≠ D) (hv : v = maxD (pre ++ [y])) (hu2 : Upd [l] W W2) (hl2 : W2.heap[l]? = some (.loop { state := .busy, pending := none, fn, tmps, params := ps, assign, body, defers := D' }))
    (hc : W2.cell? ⟨bm, 0, none⟩ = some (.int .i64 m)) (hf : W2.frozen? ⟨bm, 0, none⟩ = false) (hdf : W.heap[D]? = some (.deferred (some []))) :
    ∃ W5, (Instr.endRound l none).run P (W2.setCell ⟨bm, 0, none⟩ (.int .i64 v)) = .ok (.bool true) W5 ∧ Upd [bm, l] W W5 ∧ DpJ bm D l { state := .ready, pending := none, fn, tmps, params := ps, assign, body, defers := D' } (pre ++ [y]) W5 := by
  have hs : (W2.setCell ⟨bm, 0, none⟩ (.int .i64 v)).heap.size = W2.heap.size := by simp [World.setCell]
  obtain ⟨W5, hend, hl5, hu5⟩ := end_round (P := P) ((Below.heap_setCell W2 ⟨bm, 0, none⟩ (.int .i64 v) l (Ne.symm hbl)).trans hl2)
  refine ⟨W5, hend, ?_, ?_, ?_, hl5, ?_⟩
  · exact ((hu2.mono (fun z hz _ => by simp at hz ⊢; exact .inr hz)).setCell (fun _ => by simp) _).step hu5 (fun z hz _ => by simp at hz ⊢; exact .inr hz)
  · rw [hu5.cells bm 0 (by rw [hs]; exact cell_lt hc) (by simp; exact hbl), World.cell?_setCell_same' _ _ _ (by rw [hc]; rfl), hv]
  · rw [hu5.frozens bm 0 (by rw [hs]; exact cell_lt hc) (by simp; exact hbl), World.frozen?_setCell]; exact hf
  · have h2 := (hu2.block D (lt_of_block hdf) (by simp; exact Ne.symm hlD)).trans hdf
    rw [hu5.block D (by rw [hs]; exact lt_of_block h2) (by simp; exact Ne.symm hlD), Below.heap_setCell _ _ _ _ (by show D ≠ bm; exact Ne.symm hbD)]
    exact h2
set_option maxRecDepth 100000 in
set_option maxHeartbeats 4000000 in
theorem depth_any (W0 : World) (e : ET) (cs : List Value) (hr : ExpR W0 e cs) (w : World) (hB : Below W0.heap.size W0 w) (hk : Kinds w) :
    Calls Tryz.prog 4 #[.agg cs.toArray] w fun en w' => en = .returned (DepV e) ∧ Below w.heap.size w w' := by
  have hc := checkExp_any W0 e cs hr
  obtain ⟨v, rfl, a, cap, rfl⟩ := hr.four
  have HC := Lib.hid hc; clear hc
  have HB := Lib.hid hB; clear hB
  have HK := Lib.hid hk; clear hk
  have hz := HB.out.size
  cases hf : formB e with
  | false =>
    have HF := Lib.hid hf; clear hf
    unfold DepV
    rw [HF.out]
    go_enter Tryz.func4, Tryz.ntmps4
    go_wp2_with (go_at_call 6; refine (HC.out _ (by exact HB.out.alloc hz _) (HK.out.upd (Upd.ofBelow [] ((Below.refl _ w).alloc (Nat.le_refl _) _)) (by simp))).mono ?_; rintro e1 w1 ⟨rfl, hu⟩; rw [HF.out]; have HU := Lib.hid hu; clear hu)
    go_ret2
    exact ⟨rfl, ((Below.refl _ _).alloc (Nat.le_refl _) _).trans (HU.out.mono (by simp))⟩
  | true =>
    have hdp := form_deep e hf
    have HF := Lib.hid hf; clear hf
    unfold DepV
    rw [HF.out]
    refine calls_of_wpAt Tryz.func4 rfl ?_
    simp only [Tryz.ntmps4, List.size_toArray, List.length_cons, List.length_nil, Nat.reduceAdd, Nat.reduceSub, Array.replicate_succ, Array.replicate_zero, List.push_toArray, List.append_toArray, List.nil_append, List.cons_append]
    have hfw : ∀ f, Fence.wide.fn f := fun _ => trivial
    have hdw : Fence.wide.depth.isSome = false := rfl
    refine wpAt_seq (wpAt_of_wpIn 0 ?_)
    gi_wp2_with fail
    refine wpAt_seq (wpAt_of_wpIn 0 ?_)
    gi_wp2_with (gi_at_call 6; refine (callsIn_wide.2 (HC.out _ (by exact HB.out.alloc hz _) (HK.out.upd (Upd.ofBelow [] ((Below.refl _ w).alloc (Nat.le_refl _) _)) (by simp)))).mono ?_; rintro e1 w1 ⟨rfl, hu⟩; rw [HF.out]; have HU := Lib.hid hu; clear hu)
    have hw1 : Below (w.heap.size + 1) (w.alloc (.cells #[.int .i64 e.op, .int .i64 e.n, .string e.text, .slice a e.kids.length cap] 25)) w1 := by simpa using HU.out
    have c0 : w1.cell? ⟨w.heap.size, 0, none⟩ = some (.int .i64 e.op) := (hw1.cell (p := ⟨w.heap.size, 0, none⟩) (by show w.heap.size < _; omega)).trans (by simp)
    have c1 : w1.cell? ⟨w.heap.size, 1, none⟩ = some (.int .i64 e.n) := (hw1.cell (p := ⟨w.heap.size, 1, none⟩) (by show w.heap.size < _; omega)).trans (by simp)
    have c2 : w1.cell? ⟨w.heap.size, 2, none⟩ = some (.string e.text) := (hw1.cell (p := ⟨w.heap.size, 2, none⟩) (by show w.heap.size < _; omega)).trans (by simp)
    have c3 : w1.cell? ⟨w.heap.size, 3, none⟩ = some (.slice a e.kids.length cap) := (hw1.cell (p := ⟨w.heap.size, 3, none⟩) (by show w.heap.size < _; omega)).trans (by simp)
    have hsz1 : w.heap.size < w1.heap.size := cell_lt c0
    have HW1 := Lib.hid hw1; clear hw1 HU
    refine wpAt_seq (wpAt_of_wpIn 0 ?_)
    gi_wp2_with fail
    refine wpAt_seq ?_
    refine wpAt_seq (wpAt_of_wpIn 0 ?_)
    gi_wp2_with (gi_at_call 11; refine (callsIn_wide.2 (nodes_any _ _ ⟨_, rfl⟩)).mono ?_; rintro e w2 ⟨rfl, rfl⟩)
    refine wpAt_block ?_
    have hb1 : Below w.heap.size w w1 := ((Below.refl _ w).alloc (Nat.le_refl _) _).trans (HW1.out.mono (by omega))
    have hsz : ((w1.alloc (.cells #[.int .i64 0] 3)).alloc (.cells #[ifE [.int .i64 e.op, .int .i64 e.n, .string e.text, .slice a e.kids.length cap]] 43)).heap.size = w1.heap.size + 2 := by simp
    refine range_nodes W0 e _ hr (w1.heap.size + 1) rfl (by exact ((HB.out.trans (hb1.mono hz)).alloc (by omega) _).alloc (by simp; omega) _) (by rw [World.cell?_alloc_at _ _ _ _ (by simp)]; rfl) [w1.heap.size, w1.heap.size + 3] (fun _ _ => true)
      (fun r => DpJ w1.heap.size (w1.heap.size + 2) (w1.heap.size + 3) r) (fun d e => d + (deepE e : Int) ≤ 14) (by omega) (by intro b hb; simp at hb ⊢; omega) ?HR (DpJ.start _ _ _ _ _) ?hn ?hp
    case hp =>
      intro W' hu hgd
      have : ∀ (l pre : List (Int × ET)), goodAll (fun _ _ => true) pre l = true := by intro l; induction l with | nil => intro _; rfl | cons y l ih => intro pre; simp [goodAll, ih]
      rw [this] at hgd; cases hgd
    case hn =>
      intro W' W6 hu hgd hj hu6
      rw [hsz] at hu6
      have hpm := hj.most
      rw [maxD_E 1 (by omega)] at hpm
      have hm6 : W6.cell? ⟨w1.heap.size, 0, none⟩ = some (.int .i64 (deepE e)) := by rw [hu6.cells _ 0 (cell_lt hpm) (by simp; try omega), hpm]; congr 2; omega
      have hd6 := (hu6.block _ (lt_of_block hj.def_) (by simp)).trans hj.def_
      have hbw : Upd [w1.heap.size, w1.heap.size + 3] w1 W6 := (Upd.step (L := [w1.heap.size, w1.heap.size + 3]) ((((Upd.refl _ w1).alloc _).alloc _).alloc _ |>.alloc _) hu (fun _ h _ => h)).step hu6 (fun z hz _ => by simp at hz ⊢; omega)
      have HBW := Lib.hid hbw; clear hbw
      have HD6 := Lib.hid hd6; clear hd6
      refine wpAt_of_wpIn 0 ?_
      clear c0 c1 c2 c3
      gi_wp2_with fail
      refine ⟨by simp, .inl ⟨_, _, rfl, run_takeDeferred HD6.out, ?_⟩⟩
      refine ⟨_, results_tmp2 rfl _ _ _, rfl, ?_⟩
      exact hb1.trans ((Fs.Upd.putObj HBW.out (fun h => by omega) _).below w.heap.size (by omega) (by intro z hz; simp at hz; omega))
    case HR =>
      refine ⟨rfl, by intro b hb; have := HB.out.size; simp at hb; omega, fun pre W h => by rw [hsz]; exact h.rec_, fun _ _ _ h hb => h.keep hb, fun pre d x W h _ => by omega, fun d op n t ks k x h hx => by have := deep_kid ks k x hx; simp only [deepE] at h; omega, ?_⟩
      intro n pre d x cs' W hd1 hd2 _ hx hBW hJ
      obtain ⟨v, rfl, a', cap', rfl⟩ := hx.four
      refine roundIn_of_wpInP trivial ⟨_, Tryz.func4⟩ ?_
      simp only [rt]
      rw [hsz]
      obtain ⟨h_most, h_free, h_rec, h_def⟩ := hJ
      obtain ⟨W2, hrun, hl2, hu2⟩ := begin_round (P := Tryz.prog) h_rec rfl
      have c_most := (hu2.cells _ 0 (cell_lt h_most) (by simp)).trans h_most
      have c_free := (hu2.frozens _ 0 (cell_lt h_most) (by simp)).trans h_free
      have hbm := cell_lt c_most
      have hmp := maxD_pos pre
      have hmx : maxD (pre ++ [(d, x)]) = max (maxD pre) d := by rw [maxD_append]; simp only [maxD]; omega
      have HMX := Lib.hid hmx; clear hmx
      have HU2 := Lib.hid hu2; clear hu2
      have HL2 := Lib.hid hl2; clear hl2
      have HRN := Lib.hid hrun; clear hrun
      have HDF := Lib.hid h_def; clear h_def
      clear h_rec h_most h_free c0 c1 c2 c3
      gi_wp2_with (rw [Oper.semAt_eq _ _ _ (fun c h => by cases h)]; go_simp; try go_bits)
      refine ⟨W2, HRN.out, ?_⟩
      gi_wp2_with (rw [Oper.semAt_eq _ _ _ (fun c h => by cases h)]; go_simp; try go_bits)
      all_goals first
        | (obtain ⟨W5, hend, hu5, hj5⟩ := DpJ.round (P := Tryz.prog) (v := d) (bm := w1.heap.size) (D := w1.heap.size + 2) (l := w1.heap.size + 3) (pre := pre) (y := (d, x)) (by omega) (by omega) (by omega) (by rw [HMX.out]; omega) HU2.out HL2.out c_most c_free HDF.out; exact ⟨_, W5, hend, hu5, .inl ⟨rfl, rfl, hj5⟩⟩)
        | (obtain ⟨W5, hend, hu5, hj5⟩ := DpJ.round (P := Tryz.prog) (v := maxD pre) (bm := w1.heap.size) (D := w1.heap.size + 2) (l := w1.heap.size + 3) (pre := pre) (y := (d, x)) (by omega) (by omega) (by omega) (by rw [HMX.out]; omega) HU2.out HL2.out c_most c_free HDF.out; exact ⟨_, W5, hend, hu5, .inl ⟨rfl, rfl, hj5⟩⟩)
end Go.Proofs.YtnipdjkopmjoeaaGreatDoor
