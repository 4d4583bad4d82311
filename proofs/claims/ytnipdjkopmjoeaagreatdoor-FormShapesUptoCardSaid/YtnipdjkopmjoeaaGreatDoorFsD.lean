/-
  The program on facts: its walk of all nodes and CheckFact; arguments read as trees. No condition but what the table of kinds holds.
-/
import Derived.Test.YtnipdjkopmjoeaaGreatDoorFsC
import Derived.Laws.EntriesVeiled
import Derived.StillTailTactics
import Derived.ChangeArms
import Derived.SliceStrings
import Derived.OpenShut
namespace Go.Proofs.YtnipdjkopmjoeaaGreatDoor
open Go.ChangeShapes Go.WideShapes Go.ChangeAt Go.RowKit Go.Fs
/-- six cells read as a fact -/
inductive FctR (W : World) : FT → List Value → Prop
  | none (op n : Int) (s c : ByteArray) (path : List ByteArray) (pv : Value) (a : Option Addr) (cap : Nat) (h1 : -9223372036854775808 ≤ op ∧ op ≤ 9223372036854775807) (h2 : -9223372036854775808 ≤ n ∧ n ≤ 9223372036854775807) (h3 : s.size ≤ maxLen) (h3' : c.size ≤ maxLen)
      (hp : SlR W pv path) (hp1 : path.length ≤ maxLen) (hp2 : ∀ x ∈ path, x.size ≤ maxLen) :
      FctR W (.mk op s path c n []) [.int .i64 op, .string s, pv, .string c, .int .i64 n, .slice a 0 cap]
  | some (op n : Int) (s c : ByteArray) (path : List ByteArray) (pv : Value) (ks : List FT) (b off cap : Nat) (cs : Nat → List Value) (h1 : -9223372036854775808 ≤ op ∧ op ≤ 9223372036854775807) (h2 : -9223372036854775808 ≤ n ∧ n ≤ 9223372036854775807) (h3 : s.size ≤ maxLen) (h3' : c.size ≤ maxLen)
      (hp : SlR W pv path) (hp1 : path.length ≤ maxLen) (hp2 : ∀ x ∈ path, x.size ≤ maxLen)
      (h4 : ks.length ≤ maxLen) (h5 : 0 < ks.length) (hb : b < W.heap.size) (hc : ∀ i, i < ks.length → At W b (off + i * 6) (cs i)) (hk : ∀ i k, ks[i]? = some k → FctR W k (cs i)) :
      FctR W (.mk op s path c n ks) [.int .i64 op, .string s, pv, .string c, .int .i64 n, .slice (some ⟨b, off, Option.none⟩) ks.length cap]
def FT.op : FT → Int | .mk o _ _ _ _ _ => o
def FT.name : FT → ByteArray | .mk _ s _ _ _ _ => s
def FT.path : FT → List ByteArray | .mk _ _ p _ _ _ => p
def FT.cls : FT → ByteArray | .mk _ _ _ c _ _ => c
def FT.n : FT → Int | .mk _ _ _ _ n _ => n
def FT.kids : FT → List FT | .mk _ _ _ _ _ k => k
/-- what the walks want to know of a fact's own parts -/
structure FOwn (W : World) (f : FT) (pv : Value) : Prop where
  n : -9223372036854775808 ≤ FT.n f ∧ FT.n f ≤ 9223372036854775807
  s : (FT.name f).size ≤ maxLen
  c : (FT.cls f).size ≤ maxLen
  p : SlR W pv (FT.path f)
  p1 : (FT.path f).length ≤ maxLen
  p2 : ∀ x ∈ FT.path f, x.size ≤ maxLen
theorem FctR.six {W : World} {f : FT} {cs : List Value} (h : FctR W f cs) : ∃ pv v, cs = [.int .i64 (FT.op f), .string (FT.name f), pv, .string (FT.cls f), .int .i64 (FT.n f), v] ∧ FOwn W f pv ∧ ∃ a cap, v = .slice a (FT.kids f).length cap := by
  cases h with
  | none op n s c path pv a cap h1 h2 h3 h3' hp hp1 hp2 => exact ⟨_, _, rfl, ⟨h2, h3, h3', hp, hp1, hp2⟩, _, _, rfl⟩
  | some op n s c path pv ks b off cap cs h1 h2 h3 h3' hp hp1 hp2 h4 h5 hb hc hk => exact ⟨_, _, rfl, ⟨h2, h3, h3', hp, hp1, hp2⟩, _, _, rfl⟩
def KidF (W : World) (a : Option Addr) (C : FT → List Value → World → Prop) (k : Nat) (x : FT) : Prop :=
  ∃ b off cs, a = some ⟨b, off, none⟩ ∧ b < W.heap.size ∧ At W b (off + k * 6) cs ∧ FctR W x cs ∧ C x cs W
mutual
/-- the nodes of an expression with their depths, in order -/
def preF (d : Int) : FT → List (Int × FT) | .mk o s p c n ks => (d, .mk o s p c n ks) :: preFL (d + 1) ks
def preFL (d : Int) : List FT → List (Int × FT) | [] => [] | k :: ks => preF d k ++ preFL d ks
end
theorem preFL_append (d : Int) : ∀ (a b : List FT), preFL d (a ++ b) = preFL d a ++ preFL d b
  | [], b => rfl
  | x :: a, b => by simp [preFL, preFL_append d a b]
theorem preFL_take (d : Int) (l : List FT) (k : Nat) (x : FT) (h : l[k]? = some x) : preFL d (l.take (k + 1)) = preFL d (l.take k) ++ preF d x := by
  rw [take_snoc l k x h, preFL_append]; simp [preFL]
/-- do all rounds go through? -/
def goodAllF (good : List (Int × FT) → (Int × FT) → Bool) (pre : List (Int × FT)) : List (Int × FT) → Bool
  | [] => true
  | y :: ys => good pre y && goodAllF good (pre ++ [y]) ys
theorem goodAllF_append (good : List (Int × FT) → (Int × FT) → Bool) : ∀ (a pre b : List (Int × FT)), goodAllF good pre (a ++ b) = (goodAllF good pre a && goodAllF good (pre ++ a) b)
  | [], pre, b => by simp [goodAllF]
  | x :: a, pre, b => by simp [goodAllF, goodAllF_append good a, Bool.and_assoc]
theorem good_kidF (good : List (Int × FT) → (Int × FT) → Bool) (pre : List (Int × FT)) (d : Int) (ks : List FT) (k : Nat) (x : FT) (hx : ks[k]? = some x) (h : goodAllF good pre (preFL d (ks.take k)) = true) (h2 : goodAllF good (pre ++ preFL d (ks.take k)) (preF d x) = true) : goodAllF good pre (preFL d (ks.take (k + 1))) = true := by
  rw [preFL_take d ks k x hx, goodAllF_append, h, h2]; rfl
theorem good_stopF (good : List (Int × FT) → (Int × FT) → Bool) (pre : List (Int × FT)) (d : Int) (ks : List FT) (k : Nat) (x : FT) (hx : ks[k]? = some x) (h2 : goodAllF good (pre ++ preFL d (ks.take k)) (preF d x) = false) : goodAllF good pre (preFL d ks) = false := by
  rw [take_split ks k x hx, preFL_append, goodAllF_append]
  simp only [preFL]
  rw [goodAllF_append, h2]; simp
abbrev ifF (cs : List Value) : Value := .iface 50 (.agg cs.toArray)
def WkPF (M : List Nat) (J : List (Int × FT) → World → Prop) (b : Bool) (pre : List (Int × FT)) (W : World) (e : Ending) (W' : World) : Prop :=
  Upd M W W' ∧ ((b = true ∧ e = .returned (.bool true) ∧ J pre W') ∨ (b = false ∧ e = pe))
/-- what the rounds of a loop over the nodes of an expression promise -/
structure RoundsF (W0 : World) (l : Nat) (r : Loop) (M : List Nat) (good : List (Int × FT) → (Int × FT) → Bool) (J : List (Int × FT) → World → Prop) (Rng : Int → FT → Prop) : Prop where
  params : r.params.size = 2
  old : ∀ b ∈ M, W0.heap.size ≤ b
  rec_ : ∀ pre W, J pre W → W.heap[l]? = some (.loop r)
  keep : ∀ pre W W', J pre W → Below W.heap.size W W' → J pre W'
  deep : ∀ pre d x W, Rng d x → J (pre ++ [(d, x)]) W → d ≤ 1000
  inh : ∀ d op s path c n ks (k : Nat) x, Rng d (.mk op s path c n ks) → ks[k]? = some x → Rng (d + 1) x
  round : ∀ (n : Nat) pre (d : Int) x cs W, 1 ≤ d → d ≤ 1001 → Rng d x → FctR W0 x cs → Below W0.heap.size W0 W → J pre W →
    RoundIn Fence.wide n Tryz.prog l r.fn (rt r #[ifF cs, .int .i64 d]) r.assign r.body W fun e W' => WkPF M J (good pre (d, x)) (pre ++ [(d, x)]) W e W'
/-- the two variables that walk captures -/
structure CapsF (l cy cw : Nat) (W : World) : Prop where
  y : W.cell? ⟨cy, 0, none⟩ = some (.func (.yield l) #[] #[])
  w : W.cell? ⟨cw, 0, none⟩ = some (.func (.func 36) #[] #[.pointer (some ⟨cy, 0, none⟩), .pointer (some ⟨cw, 0, none⟩)])
def WkCF (W0 : World) (l : Nat) (M : List Nat) (good : List (Int × FT) → (Int × FT) → Bool) (J : List (Int × FT) → World → Prop) (Rng : Int → FT → Prop) (cy cw : Nat) (e : FT) (cs : List Value) : Prop :=
  ∀ (n : Nat) pre (d : Int) W, 1 ≤ d → d ≤ 1001 → Rng d e → Below W0.heap.size W0 W → J pre W → CapsF l cy cw W →
    CallsIn Fence.wide n Tryz.prog 36 #[ifF cs, .int .i64 d, .pointer (some ⟨cy, 0, none⟩), .pointer (some ⟨cw, 0, none⟩)] W (WkPF M J (goodAllF good pre (preF d e)) (pre ++ preF d e) W)
theorem meth_sizeF (v : Value) (w : World) : (method 290 50 v "consort/shape.size").run Tryz.prog w = .ok (122, v) w := by kernel_rfl
theorem meth_atF (v : Value) (w : World) : (method 290 50 v "consort/shape.at").run Tryz.prog w = .ok (121, v) w := by kernel_rfl
theorem size_anyF (op n : Int) (s c : ByteArray) (pv : Value) (a : Option Addr) (len cap : Nat) (w : World) : Calls Tryz.prog 122 #[.agg #[.int .i64 op, .string s, pv, .string c, .int .i64 n, .slice a len cap]] w fun e w' => e = .returned (.int .i64 len) ∧ Below w.heap.size w w' := by
  go_enter Tryz.func122, Tryz.ntmps122
  go_wp2
  go_ret
  exact ⟨rfl, (Below.refl _ _).alloc (Nat.le_refl _) _⟩
set_option maxRecDepth 100000 in
set_option maxHeartbeats 2000000 in
theorem at_anyF (op n : Int) (s c : ByteArray) (pv : Value) (b off len cap : Nat) (w : World) (k : Nat) (hk : k < len) (_hl : (len : Int) ≤ 9223372036854775807) (hb : b < w.heap.size) (x : FT) (pv' : Value) (a' : Option Addr) (cap' : Nat)
    (q0 : w.cell? ⟨b, off + k * 6, none⟩ = some (.int .i64 (FT.op x))) (q1 : w.cell? ⟨b, off + k * 6 + 1, none⟩ = some (.string (FT.name x))) (q2 : w.cell? ⟨b, off + k * 6 + 2, none⟩ = some pv') (q3 : w.cell? ⟨b, off + k * 6 + 3, none⟩ = some (.string (FT.cls x))) (q4 : w.cell? ⟨b, off + k * 6 + 4, none⟩ = some (.int .i64 (FT.n x))) (q5 : w.cell? ⟨b, off + k * 6 + 5, none⟩ = some (.slice a' (FT.kids x).length cap')) :
    Calls Tryz.prog 121 #[.agg #[.int .i64 op, .string s, pv, .string c, .int .i64 n, .slice (some ⟨b, off, none⟩) len cap], .int .i64 k] w fun e w' => e = .returned (ifF [.int .i64 (FT.op x), .string (FT.name x), pv', .string (FT.cls x), .int .i64 (FT.n x), .slice a' (FT.kids x).length cap']) ∧ Below w.heap.size w w' := by
  go_enter Tryz.func121, Tryz.ntmps121
  go_wp2
  go_ret
  exact ⟨rfl, (Below.refl _ _).alloc (Nat.le_refl _) _⟩
def WkRelF (W : World) (M : List Nat) (good : List (Int × FT) → (Int × FT) → Bool) (J : List (Int × FT) → World → Prop) (pre : List (Int × FT)) (d : Int) (ks : List FT) (i : Value) (wr : World) : Prop :=
  ∃ k : Nat, k ≤ ks.length ∧ i = .int .i64 k ∧ J (pre ++ preFL (d + 1) (ks.take k)) wr ∧ goodAllF good pre (preFL (d + 1) (ks.take k)) = true ∧ Upd M W wr
set_option maxRecDepth 100000 in
set_option maxHeartbeats 4000000 in
theorem walk_stepF (W0 : World) (l : Nat) (r : Loop) (M : List Nat) (good : List (Int × FT) → (Int × FT) → Bool) (J : List (Int × FT) → World → Prop) (Rng : Int → FT → Prop) (HR : RoundsF W0 l r M good J Rng) (cy cw : Nat) (hcy : cy ∉ M) (hcw : cw ∉ M)
    (op n : Int) (s c : ByteArray) (path : List ByteArray) (pv : Value) (ks : List FT) (a : Option Addr) (cap : Nat) (h4' : (ks.length : Int) ≤ 9223372036854775807)
    (hx0 : FctR W0 (.mk op s path c n ks) [.int .i64 op, .string s, pv, .string c, .int .i64 n, .slice a ks.length cap])
    (hk : ∀ k x, ks[k]? = some x → KidF W0 a (fun e cs _ => WkCF W0 l M good J Rng cy cw e cs) k x) : WkCF W0 l M good J Rng cy cw (.mk op s path c n ks) [.int .i64 op, .string s, pv, .string c, .int .i64 n, .slice a ks.length cap] := by
  intro m pre d W hd1 hd2 hrg hB hJ hcap
  have HK := Lib.hid hk; clear hk
  have hrec := HR.rec_ pre W hJ
  have hy : (Instr.yield l #[ifF [.int .i64 op, .string s, pv, .string c, .int .i64 n, .slice a ks.length cap], .int .i64 d]).run Tryz.prog W = .ok (.round l r.fn (rt r #[ifF [.int .i64 op, .string s, pv, .string c, .int .i64 n, .slice a ks.length cap], .int .i64 d]) r.assign r.body) W := run_yield (P := Tryz.prog) hrec (by rw [HR.params]; rfl)
  have hrd := HR.round (m - 1) pre d _ _ W hd1 hd2 hrg hx0 hB hJ
  obtain ⟨hc1, hc2⟩ := hcap
  refine callsIn_of_wp Tryz.func36 rfl trivial ?_ rfl
  simp only [Tryz.ntmps36, List.size_toArray, List.length_cons, List.length_nil, Nat.reduceAdd, Nat.reduceSub, Array.replicate_succ, Array.replicate_zero, List.push_toArray, List.append_toArray, List.nil_append, List.cons_append]
  have HRD := Lib.hid hrd; clear hrd
  clear hrec
  have hfw : ∀ f, Fence.wide.fn f := fun _ => trivial
  have hdw : Fence.wide.depth.isSome = false := rfl
  cases hg1 : good pre (d, .mk op s path c n ks) with
  | false =>
    have HG1 := Lib.hid hg1; clear hg1
    gi_wp2_with fail
    refine HRD.out.mono ?_
    rintro e1 W1 ⟨hu, ⟨hb, -, -⟩ | ⟨-, rfl⟩⟩
    · rw [HG1.out] at hb; cases hb
    · exact ⟨rfl, hu, .inr ⟨by simp only [preF, goodAllF]; rw [HG1.out]; rfl, rfl⟩⟩
  | true =>
    have HG1 := Lib.hid hg1; clear hg1
    gi_wp2_with fail
    refine HRD.out.mono ?_
    rintro e1 W1 ⟨hu, ⟨-, rfl, hj⟩ | ⟨hb, -⟩⟩
    rotate_left
    · rw [HG1.out] at hb; cases hb
    have hdd := HR.deep _ _ _ _ hrg hj
    have hcy1 := (hu.cells cy 0 (cell_lt hc1) hcy).trans hc1
    have hcw1 := (hu.cells cw 0 (cell_lt hc2) hcw).trans hc2
    have HJ := Lib.hid hj; clear hj
    have HU := Lib.hid hu; clear hu
    clear hy HRD
    have hms := meth_sizeF
    have hma := meth_atF
    gi_wp2_with (gi_at_call 122; refine (callsIn_wide.2 (size_anyF op n s c pv a ks.length cap _)).mono ?_; rintro e w2 ⟨rfl, hb2⟩; have HB2 := Lib.hid hb2; clear hb2)
    gi_loopw [15] (fun i wr => WkRelF W M good J (pre ++ [(d, .mk op s path c n ks)]) d ks i wr) (fun i _ => ks.length - (intOf i).toNat)
    case atStart =>
      exact ⟨0, Nat.zero_le _, rfl, by simp only [List.take_zero, preFL, List.append_nil]; exact HR.keep _ _ _ HJ.out HB2.out, rfl, HU.out.step (Upd.ofBelow [] HB2.out) (fun _ h => by cases h)⟩
    case round =>
      obtain ⟨k, hkl, rfl, hj, hgo, hup⟩ := hrel
      have hBW : Below W0.heap.size W0 wr := hB.trans (hup.below W0.heap.size hB.size HR.old)
      have hcy2 := (hup.cells cy 0 (cell_lt hc1) hcy).trans hc1
      have hcw2 := (hup.cells cw 0 (cell_lt hc2) hcw).trans hc2
      have HJ2 := Lib.hid hj; clear hj
      have HGO := Lib.hid hgo; clear hgo
      have HUP := Lib.hid hup; clear hup
      by_cases hlt : k < ks.length
      · obtain ⟨x, hx⟩ : ∃ x, ks[k]? = some x := ⟨ks[k], List.getElem?_eq_getElem hlt⟩
        obtain ⟨b, off, cs, ha, hb, hat, hxr, ih⟩ := HK.out k x hx
        subst ha
        have hbr : b < wr.heap.size := Nat.lt_of_lt_of_le hb hBW.size
        obtain ⟨pv', v, rfl, _, a', cap', rfl⟩ := hxr.six
        have q0 : wr.cell? ⟨b, off + k * 6, none⟩ = some (.int .i64 (FT.op x)) := (hBW.cell (p := ⟨b, off + k * 6, none⟩) hb).trans (by simpa using hat 0 _ rfl)
        have q1 : wr.cell? ⟨b, off + k * 6 + 1, none⟩ = some (.string (FT.name x)) := (hBW.cell (p := ⟨b, off + k * 6 + 1, none⟩) hb).trans (by simpa using hat 1 _ rfl)
        have q2 : wr.cell? ⟨b, off + k * 6 + 2, none⟩ = some pv' := (hBW.cell (p := ⟨b, off + k * 6 + 2, none⟩) hb).trans (by simpa using hat 2 _ rfl)
        have q3 : wr.cell? ⟨b, off + k * 6 + 3, none⟩ = some (.string (FT.cls x)) := (hBW.cell (p := ⟨b, off + k * 6 + 3, none⟩) hb).trans (by simpa using hat 3 _ rfl)
        have q4 : wr.cell? ⟨b, off + k * 6 + 4, none⟩ = some (.int .i64 (FT.n x)) := (hBW.cell (p := ⟨b, off + k * 6 + 4, none⟩) hb).trans (by simpa using hat 4 _ rfl)
        have q5 : wr.cell? ⟨b, off + k * 6 + 5, none⟩ = some (.slice a' (FT.kids x).length cap') := (hBW.cell (p := ⟨b, off + k * 6 + 5, none⟩) hb).trans (by simpa using hat 5 _ rfl)
        have hat' : ∀ w, Below wr.heap.size wr w → Calls Tryz.prog 121 #[.agg #[.int .i64 op, .string s, pv, .string c, .int .i64 n, .slice (some ⟨b, off, none⟩) ks.length cap], .int .i64 k] w fun e w' => e = .returned (ifF [.int .i64 (FT.op x), .string (FT.name x), pv', .string (FT.cls x), .int .i64 (FT.n x), .slice a' (FT.kids x).length cap']) ∧ Below w.heap.size w w' := fun w hw =>
          at_anyF op n s c pv b off ks.length cap w k hlt h4' (Nat.lt_of_lt_of_le hbr hw.size) x pv' a' cap' ((hw.cell (p := ⟨b, off + k * 6, none⟩) hbr).trans q0) ((hw.cell (p := ⟨b, off + k * 6 + 1, none⟩) hbr).trans q1) ((hw.cell (p := ⟨b, off + k * 6 + 2, none⟩) hbr).trans q2) ((hw.cell (p := ⟨b, off + k * 6 + 3, none⟩) hbr).trans q3) ((hw.cell (p := ⟨b, off + k * 6 + 4, none⟩) hbr).trans q4) ((hw.cell (p := ⟨b, off + k * 6 + 5, none⟩) hbr).trans q5)
        have IH := Lib.hid ih; clear ih
        have HRG := Lib.hid (HR.inh d op s path c n ks k x hrg hx)
        have HX := Lib.hid hx; clear hx
        have HAT := Lib.hid hat'; clear hat'
        have HBWr := Lib.hid hBW; clear hBW hat hxr q0 q1 q2 q3 q4 q5
        have hsum : IntKind.i64.wrap (d + 1) = d + 1 := IntWalk.i64_in _ (by omega)
        cases hgk : goodAllF good (pre ++ [(d, .mk op s path c n ks)] ++ preFL (d + 1) (ks.take k)) (preF (d + 1) x) with
        | true =>
          have HGK := Lib.hid hgk; clear hgk
          gi_wp2_with fail
          refine wpIn_wide.2 ?_
          go_region_held3 (fun w' => w'.cell? ⟨cw, 0, none⟩ = some (.func (.func 36) #[] #[.pointer (some ⟨cy, 0, none⟩), .pointer (some ⟨cw, 0, none⟩)])) (first | (simp [go_sem, *]; done))
            (first
              | (go_at_call 121; refine (HAT.out _ (by exact (Below.refl _ _).drew)).mono ?_; rintro e w3 ⟨rfl, hb3⟩; have HB3 : Hid (Below wr.heap.size wr w3) := (show Below wr.heap.size wr w3 from ((Below.refl _ wr).drew).trans hb3); have hcw3 := (HB3.out.cell (p := ⟨cw, 0, none⟩) (cell_lt hcw2)).trans hcw2; clear hb3)
              | (go_at_call 36; refine (callsIn_wide.1 (IH.out 0 (pre ++ [(d, .mk op s path c n ks)] ++ preFL (d + 1) (ks.take k)) (d + 1) _ (by omega) (by omega) HRG.out (by exact HBWr.out.trans (HB3.out.mono HBWr.out.size)) (by exact HR.keep _ _ _ HJ2.out HB3.out) (by exact ⟨(HB3.out.cell (p := ⟨cy, 0, none⟩) (cell_lt hcy2)).trans hcy2, hcw3⟩))).mono ?_; (rintro e w4 ⟨hu4, ⟨-, rfl, hj4⟩ | ⟨hb4, -⟩⟩; rotate_left; (rw [HGK.out] at hb4; cases hb4); have hcw4 := (hu4.cells cw 0 (cell_lt hcw3) hcw).trans hcw3; have HU4 := Lib.hid hu4; have HJ4 := Lib.hid hj4; clear hu4 hj4)))
          gi_wp2_with fail
          refine ⟨⟨k + 1, by omega, by go_num, ?_, good_kidF good _ (d + 1) ks k x HX.out HGO.out HGK.out, (HUP.out.step (Upd.ofBelow [] HB3.out) (fun _ h => by cases h)).trans HU4.out⟩, by simp [intOf]; omega⟩
          have hj4 := HJ4.out
          rw [preFL_take (d + 1) ks k x HX.out, ← List.append_assoc]
          exact hj4
        | false =>
          have HGK := Lib.hid hgk; clear hgk
          gi_wp2_with fail
          refine wpIn_wide.2 ?_
          refine wp_region_any (by kernel_rfl) ?_
          refine wpAny_take (i := 1) rfl (by kernel_rfl) (by kernel_rfl) (by kernel_rfl) (fun _ _ _ h => h) (.inl ⟨rfl, fun _ => rfl⟩) ?_
          refine wpAny_take (i := 2) rfl (by kernel_rfl) (by kernel_rfl) (by kernel_rfl) (fun _ _ _ h => h) (.inl ⟨rfl, fun _ => rfl⟩) ?_
          refine wpAny_take (i := 4) rfl (by kernel_rfl) (by kernel_rfl) (by kernel_rfl) (fun _ _ _ h => h) (.inl ⟨rfl, fun _ => rfl⟩) ?_
          refine wpAny_take (i := 5) rfl (by kernel_rfl) (by kernel_rfl) (by kernel_rfl) (fun _ _ _ h => h) (.inl ⟨rfl, fun _ => rfl⟩) ?_
          refine wpAny_ready (rs := [0, 3]) (by kernel_rfl) (by simp) (AllReady.cons rfl (fun K1 hK1 => ?_) (AllReady.cons rfl (fun K1 hK1 => ?_) AllReady.nil))
          · go_simp
            refine hK1 _ _ ?_
            refine wpAny_ready (rs := [3]) (by kernel_rfl) (by simp) (AllReady.cons rfl (fun K2 hK2 => ?_) AllReady.nil)
            go_simp
            refine (HAT.out _ (by exact (Below.refl _ _).drew)).mono ?_
            rintro e w3 ⟨rfl, hb3⟩
            have HB3 : Hid (Below wr.heap.size wr w3) := (show Below wr.heap.size wr w3 from ((Below.refl _ wr).drew).trans hb3)
            have hcw3 := (HB3.out.cell (p := ⟨cw, 0, none⟩) (cell_lt hcw2)).trans hcw2
            clear hb3
            go_simp
            refine hK2 _ _ ?_
            refine wpAny_ready (rs := [6]) (by kernel_rfl) (by simp) (AllReady.cons rfl (fun K3 hK3 => ?_) AllReady.nil)
            go_simp
            refine (callsIn_wide.1 (IH.out 0 (pre ++ [(d, .mk op s path c n ks)] ++ preFL (d + 1) (ks.take k)) (d + 1) _ (by omega) (by omega) HRG.out (by exact HBWr.out.trans (HB3.out.mono HBWr.out.size)) (by exact HR.keep _ _ _ HJ2.out HB3.out) (by exact ⟨(HB3.out.cell (p := ⟨cy, 0, none⟩) (cell_lt hcy2)).trans hcy2, hcw3⟩))).mono ?_
            rintro e w4 ⟨hu4, ⟨hb4, -, -⟩ | ⟨-, rfl⟩⟩
            · rw [HGK.out] at hb4; cases hb4
            · exact ⟨rfl, (HUP.out.step (Upd.ofBelow [] HB3.out) (fun _ h => by cases h)).trans hu4, .inr ⟨by simp only [preF, goodAllF]; rw [HG1.out, good_stopF good _ (d + 1) ks k x HX.out HGK.out]; rfl, rfl⟩⟩
          · go_simp
            refine (HAT.out _ (by exact (Below.refl _ _).drew)).mono ?_
            rintro e w3 ⟨rfl, hb3⟩
            have HB3 : Hid (Below wr.heap.size wr w3) := (show Below wr.heap.size wr w3 from ((Below.refl _ wr).drew).trans hb3)
            have hcw3 := (HB3.out.cell (p := ⟨cw, 0, none⟩) (cell_lt hcw2)).trans hcw2
            clear hb3
            go_simp
            refine hK1 _ _ ?_
            refine wpAny_ready (rs := [0]) (by kernel_rfl) (by simp) (AllReady.cons rfl (fun K2 hK2 => ?_) AllReady.nil)
            go_simp
            refine hK2 _ _ ?_
            refine wpAny_ready (rs := [6]) (by kernel_rfl) (by simp) (AllReady.cons rfl (fun K3 hK3 => ?_) AllReady.nil)
            go_simp
            refine (callsIn_wide.1 (IH.out 0 (pre ++ [(d, .mk op s path c n ks)] ++ preFL (d + 1) (ks.take k)) (d + 1) _ (by omega) (by omega) HRG.out (by exact HBWr.out.trans (HB3.out.mono HBWr.out.size)) (by exact HR.keep _ _ _ HJ2.out HB3.out) (by exact ⟨(HB3.out.cell (p := ⟨cy, 0, none⟩) (cell_lt hcy2)).trans hcy2, hcw3⟩))).mono ?_
            rintro e w4 ⟨hu4, ⟨hb4, -, -⟩ | ⟨-, rfl⟩⟩
            · rw [HGK.out] at hb4; cases hb4
            · exact ⟨rfl, (HUP.out.step (Upd.ofBelow [] HB3.out) (fun _ h => by cases h)).trans hu4, .inr ⟨by simp only [preF, goodAllF]; rw [HG1.out, good_stopF good _ (d + 1) ks k x HX.out HGK.out]; rfl, rfl⟩⟩
      · obtain rfl : k = ks.length := by omega
        gi_wp2_with fail
        have hj := HJ2.out
        have hg := HGO.out
        rw [List.take_length] at hj hg
        go_ret
        exact ⟨HUP.out, .inl ⟨by simp only [preF, goodAllF]; rw [HG1.out, hg]; rfl, rfl, by simp only [preF]; rw [show pre ++ (d, FT.mk op s path c n ks) :: preFL (d + 1) ks = pre ++ [(d, .mk op s path c n ks)] ++ preFL (d + 1) ks by simp]; exact hj⟩⟩
end Go.Proofs.YtnipdjkopmjoeaaGreatDoor
namespace Go.Proofs.YtnipdjkopmjoeaaGreatDoor
open Go.ChangeShapes Go.WideShapes Go.ChangeAt Go.RowKit Go.Fs
theorem walk_treeF (W0 : World) (l : Nat) (r : Loop) (M : List Nat) (good : List (Int × FT) → (Int × FT) → Bool) (J : List (Int × FT) → World → Prop) (Rng : Int → FT → Prop) (HR : RoundsF W0 l r M good J Rng) (cy cw : Nat) (hcy : cy ∉ M) (hcw : cw ∉ M)
    (e : FT) (cs : List Value) (hr : FctR W0 e cs) : WkCF W0 l M good J Rng cy cw e cs := by
  induction hr with
  | none op n s c path pv a cap h1 h2 h3 h3' hp hp1 hp2 => exact walk_stepF W0 l r M good J Rng HR cy cw hcy hcw op n s c path pv [] a cap (by simp) (.none op n s c path pv a cap h1 h2 h3 h3' hp hp1 hp2) (fun k x h => by simp at h)
  | some op n s c path pv ks b off cap cs h1 h2 h3 h3' hp hp1 hp2 h4 h5 hb hc hk ih =>
    refine walk_stepF W0 l r M good J Rng HR cy cw hcy hcw op n s c path pv ks (some ⟨b, off, none⟩) cap (by unfold maxLen at h4; omega) (.some op n s c path pv ks b off cap cs h1 h2 h3 h3' hp hp1 hp2 h4 h5 hb hc hk) (fun k x hx => ?_)
    have hlt : k < ks.length := (List.getElem?_eq_some_iff.1 hx).1
    exact ⟨b, off, cs k, rfl, hb, hc k hlt, hk k x hx, ih k x hx⟩
/-- what the call of the iterator comes to -/
def NdPF (M : List Nat) (J : List (Int × FT) → World → Prop) (b : Bool) (pre : List (Int × FT)) (W : World) (e : Ending) (W' : World) : Prop :=
  Upd M W W' ∧ ((b = true ∧ e = rn ∧ J pre W') ∨ (b = false ∧ e = pe))
set_option maxRecDepth 100000 in
set_option maxHeartbeats 4000000 in
theorem nodes1_anyF (W0 : World) (l : Nat) (r : Loop) (M : List Nat) (good : List (Int × FT) → (Int × FT) → Bool) (J : List (Int × FT) → World → Prop) (Rng : Int → FT → Prop) (HR : RoundsF W0 l r M good J Rng)
    (e : FT) (cs : List Value) (hr : FctR W0 e cs) (n cr : Nat) (W : World) (hB : Below W0.heap.size W0 W) (hJ : J [] W) (hcr : W.cell? ⟨cr, 0, none⟩ = some (ifF cs)) (hM : ∀ b ∈ M, b < W.heap.size) (hrg : Rng 1 e) :
    CallsIn Fence.wide n Tryz.prog 35 #[.func (.yield l) #[] #[], .pointer (some ⟨cr, 0, none⟩)] W (NdPF M J (goodAllF good [] (preF 1 e)) (preF 1 e) W) := by
  have hw := walk_treeF W0 l r M good J Rng HR W.heap.size (W.heap.size + 1) (fun h => by have := hM _ h; omega) (fun h => by have := hM _ h; omega) e cs hr
  have HW := Lib.hid hw; clear hw
  have hcl := cell_lt hcr
  have hmf : ∀ (fn : Fn) (first cap : Array Value) (w : World), (Instr.makeFunc fn first cap).run Tryz.prog w = .ok (.func fn first cap) w := fun _ _ _ _ => rfl
  obtain ⟨pv, v, rfl, _, a, cap, rfl⟩ := hr.six
  refine callsIn_of_wp Tryz.func35 rfl trivial ?_ rfl
  simp only [Tryz.ntmps35, List.size_toArray, List.length_cons, List.length_nil, Nat.reduceAdd, Nat.reduceSub, Array.replicate_succ, Array.replicate_zero, List.push_toArray, List.append_toArray, List.nil_append, List.cons_append]
  have hfw : ∀ f, Fence.wide.fn f := fun _ => trivial
  have hdw : Fence.wide.depth.isSome = false := rfl
  gi_wp2_with fail
  refine (HW.out _ [] 1 _ (by omega) (by omega) hrg (by exact (hB.alloc hB.size _).alloc (by have := hB.size; simp; omega) _) (by exact HR.keep _ _ _ hJ (((Below.refl _ _).alloc (Nat.le_refl _) _).alloc (by simp) _)) ⟨by simp, by rw [World.cell?_alloc_at _ _ _ _ (by simp)]; rfl⟩).mono ?_
  rintro e1 W1 ⟨hu, hor⟩
  have hU : Upd M W W1 := ((((Upd.refl M W).alloc _).alloc _).trans hu)
  rcases hor with ⟨hb, rfl, hj⟩ | ⟨hb, rfl⟩
  · have HB2 := Lib.hid hb; clear hb
    gi_wp2_with fail
    refine bodyPost_end (results_none rfl _ _ _) rfl ?_
    exact ⟨hU, .inl ⟨HB2.out, rfl, hj⟩⟩
  · exact ⟨rfl, hU, .inr ⟨hb, rfl⟩⟩
theorem nodes_anyF (v : Value) (w : World) (hv : ∃ cs, v = ifF cs) : Calls Tryz.prog 11 #[v] w fun e w' => e = .returned (.func (.func 35) #[] #[.pointer (some ⟨w.heap.size, 0, none⟩)]) ∧ w' = w.alloc (.cells #[v] 43) := by
  have hmf : ∀ (fn : Fn) (first cap : Array Value) (w : World), (Instr.makeFunc fn first cap).run Tryz.prog w = .ok (.func fn first cap) w := fun _ _ _ _ => rfl
  obtain ⟨cs, rfl⟩ := hv
  go_enter Tryz.func11, Tryz.ntmps11
  go_wp2
  go_ret
  exact ⟨rfl, rfl⟩
theorem range_nodesF {fn : FuncId} {gf : Operand} {ps : Array Tmp} {assign body : Code} {Q : Exit → Act → World → Prop} {a : Act} {w : World} (W0 : World) (e : FT) (cs : List Value) (hr : FctR W0 e cs) (cr : Nat)
    (hg : a.eval gf = .func (.func 35) #[] #[.pointer (some ⟨cr, 0, none⟩)]) (hB : Below W0.heap.size W0 w) (hcr : w.cell? ⟨cr, 0, none⟩ = some (ifF cs))
    (M : List Nat) (good : List (Int × FT) → (Int × FT) → Bool) (J : Loop → List (Int × FT) → World → Prop) (Rng : Int → FT → Prop) (hrg : Rng 1 e) (hM : ∀ b ∈ M, b < w.heap.size + 2)
    (HR : RoundsF W0 (w.heap.size + 1) (rec0 fn a ps assign body w) M good (J (rec0 fn a ps assign body w)) Rng)
    (h0 : J (rec0 fn a ps assign body w) [] (laid0 fn a ps assign body w))
    (hn : ∀ W' W6, Upd M (laid0 fn a ps assign body w) W' → goodAllF good [] (preF 1 e) = true → J (rec0 fn a ps assign body w) (preF 1 e) W' → Upd [w.heap.size + 1] W' W6 → Q .normal (marked a w) W6)
    (hp : ∀ W', Upd M (laid0 fn a ps assign body w) W' → goodAllF good [] (preF 1 e) = false → Q (.panic [{ v := .iface 128 (.agg #[]), recovered := false }]) (marked a w) W') :
    (Code.rangeFunc gf ps assign body).wpAt fn Tryz.prog Q a w := by
  refine wpAt_rangeFunc ⟨w.heap.size + 1, _, _, { target := .fn (.func 35) #[.pointer (some ⟨cr, 0, none⟩)], args := #[.func (.yield (w.heap.size + 1)) #[] #[]] }, laid0 fn a ps assign body w, 35, #[.func (.yield (w.heap.size + 1)) #[] #[], .pointer (some ⟨cr, 0, none⟩)], laid0 fn a ps assign body w, run_enterLoop_outer _ _ _ _ _, ?_, ?_, ?_⟩
  · simp only [resolve, hg]; simp [go_sem, Deferred.ofValue, Act.eval]
  · simp [invoke, go_sem]
  · refine (nodes1_anyF W0 (w.heap.size + 1) (rec0 fn a ps assign body w) M good (J (rec0 fn a ps assign body w)) Rng HR e cs hr _ cr _ (by exact (hB.alloc hB.size _).alloc (by have := hB.size; simp; omega) _) h0 ?_ ?_ hrg).mono ?_
    · have hlt := cell_lt hcr
      exact (((Below.refl _ w).alloc (Nat.le_refl _) _).alloc (by simp) _ |>.cell (p := ⟨cr, 0, none⟩) hlt).trans hcr
    · intro b hb; have := hM b hb; simp; omega
    · rintro e1 W1 ⟨hu, ⟨hb, rfl, hj⟩ | ⟨hb, rfl⟩⟩
      · have hrec := HR.rec_ _ _ hj
        exact ⟨_, run_endLoop hrec (by simp), hn W1 _ hu hb hj (Fs.Upd.putObj (Upd.refl _ _) (fun _ => by simp) _)⟩
      · exact hp W1 hu hb
end Go.Proofs.YtnipdjkopmjoeaaGreatDoor
namespace Go.Proofs.YtnipdjkopmjoeaaGreatDoor
open Go.ChangeShapes Go.WideShapes Go.ChangeAt Go.RowKit Go.Fs
def pathB (nm : ByteArray) (path : List ByteArray) : Bool := nameB nm && decide ((path.length : Int) ≤ 2) && path.all nameB
/-- a slice of strings, opened -/
structure SlO (W : World) (a : Option Addr) (path : List ByteArray) : Prop where
  at_ : ∀ i x, path[i]? = some x → ∃ b off, a = some ⟨b, off, none⟩ ∧ b < W.heap.size ∧ W.cell? ⟨b, off + i, none⟩ = some (.string x)
theorem SlR.opened {W : World} {v : Value} {path : List ByteArray} (h : SlR W v path) : ∃ a cap, v = .slice a path.length cap ∧ SlO W a path := by
  rcases h with ⟨a, cap, rfl, rfl⟩ | ⟨b, off, cap, rfl, hc⟩
  · exact ⟨a, cap, rfl, ⟨fun i x h => by simp at h⟩⟩
  · exact ⟨_, _, rfl, ⟨fun i x h => ⟨b, off, rfl, cell_lt (hc i x h), hc i x h⟩⟩⟩
theorem allN_take (l : List ByteArray) (k : Nat) (x : ByteArray) (h : l[k]? = some x) : (l.take (k + 1)).all nameB = ((l.take k).all nameB && nameB x) := by
  rw [take_snoc l k x h, List.all_append]; simp
theorem allN_stop (l : List ByteArray) (k : Nat) (x : ByteArray) (h : l[k]? = some x) (hx : nameB x = false) : l.all nameB = false := by
  rw [take_split l k x h, List.all_append]; simp [hx]
set_option maxRecDepth 100000 in
set_option maxHeartbeats 2000000 in
theorem examinePath_any (W : World) (g s : Nat) (nm : ByteArray) (path : List ByteArray) (a : Option Addr) (cap : Nat) (w : World) (hB : Below W.heap.size W w) (ho : SlO W a path) (hl : (path.length : Int) ≤ 9223372036854775807) (hs : Sc w g s) :
    Calls Tryz.prog 66 #[.pointer (some ⟨s, 0, none⟩), .string nm, .slice a path.length cap] w (ExP (pathB nm path) w) := by
  have HS := Lib.hid hs
  have h4 := hs.glob
  clear hs
  have HO := Lib.hid ho; clear ho
  have HB := Lib.hid hB; clear hB
  by_cases k1 : nameB nm = true ∧ (path.length : Int) ≤ 2
  · obtain ⟨k1, k2⟩ := k1
    have hpb : pathB nm path = path.all nameB := by unfold pathB; rw [k1, decide_eq_true k2]; rfl
    rw [hpb]; clear hpb
    go_enter Tryz.func66, Tryz.ntmps66
    go_wp2_with (first
      | (go_at_call 92; refine (isParam_alone g s nm _ HS.out).mono ?_; rintro e w' ⟨rfl, rfl⟩)
      | (go_at_call 39; refine (need_any _ _).mono ?_; (rintro e w' ⟨rfl, ⟨hb, rfl⟩ | ⟨hb, rfl⟩⟩ <;> (first | (cases hb; done) | (exfalso; simp at hb; omega) | (exfalso; simp_all; done) | skip))))
    go_loopw [19] (fun i wr => ∃ k : Nat, k ≤ path.length ∧ i = .int .i64 k ∧ (path.take k).all nameB = true ∧ Below w.heap.size w wr) (fun i _ => path.length - (intOf i).toNat)
    case atStart => exact ⟨0, Nat.zero_le _, rfl, rfl, Below.refl _ _⟩
    case round =>
      obtain ⟨k, hkl, rfl, hal, hup⟩ := hrel
      have HAL := Lib.hid hal; clear hal
      have h4' := (hup.cell (p := ⟨s, 0, none⟩) (cell_lt h4)).trans h4
      have HS2 := Lib.hid (HS.out.below hup)
      have HBr := Lib.hid (HB.out.trans (hup.mono HB.out.size))
      have HUP := Lib.hid hup; clear hup
      by_cases hlt : k < path.length
      · obtain ⟨x, hx⟩ : ∃ x, path[k]? = some x := ⟨path[k], List.getElem?_eq_getElem hlt⟩
        obtain ⟨b, off, ha, hb, hc⟩ := HO.out.at_ k x hx
        subst ha
        have q : wr.cell? ⟨b, off + k, none⟩ = some (.string x) := (HBr.out.cell (p := ⟨b, off + k, none⟩) hb).trans hc
        have HX := Lib.hid hx; clear hx hc
        cases hn : nameB x with
        | true =>
          have HN := Lib.hid hn
          go_wp2_with (first
            | (go_at_call 67; refine (isSlot_alone g s x _ HS2.out).mono ?_; rintro e w' ⟨rfl, rfl⟩)
            | (go_at_call 39; refine (need_any _ _).mono ?_; (rintro e w' ⟨rfl, ⟨hb, rfl⟩ | ⟨hb, rfl⟩⟩ <;> (first | (cases hb; done) | (exfalso; simp at hb; omega) | (exfalso; simp_all; done) | skip))))
          go_roundw
          case rel => exact ⟨k + 1, by omega, by go_num, by rw [allN_take path k x HX.out, HAL.out, HN.out]; rfl, HUP.out⟩
          case measure => simp [intOf]; omega
        | false =>
          have HN := Lib.hid hn
          go_wp2_with (first
            | (go_at_call 67; refine (isSlot_alone g s x _ HS2.out).mono ?_; rintro e w' ⟨rfl, rfl⟩)
            | (go_at_call 39; refine (need_any _ _).mono ?_; (rintro e w' ⟨rfl, ⟨hb, rfl⟩ | ⟨hb, rfl⟩⟩ <;> (first | (cases hb; done) | (exfalso; simp at hb; omega) | (exfalso; simp_all; done) | skip))))
          exact ⟨rfl, out_post (allN_stop path k x HX.out HN.out) HUP.out⟩
      · obtain rfl : k = path.length := by omega
        have hal := HAL.out
        rw [List.take_length] at hal
        go_wp2_with fail
        refine bodyPost_end (results_none rfl _ _ _) rfl (in_post hal HUP.out)
  · have hpb : pathB nm path = false := by
      unfold pathB
      cases h : nameB nm with
      | false => rfl
      | true => rw [decide_eq_false (fun h2 => k1 ⟨h, h2⟩)]; rfl
    rw [hpb]; clear hpb
    by_cases k2 : nameB nm = true
    · have k3 : ¬ (path.length : Int) ≤ 2 := fun h => k1 ⟨k2, h⟩
      clear k1
      go_enter Tryz.func66, Tryz.ntmps66
      go_wp2_with (first
        | (go_at_call 92; refine (isParam_alone g s nm _ HS.out).mono ?_; rintro e w' ⟨rfl, rfl⟩)
        | (go_at_call 39; refine (need_any _ _).mono ?_; (rintro e w' ⟨rfl, ⟨hb, rfl⟩ | ⟨hb, rfl⟩⟩ <;> (first | (cases hb; done) | (exfalso; simp at hb; omega) | (exfalso; simp_all; done) | skip))))
      exact ⟨rfl, out_post rfl (Below.refl _ _)⟩
    · have k3 : nameB nm = false := by simpa using k2
      clear k1 k2
      go_enter Tryz.func66, Tryz.ntmps66
      go_wp2_with (first
        | (go_at_call 92; refine (isParam_alone g s nm _ HS.out).mono ?_; rintro e w' ⟨rfl, rfl⟩)
        | (go_at_call 39; refine (need_any _ _).mono ?_; (rintro e w' ⟨rfl, ⟨hb, rfl⟩ | ⟨hb, rfl⟩⟩ <;> (first | (cases hb; done) | (exfalso; simp at hb; omega) | (exfalso; simp_all; done) | skip))))
      exact ⟨rfl, out_post rfl (Below.refl _ _)⟩
end Go.Proofs.YtnipdjkopmjoeaaGreatDoor
namespace Go.Proofs.YtnipdjkopmjoeaaGreatDoor
open Go.ChangeShapes Go.WideShapes Go.ChangeAt Go.RowKit Go.Fs
def clsB (cls : Bool) (c : ByteArray) : Bool := if cls = true then sortB c else c.toList.isEmpty
def pthB (pth : Bool) (nm : ByteArray) (path : List ByteArray) : Bool := if pth = true then pathB nm path else nm.toList.isEmpty && decide ((path.length : Int) = 0)
def rowF (op : Int) (nm : ByteArray) (path : List ByteArray) (c : ByteArray) (n nk : Int) (pth cls num : Bool) (kids : Int) : Bool :=
  decide (1 ≤ op) && decide (op ≤ 7) && decide (nk = kids) && (decide (n = 0) || num && numB n) && clsB cls c && pthB pth nm path
/-- what every walk of examineFact has -/
structure EnvF (w : World) (g s : Nat) (op : Int) (pth cls num : Bool) (kids : Int) : Prop where
  sc : Sc w g s
  f0 : w.cell? ⟨0, op.toNat * 4, none⟩ = some (.bool pth)
  f1 : w.cell? ⟨0, op.toNat * 4 + 1, none⟩ = some (.bool cls)
  f2 : w.cell? ⟨0, op.toNat * 4 + 2, none⟩ = some (.bool num)
  f3 : w.cell? ⟨0, op.toNat * 4 + 3, none⟩ = some (.int .i64 kids)
abbrev FArgs (s : Nat) (op : Int) (nm : ByteArray) (pa : Option Addr) (pl pc : Nat) (c : ByteArray) (n : Int) (a : Option Addr) (nk cap : Nat) : Array Value :=
  #[.pointer (some ⟨s, 0, none⟩), .agg #[.int .i64 op, .string nm, .slice pa pl pc, .string c, .int .i64 n, .slice a nk cap]]
variable (g s : Nat) (op n : Int) (nm c : ByteArray) (path : List ByteArray) (pa a : Option Addr) (pc nk cap : Nat) (w : World) (pth cls num : Bool) (kids : Int)
set_option maxRecDepth 100000 in
set_option maxHeartbeats 1000000 in
theorem xf_out (ho : op < 1 ∨ 7 < op) : Calls Tryz.prog 40 (FArgs s op nm pa path.length pc c n a nk cap) w (ExP (rowF op nm path c n nk pth cls num kids) w) := by
  have e : rowF op nm path c n nk pth cls num kids = false := by
    unfold rowF
    rcases ho with h | h
    · rw [decide_eq_false (by omega)]; rfl
    · rw [decide_eq_false (p := op ≤ 7) (by omega)]; simp
  rw [e]; clear e
  rcases ho with h | h
  all_goals
    go_enter Tryz.func40, Tryz.ntmps40
    go_wp2_with (go_at_call 39; refine (need_any _ _).mono ?_; (rintro e w' ⟨rfl, ⟨hb, rfl⟩ | ⟨hb, rfl⟩⟩ <;> (first | (cases hb; done) | (exfalso; simp at hb; omega) | (exfalso; simp_all; done) | skip)))
  all_goals first | exact ⟨rfl, out_post rfl ((Below.refl _ _).alloc (Nat.le_refl _) _)⟩ | (exfalso; simp at *; omega)
set_option maxRecDepth 100000 in
set_option maxHeartbeats 2000000 in
theorem xf_kids (h1 : 1 ≤ op) (h7 : op ≤ 7) (hv : EnvF w g s op pth cls num kids) (k1 : ¬ (nk : Int) = kids) :
    Calls Tryz.prog 40 (FArgs s op nm pa path.length pc c n a nk cap) w (ExP false w) := by
  obtain ⟨h, f0, f1, f2, f3⟩ := hv
  have hz := cell_lt f0
  have hs := cell_lt h.glob
  have h4 := h.glob
  have H := Lib.hid h; clear h
  have k1' : ((nk : Int) == kids) = false := beq_eq_false_iff_ne.2 k1
  clear k1
  go_enter Tryz.func40, Tryz.ntmps40
  go_wp2_with (go_at_call 39; refine (need_any _ _).mono ?_; (rintro e w' ⟨rfl, ⟨hb, rfl⟩ | ⟨hb, rfl⟩⟩ <;> (first | (cases hb; done) | (exfalso; simp at hb; omega) | (exfalso; simp_all; done) | skip)))
  exact ⟨rfl, out_post rfl (by repeat (first | exact Below.refl _ _ | refine Below.alloc ?_ (by simp; try omega) _ | refine Below.setCell ?_ (by simp; try omega) _ | refine Below.drew ?_))⟩
set_option maxRecDepth 100000 in
set_option maxHeartbeats 2000000 in
theorem xf_num (h1 : 1 ≤ op) (h7 : op ≤ 7) (hv : EnvF w g s op pth cls num kids) (k1 : ((nk : Int) == kids) = true) (k3 : ¬ n = 0) (k4 : num = false ∨ numB n = false) :
    Calls Tryz.prog 40 (FArgs s op nm pa path.length pc c n a nk cap) w (ExP false w) := by
  obtain ⟨h, f0, f1, f2, f3⟩ := hv
  have hz := cell_lt f0
  have hs := cell_lt h.glob
  have h4 := h.glob
  have H := Lib.hid h; clear h
  cases num with
  | false =>
    clear k4
    go_enter Tryz.func40, Tryz.ntmps40
    go_wp2_with (first | (go_at_call 39; refine (need_any _ _).mono ?_; (rintro e w' ⟨rfl, ⟨hb, rfl⟩ | ⟨hb, rfl⟩⟩ <;> (first | (cases hb; done) | (exfalso; simp at hb; omega) | (exfalso; simp_all; done) | skip))) | (go_at_call 64; refine (isNumber_any _ _).mono ?_; rintro e w' ⟨rfl, rfl⟩))
    all_goals exact ⟨rfl, out_post rfl (by repeat (first | exact Below.refl _ _ | refine Below.alloc ?_ (by simp; try omega) _ | refine Below.setCell ?_ (by simp; try omega) _ | refine Below.drew ?_))⟩
  | true =>
    have k4 : numB n = false := by simpa using k4
    go_enter Tryz.func40, Tryz.ntmps40
    go_wp2_with (first | (go_at_call 39; refine (need_any _ _).mono ?_; (rintro e w' ⟨rfl, ⟨hb, rfl⟩ | ⟨hb, rfl⟩⟩ <;> (first | (cases hb; done) | (exfalso; simp at hb; omega) | (exfalso; simp_all; done) | skip))) | (go_at_call 64; refine (isNumber_any _ _).mono ?_; rintro e w' ⟨rfl, rfl⟩))
    all_goals exact ⟨rfl, out_post rfl (by repeat (first | exact Below.refl _ _ | refine Below.alloc ?_ (by simp; try omega) _ | refine Below.setCell ?_ (by simp; try omega) _ | refine Below.drew ?_))⟩
end Go.Proofs.YtnipdjkopmjoeaaGreatDoor
namespace Go.Proofs.YtnipdjkopmjoeaaGreatDoor
open Go.ChangeShapes Go.WideShapes Go.ChangeAt Go.RowKit Go.Fs
variable (g s : Nat) (op n : Int) (nm c : ByteArray) (path : List ByteArray) (pa a : Option Addr) (pc nk cap : Nat) (w : World) (pth cls num : Bool) (kids : Int)
set_option maxRecDepth 100000 in
set_option maxHeartbeats 2000000 in
theorem xf_cls (h1 : 1 ≤ op) (h7 : op ≤ 7) (hv : EnvF w g s op pth cls num kids) (k1 : ((nk : Int) == kids) = true) (k3 : n = 0 ∨ (¬ n = 0 ∧ num = true ∧ numB n = true)) (k5 : clsB cls c = false) :
    Calls Tryz.prog 40 (FArgs s op nm pa path.length pc c n a nk cap) w (ExP false w) := by
  obtain ⟨h, f0, f1, f2, f3⟩ := hv
  have hz := cell_lt f0
  have hs := cell_lt h.glob
  have h4 := h.glob
  have H := Lib.hid h; clear h
  rcases k3 with rfl | ⟨k3, rfl, k4⟩
  all_goals
    cases cls with
    | false =>
      have k5 : c.toList.isEmpty = false := by simpa [clsB] using k5
      go_enter Tryz.func40, Tryz.ntmps40
      go_wp2_with (first | (go_at_call 39; refine (need_any _ _).mono ?_; (rintro e w' ⟨rfl, ⟨hb, rfl⟩ | ⟨hb, rfl⟩⟩ <;> (first | (cases hb; done) | (exfalso; simp at hb; omega) | (exfalso; simp_all; done) | skip))) | (go_at_call 64; refine (isNumber_any _ _).mono ?_; rintro e w' ⟨rfl, rfl⟩) | (go_at_call 65; refine (isSort_alone g s c _ (H.out.below (by repeat (first | exact Below.refl _ _ | refine Below.alloc ?_ (by simp; try omega) _ | refine Below.setCell ?_ (by simp; try omega) _ | refine Below.drew ?_)))).mono ?_; rintro e w' ⟨rfl, rfl⟩))
      exact ⟨rfl, out_post rfl (by repeat (first | exact Below.refl _ _ | refine Below.alloc ?_ (by simp; try omega) _ | refine Below.setCell ?_ (by simp; try omega) _ | refine Below.drew ?_))⟩
    | true =>
      have k5 : sortB c = false := by simpa [clsB] using k5
      go_enter Tryz.func40, Tryz.ntmps40
      go_wp2_with (first | (go_at_call 39; refine (need_any _ _).mono ?_; (rintro e w' ⟨rfl, ⟨hb, rfl⟩ | ⟨hb, rfl⟩⟩ <;> (first | (cases hb; done) | (exfalso; simp at hb; omega) | (exfalso; simp_all; done) | skip))) | (go_at_call 64; refine (isNumber_any _ _).mono ?_; rintro e w' ⟨rfl, rfl⟩) | (go_at_call 65; refine (isSort_alone g s c _ (H.out.below (by repeat (first | exact Below.refl _ _ | refine Below.alloc ?_ (by simp; try omega) _ | refine Below.setCell ?_ (by simp; try omega) _ | refine Below.drew ?_)))).mono ?_; rintro e w' ⟨rfl, rfl⟩))
      refine still_drew 6 (by kernel_rfl) (by kernel_rfl) ?_
      simp only [List.take_succ_cons, List.take_zero, List.drop_succ_cons, List.drop_zero]; (repeat still_step); refine wpStill_nil ?_; go_wp2_with (first | (go_at_call 39; refine (need_any _ _).mono ?_; (rintro e w' ⟨rfl, ⟨hb, rfl⟩ | ⟨hb, rfl⟩⟩ <;> (first | (cases hb; done) | (exfalso; simp at hb; omega) | (exfalso; simp_all; done) | skip))) | (go_at_call 64; refine (isNumber_any _ _).mono ?_; rintro e w' ⟨rfl, rfl⟩) | (go_at_call 65; refine (isSort_alone g s c _ (H.out.below (by repeat (first | exact Below.refl _ _ | refine Below.alloc ?_ (by simp; try omega) _ | refine Below.setCell ?_ (by simp; try omega) _ | refine Below.drew ?_)))).mono ?_; rintro e w' ⟨rfl, rfl⟩))
      exact ⟨rfl, out_post rfl (by repeat (first | exact Below.refl _ _ | refine Below.alloc ?_ (by simp; try omega) _ | refine Below.setCell ?_ (by simp; try omega) _ | refine Below.drew ?_))⟩
end Go.Proofs.YtnipdjkopmjoeaaGreatDoor
namespace Go.Proofs.YtnipdjkopmjoeaaGreatDoor
open Go.ChangeShapes Go.WideShapes Go.ChangeAt Go.RowKit Go.Fs
variable (g s : Nat) (op n : Int) (nm c : ByteArray) (path : List ByteArray) (pa a : Option Addr) (pc nk cap : Nat) (w : World) (pth cls num : Bool) (kids : Int)
set_option maxRecDepth 100000 in
set_option maxHeartbeats 4000000 in
theorem xf_path (h1 : 1 ≤ op) (h7 : op ≤ 7) (hv : EnvF w g s op true cls num kids) (k1 : ((nk : Int) == kids) = true) (k3 : n = 0 ∨ (¬ n = 0 ∧ num = true ∧ numB n = true)) (k5 : clsB cls c = true) (W : World) (hB : Below W.heap.size W w) (ho : SlO W pa path) (hpl : (path.length : Int) ≤ 9223372036854775807) :
    Calls Tryz.prog 40 (FArgs s op nm pa path.length pc c n a nk cap) w (ExP (pathB nm path) w) := by
  obtain ⟨h, f0, f1, f2, f3⟩ := hv
  have hz := cell_lt f0
  have hs := cell_lt h.glob
  have h4 := h.glob
  have hep : ∀ w', Below w.heap.size w w' → Calls Tryz.prog 66 #[.pointer (some ⟨s, 0, none⟩), .string nm, .slice pa path.length pc] w' (ExP (pathB nm path) w') :=
    fun w' hw => examinePath_any W g s nm path pa pc w' (hB.trans (hw.mono hB.size)) ho hpl (h.below hw)
  have EP := Lib.hid hep; clear hep
  have H := Lib.hid h; clear h
  obtain ⟨b, hbb⟩ : ∃ b, pathB nm path = b := ⟨_, rfl⟩
  rw [hbb] at EP ⊢
  clear hbb
  rcases k3 with rfl | ⟨k3, rfl, k4⟩
  all_goals
    cases cls with
    | false =>
      have k5 : c.toList.isEmpty = true := by simpa [clsB] using k5
      go_enter Tryz.func40, Tryz.ntmps40
      go_wp2_with (first | (go_at_call 39; refine (need_any _ _).mono ?_; (rintro e w' ⟨rfl, ⟨hb, rfl⟩ | ⟨hb, rfl⟩⟩ <;> (first | (cases hb; done) | (exfalso; simp at hb; omega) | (exfalso; simp_all; done) | skip))) | (go_at_call 64; refine (isNumber_any _ _).mono ?_; rintro e w' ⟨rfl, rfl⟩) | (go_at_call 65; refine (isSort_alone g s c _ (H.out.below (by repeat (first | exact Below.refl _ _ | refine Below.alloc ?_ (by simp; try omega) _ | refine Below.setCell ?_ (by simp; try omega) _ | refine Below.drew ?_)))).mono ?_; rintro e w' ⟨rfl, rfl⟩) | (go_at_call 66; refine (EP.out _ (by exact (by repeat (first | exact Below.refl _ _ | refine Below.alloc ?_ (by simp; try omega) _ | refine Below.setCell ?_ (by simp; try omega) _ | refine Below.drew ?_)))).mono ?_; rintro e w' ⟨hb1, hor⟩; have HB1 := Lib.hid hb1; clear hb1; rcases hor with ⟨hb, rfl⟩ | ⟨hb, rfl⟩))
      · refine bodyPost_end (results_none rfl _ _ _) rfl (in_post hb (Below.trans (by repeat (first | exact Below.refl _ _ | refine Below.alloc ?_ (by simp; try omega) _ | refine Below.setCell ?_ (by simp; try omega) _ | refine Below.drew ?_)) (HB1.out.mono (by simp; try omega))))
      · exact ⟨rfl, out_post rfl (Below.trans (by repeat (first | exact Below.refl _ _ | refine Below.alloc ?_ (by simp; try omega) _ | refine Below.setCell ?_ (by simp; try omega) _ | refine Below.drew ?_)) (HB1.out.mono (by simp; try omega)))⟩
    | true =>
      have k5 : sortB c = true := by simpa [clsB] using k5
      go_enter Tryz.func40, Tryz.ntmps40
      go_wp2_with (first | (go_at_call 39; refine (need_any _ _).mono ?_; (rintro e w' ⟨rfl, ⟨hb, rfl⟩ | ⟨hb, rfl⟩⟩ <;> (first | (cases hb; done) | (exfalso; simp at hb; omega) | (exfalso; simp_all; done) | skip))) | (go_at_call 64; refine (isNumber_any _ _).mono ?_; rintro e w' ⟨rfl, rfl⟩) | (go_at_call 65; refine (isSort_alone g s c _ (H.out.below (by repeat (first | exact Below.refl _ _ | refine Below.alloc ?_ (by simp; try omega) _ | refine Below.setCell ?_ (by simp; try omega) _ | refine Below.drew ?_)))).mono ?_; rintro e w' ⟨rfl, rfl⟩) | (go_at_call 66; refine (EP.out _ (by exact (by repeat (first | exact Below.refl _ _ | refine Below.alloc ?_ (by simp; try omega) _ | refine Below.setCell ?_ (by simp; try omega) _ | refine Below.drew ?_)))).mono ?_; rintro e w' ⟨hb1, hor⟩; have HB1 := Lib.hid hb1; clear hb1; rcases hor with ⟨hb, rfl⟩ | ⟨hb, rfl⟩))
      refine still_drew 6 (by kernel_rfl) (by kernel_rfl) ?_
      simp only [List.take_succ_cons, List.take_zero, List.drop_succ_cons, List.drop_zero]; (repeat still_step); refine wpStill_nil ?_; go_wp2_with (first | (go_at_call 39; refine (need_any _ _).mono ?_; (rintro e w' ⟨rfl, ⟨hb, rfl⟩ | ⟨hb, rfl⟩⟩ <;> (first | (cases hb; done) | (exfalso; simp at hb; omega) | (exfalso; simp_all; done) | skip))) | (go_at_call 64; refine (isNumber_any _ _).mono ?_; rintro e w' ⟨rfl, rfl⟩) | (go_at_call 65; refine (isSort_alone g s c _ (H.out.below (by repeat (first | exact Below.refl _ _ | refine Below.alloc ?_ (by simp; try omega) _ | refine Below.setCell ?_ (by simp; try omega) _ | refine Below.drew ?_)))).mono ?_; rintro e w' ⟨rfl, rfl⟩) | (go_at_call 66; refine (EP.out _ (by exact (by repeat (first | exact Below.refl _ _ | refine Below.alloc ?_ (by simp; try omega) _ | refine Below.setCell ?_ (by simp; try omega) _ | refine Below.drew ?_)))).mono ?_; rintro e w' ⟨hb1, hor⟩; have HB1 := Lib.hid hb1; clear hb1; rcases hor with ⟨hb, rfl⟩ | ⟨hb, rfl⟩))
      · refine bodyPost_end (results_none rfl _ _ _) rfl (in_post hb (Below.trans (by repeat (first | exact Below.refl _ _ | refine Below.alloc ?_ (by simp; try omega) _ | refine Below.setCell ?_ (by simp; try omega) _ | refine Below.drew ?_)) (HB1.out.mono (by simp; try omega))))
      · exact ⟨rfl, out_post rfl (Below.trans (by repeat (first | exact Below.refl _ _ | refine Below.alloc ?_ (by simp; try omega) _ | refine Below.setCell ?_ (by simp; try omega) _ | refine Below.drew ?_)) (HB1.out.mono (by simp; try omega)))⟩
set_option maxRecDepth 100000 in
set_option maxHeartbeats 4000000 in
theorem xf_bare (h1 : 1 ≤ op) (h7 : op ≤ 7) (hv : EnvF w g s op false cls num kids) (k1 : ((nk : Int) == kids) = true) (k3 : n = 0 ∨ (¬ n = 0 ∧ num = true ∧ numB n = true)) (k5 : clsB cls c = true) (_hpl : (path.length : Int) ≤ 9223372036854775807) :
    Calls Tryz.prog 40 (FArgs s op nm pa path.length pc c n a nk cap) w (ExP (nm.toList.isEmpty && ((path.length : Int) == 0)) w) := by
  obtain ⟨h, f0, f1, f2, f3⟩ := hv
  have hz := cell_lt f0
  have hs := cell_lt h.glob
  have h4 := h.glob
  have H := Lib.hid h; clear h
  rcases k3 with rfl | ⟨k3, rfl, k4⟩
  all_goals
    cases cls with
    | false =>
      have k5 : c.toList.isEmpty = true := by simpa [clsB] using k5
      cases kn : nm.toList.isEmpty with
      | false =>
        go_enter Tryz.func40, Tryz.ntmps40
        go_wp2_with (first | (go_at_call 39; refine (need_any _ _).mono ?_; (rintro e w' ⟨rfl, ⟨hb, rfl⟩ | ⟨hb, rfl⟩⟩ <;> (first | (cases hb; done) | (exfalso; simp at hb; omega) | (exfalso; simp_all; done) | skip))) | (go_at_call 64; refine (isNumber_any _ _).mono ?_; rintro e w' ⟨rfl, rfl⟩) | (go_at_call 65; refine (isSort_alone g s c _ (H.out.below (by repeat (first | exact Below.refl _ _ | refine Below.alloc ?_ (by simp; try omega) _ | refine Below.setCell ?_ (by simp; try omega) _ | refine Below.drew ?_)))).mono ?_; rintro e w' ⟨rfl, rfl⟩))
        exact ⟨rfl, out_post rfl (by repeat (first | exact Below.refl _ _ | refine Below.alloc ?_ (by simp; try omega) _ | refine Below.setCell ?_ (by simp; try omega) _ | refine Below.drew ?_))⟩
      | true =>
        cases kp : ((path.length : Int) == 0) with
        | false =>
          go_enter Tryz.func40, Tryz.ntmps40
          go_wp2_with (first | (go_at_call 39; refine (need_any _ _).mono ?_; (rintro e w' ⟨rfl, ⟨hb, rfl⟩ | ⟨hb, rfl⟩⟩ <;> (first | (cases hb; done) | (exfalso; simp at hb; omega) | (exfalso; simp_all; done) | skip))) | (go_at_call 64; refine (isNumber_any _ _).mono ?_; rintro e w' ⟨rfl, rfl⟩) | (go_at_call 65; refine (isSort_alone g s c _ (H.out.below (by repeat (first | exact Below.refl _ _ | refine Below.alloc ?_ (by simp; try omega) _ | refine Below.setCell ?_ (by simp; try omega) _ | refine Below.drew ?_)))).mono ?_; rintro e w' ⟨rfl, rfl⟩))
          exact ⟨rfl, out_post rfl (by repeat (first | exact Below.refl _ _ | refine Below.alloc ?_ (by simp; try omega) _ | refine Below.setCell ?_ (by simp; try omega) _ | refine Below.drew ?_))⟩
        | true =>
          go_enter Tryz.func40, Tryz.ntmps40
          go_wp2_with (first | (go_at_call 39; refine (need_any _ _).mono ?_; (rintro e w' ⟨rfl, ⟨hb, rfl⟩ | ⟨hb, rfl⟩⟩ <;> (first | (cases hb; done) | (exfalso; simp at hb; omega) | (exfalso; simp_all; done) | skip))) | (go_at_call 64; refine (isNumber_any _ _).mono ?_; rintro e w' ⟨rfl, rfl⟩) | (go_at_call 65; refine (isSort_alone g s c _ (H.out.below (by repeat (first | exact Below.refl _ _ | refine Below.alloc ?_ (by simp; try omega) _ | refine Below.setCell ?_ (by simp; try omega) _ | refine Below.drew ?_)))).mono ?_; rintro e w' ⟨rfl, rfl⟩))
          refine bodyPost_end (results_none rfl _ _ _) rfl (in_post rfl (by repeat (first | exact Below.refl _ _ | refine Below.alloc ?_ (by simp; try omega) _ | refine Below.setCell ?_ (by simp; try omega) _ | refine Below.drew ?_)))
    | true =>
      have k5 : sortB c = true := by simpa [clsB] using k5
      cases kn : nm.toList.isEmpty with
      | false =>
        go_enter Tryz.func40, Tryz.ntmps40
        go_wp2_with (first | (go_at_call 39; refine (need_any _ _).mono ?_; (rintro e w' ⟨rfl, ⟨hb, rfl⟩ | ⟨hb, rfl⟩⟩ <;> (first | (cases hb; done) | (exfalso; simp at hb; omega) | (exfalso; simp_all; done) | skip))) | (go_at_call 64; refine (isNumber_any _ _).mono ?_; rintro e w' ⟨rfl, rfl⟩) | (go_at_call 65; refine (isSort_alone g s c _ (H.out.below (by repeat (first | exact Below.refl _ _ | refine Below.alloc ?_ (by simp; try omega) _ | refine Below.setCell ?_ (by simp; try omega) _ | refine Below.drew ?_)))).mono ?_; rintro e w' ⟨rfl, rfl⟩))
        refine still_drew 6 (by kernel_rfl) (by kernel_rfl) ?_
        simp only [List.take_succ_cons, List.take_zero, List.drop_succ_cons, List.drop_zero]; (repeat still_step); refine wpStill_nil ?_; go_wp2_with (first | (go_at_call 39; refine (need_any _ _).mono ?_; (rintro e w' ⟨rfl, ⟨hb, rfl⟩ | ⟨hb, rfl⟩⟩ <;> (first | (cases hb; done) | (exfalso; simp at hb; omega) | (exfalso; simp_all; done) | skip))) | (go_at_call 64; refine (isNumber_any _ _).mono ?_; rintro e w' ⟨rfl, rfl⟩) | (go_at_call 65; refine (isSort_alone g s c _ (H.out.below (by repeat (first | exact Below.refl _ _ | refine Below.alloc ?_ (by simp; try omega) _ | refine Below.setCell ?_ (by simp; try omega) _ | refine Below.drew ?_)))).mono ?_; rintro e w' ⟨rfl, rfl⟩))
        exact ⟨rfl, out_post rfl (by repeat (first | exact Below.refl _ _ | refine Below.alloc ?_ (by simp; try omega) _ | refine Below.setCell ?_ (by simp; try omega) _ | refine Below.drew ?_))⟩
      | true =>
        cases kp : ((path.length : Int) == 0) with
        | false =>
          go_enter Tryz.func40, Tryz.ntmps40
          go_wp2_with (first | (go_at_call 39; refine (need_any _ _).mono ?_; (rintro e w' ⟨rfl, ⟨hb, rfl⟩ | ⟨hb, rfl⟩⟩ <;> (first | (cases hb; done) | (exfalso; simp at hb; omega) | (exfalso; simp_all; done) | skip))) | (go_at_call 64; refine (isNumber_any _ _).mono ?_; rintro e w' ⟨rfl, rfl⟩) | (go_at_call 65; refine (isSort_alone g s c _ (H.out.below (by repeat (first | exact Below.refl _ _ | refine Below.alloc ?_ (by simp; try omega) _ | refine Below.setCell ?_ (by simp; try omega) _ | refine Below.drew ?_)))).mono ?_; rintro e w' ⟨rfl, rfl⟩))
          refine still_drew 6 (by kernel_rfl) (by kernel_rfl) ?_
          simp only [List.take_succ_cons, List.take_zero, List.drop_succ_cons, List.drop_zero]; (repeat still_step); refine wpStill_nil ?_; go_wp2_with (first | (go_at_call 39; refine (need_any _ _).mono ?_; (rintro e w' ⟨rfl, ⟨hb, rfl⟩ | ⟨hb, rfl⟩⟩ <;> (first | (cases hb; done) | (exfalso; simp at hb; omega) | (exfalso; simp_all; done) | skip))) | (go_at_call 64; refine (isNumber_any _ _).mono ?_; rintro e w' ⟨rfl, rfl⟩) | (go_at_call 65; refine (isSort_alone g s c _ (H.out.below (by repeat (first | exact Below.refl _ _ | refine Below.alloc ?_ (by simp; try omega) _ | refine Below.setCell ?_ (by simp; try omega) _ | refine Below.drew ?_)))).mono ?_; rintro e w' ⟨rfl, rfl⟩))
          exact ⟨rfl, out_post rfl (by repeat (first | exact Below.refl _ _ | refine Below.alloc ?_ (by simp; try omega) _ | refine Below.setCell ?_ (by simp; try omega) _ | refine Below.drew ?_))⟩
        | true =>
          go_enter Tryz.func40, Tryz.ntmps40
          go_wp2_with (first | (go_at_call 39; refine (need_any _ _).mono ?_; (rintro e w' ⟨rfl, ⟨hb, rfl⟩ | ⟨hb, rfl⟩⟩ <;> (first | (cases hb; done) | (exfalso; simp at hb; omega) | (exfalso; simp_all; done) | skip))) | (go_at_call 64; refine (isNumber_any _ _).mono ?_; rintro e w' ⟨rfl, rfl⟩) | (go_at_call 65; refine (isSort_alone g s c _ (H.out.below (by repeat (first | exact Below.refl _ _ | refine Below.alloc ?_ (by simp; try omega) _ | refine Below.setCell ?_ (by simp; try omega) _ | refine Below.drew ?_)))).mono ?_; rintro e w' ⟨rfl, rfl⟩))
          refine still_drew 6 (by kernel_rfl) (by kernel_rfl) ?_
          simp only [List.take_succ_cons, List.take_zero, List.drop_succ_cons, List.drop_zero]; (repeat still_step); refine wpStill_nil ?_; go_wp2_with (first | (go_at_call 39; refine (need_any _ _).mono ?_; (rintro e w' ⟨rfl, ⟨hb, rfl⟩ | ⟨hb, rfl⟩⟩ <;> (first | (cases hb; done) | (exfalso; simp at hb; omega) | (exfalso; simp_all; done) | skip))) | (go_at_call 64; refine (isNumber_any _ _).mono ?_; rintro e w' ⟨rfl, rfl⟩) | (go_at_call 65; refine (isSort_alone g s c _ (H.out.below (by repeat (first | exact Below.refl _ _ | refine Below.alloc ?_ (by simp; try omega) _ | refine Below.setCell ?_ (by simp; try omega) _ | refine Below.drew ?_)))).mono ?_; rintro e w' ⟨rfl, rfl⟩))
          refine bodyPost_end (results_none rfl _ _ _) rfl (in_post rfl (by repeat (first | exact Below.refl _ _ | refine Below.alloc ?_ (by simp; try omega) _ | refine Below.setCell ?_ (by simp; try omega) _ | refine Below.drew ?_)))
end Go.Proofs.YtnipdjkopmjoeaaGreatDoor
namespace Go.Proofs.YtnipdjkopmjoeaaGreatDoor
open Go.ChangeShapes Go.WideShapes Go.ChangeAt Go.RowKit Go.Fs
def fPth (op : Int) : Bool := decide (op = 2 ∨ op = 3 ∨ op = 4)
def fCls (op : Int) : Bool := decide (op = 2)
def fNum (op : Int) : Bool := decide (op = 3 ∨ op = 4)
def fKid (op : Int) : Int := if op = 5 then 1 else if op = 6 ∨ op = 7 then 2 else 0
/-- the table of kinds of facts stands in its variable -/
def KindsF (w : World) : Prop := ∀ op : Nat, op < 8 → w.cell? ⟨0, op * 4, none⟩ = some (.bool (fPth op)) ∧ w.cell? ⟨0, op * 4 + 1, none⟩ = some (.bool (fCls op)) ∧ w.cell? ⟨0, op * 4 + 2, none⟩ = some (.bool (fNum op)) ∧ w.cell? ⟨0, op * 4 + 3, none⟩ = some (.int .i64 (fKid op))
def shFct (op : Int) (nm : ByteArray) (path : List ByteArray) (c : ByteArray) (n : Int) (nk : Nat) : Bool := rowF op nm path c n nk (fPth op) (fCls op) (fNum op) (fKid op)
theorem KindsF.env {w : World} {g s : Nat} (h : KindsF w) (hs : Sc w g s) (op : Int) (h1 : 1 ≤ op) (h2 : op ≤ 7) : EnvF w g s op (fPth op) (fCls op) (fNum op) (fKid op) := by
  have := h op.toNat (by omega)
  rw [show ((op.toNat : Nat) : Int) = op by omega] at this
  exact ⟨hs, this.1, this.2.1, this.2.2.1, this.2.2.2⟩
theorem rowF_split {op : Int} {nm : ByteArray} {path : List ByteArray} {c : ByteArray} {n nk : Int} {pth cls num : Bool} {kids : Int} (h1 : 1 ≤ op) (h2 : op ≤ 7) (b : Bool) (h : (decide (nk = kids) && (decide (n = 0) || num && numB n) && clsB cls c && pthB pth nm path) = b) : rowF op nm path c n nk pth cls num kids = b := by
  unfold rowF; rw [decide_eq_true h1, decide_eq_true h2]; simpa using h
theorem xf_any (W : World) (g s : Nat) (op n : Int) (nm c : ByteArray) (path : List ByteArray) (pa a : Option Addr) (pc nk cap : Nat) (w : World) (hB : Below W.heap.size W w) (ho : SlO W pa path) (hpl : (path.length : Int) ≤ 9223372036854775807) (hs : Sc w g s) (hk : KindsF w) :
    Calls Tryz.prog 40 (FArgs s op nm pa path.length pc c n a nk cap) w (ExP (shFct op nm path c n nk) w) := by
  by_cases hop : op < 1 ∨ 7 < op
  · exact xf_out s op n nm c path pa a pc nk cap w _ _ _ _ hop
  · have h1 : 1 ≤ op := by omega
    have h7 : op ≤ 7 := by omega
    have hv := hk.env hs op h1 h7
    have hrow : ∀ b, (decide ((nk : Int) = fKid op) && (decide (n = 0) || fNum op && numB n) && clsB (fCls op) c && pthB (fPth op) nm path) = b → shFct op nm path c n nk = b := fun b hb => rowF_split h1 h7 b hb
    by_cases k1 : (nk : Int) = fKid op
    · have k1' : ((nk : Int) == fKid op) = true := beq_iff_eq.2 k1
      by_cases k3 : n = 0 ∨ (¬ n = 0 ∧ fNum op = true ∧ numB n = true)
      · have hn : (decide (n = 0) || fNum op && numB n) = true := by
          rcases k3 with rfl | ⟨_, h, h'⟩
          · simp
          · rw [h, h']; simp
        cases k5 : clsB (fCls op) c with
        | false =>
          rw [hrow false (by rw [k5]; simp)]
          exact xf_cls g s op n nm c path pa a pc nk cap w _ _ _ _ h1 h7 hv k1' k3 k5
        | true =>
          have hr := hrow _ (by rw [decide_eq_true k1, hn, k5])
          simp only [Bool.true_and] at hr
          rw [hr]
          cases hp : fPth op with
          | true =>
            rw [hp] at hv
            have := xf_path g s op n nm c path pa a pc nk cap w _ _ _ h1 h7 hv k1' k3 k5 W hB ho hpl
            simpa [pthB] using this
          | false =>
            rw [hp] at hv
            have := xf_bare g s op n nm c path pa a pc nk cap w _ _ _ h1 h7 hv k1' k3 k5 hpl
            have e : pthB false nm path = (nm.toList.isEmpty && ((path.length : Int) == 0)) := by
              unfold pthB
              by_cases h0 : (path.length : Int) = 0
              · rw [decide_eq_true h0, beq_iff_eq.2 h0]; simp
              · rw [decide_eq_false h0, beq_eq_false_iff_ne.2 h0]; simp
            rw [e]; exact this
      · have hn0 : ¬ n = 0 := fun h => k3 (.inl h)
        have hnn : fNum op = false ∨ numB n = false := by
          cases h : fNum op with
          | false => exact .inl rfl
          | true =>
            cases h' : numB n with
            | false => exact .inr rfl
            | true => exact absurd (.inr ⟨hn0, h, h'⟩) k3
        rw [hrow false (by rw [decide_eq_false hn0]; rcases hnn with h | h <;> rw [h] <;> simp)]
        exact xf_num g s op n nm c path pa a pc nk cap w _ _ _ _ h1 h7 hv k1' hn0 hnn
    · rw [hrow false (by rw [decide_eq_false k1]; simp)]
      exact xf_kids g s op n nm c path pa a pc nk cap w _ _ _ _ h1 h7 hv k1
end Go.Proofs.YtnipdjkopmjoeaaGreatDoor
namespace Go.Proofs.YtnipdjkopmjoeaaGreatDoor
open Go.ChangeShapes Go.WideShapes Go.ChangeAt Go.RowKit Go.Fs
/-- how the loop of examine stands behind some nodes -/
structure FxJ (g s bs D l : Nat) (r : Loop) (n0 : Int) (pre : List (Int × FT)) (W : World) : Prop where
  box : W.cell? ⟨bs, 0, none⟩ = some (.pointer (some ⟨s, 0, none⟩))
  sc : Sc W g s
  cnt : W.cell? ⟨g, 4, none⟩ = some (.int .i64 (n0 + pre.length))
  free : W.frozen? ⟨g, 4, none⟩ = false
  kinds : KindsF W
  rec_ : W.heap[l]? = some (.loop r)
  def_ : W.heap[D]? = some (.deferred (some []))
  many : n0 + pre.length ≤ 120
  deep : ∀ y ∈ pre, y.1 ≤ 12
def fxGood (n0 : Int) (pre : List (Int × FT)) (y : Int × FT) : Bool := decide (n0 + pre.length + 1 ≤ 120) && decide (y.1 ≤ 12) && shFct (FT.op y.2) (FT.name y.2) (FT.path y.2) (FT.cls y.2) (FT.n y.2) (FT.kids y.2).length
theorem FxJ.keep {g s bs D l : Nat} {r : Loop} {n0 : Int} {pre : List (Int × FT)} {W W' : World} (h : FxJ g s bs D l r n0 pre W) (hb : Below W.heap.size W W') : FxJ g s bs D l r n0 pre W' :=
  ⟨(hb.cell (p := ⟨bs, 0, none⟩) (cell_lt h.box)).trans h.box, h.sc.below hb, (hb.cell (p := ⟨g, 4, none⟩) (cell_lt h.cnt)).trans h.cnt, (hb.frozen (p := ⟨g, 4, none⟩) (cell_lt h.cnt)).trans h.free,
   fun op ho => by
    have hz := cell_lt (h.kinds 0 (by omega)).1
    obtain ⟨k0, k1, k2, k3⟩ := h.kinds op ho
    exact ⟨(hb.cell (p := ⟨_, _, none⟩) hz).trans k0, (hb.cell (p := ⟨_, _, none⟩) hz).trans k1, (hb.cell (p := ⟨_, _, none⟩) hz).trans k2, (hb.cell (p := ⟨_, _, none⟩) hz).trans k3⟩,
   (hb.block l (lt_of_block h.rec_)).trans h.rec_, (hb.block D (lt_of_block h.def_)).trans h.def_, h.many, h.deep⟩
mutual
theorem pre_lenF (d : Int) : ∀ e : FT, (preF d e).length = sizeF e
  | .mk o s p c n ks => by simp only [preF, sizeF, List.length_cons]; rw [pre_lenFFL (d + 1) ks]; omega
theorem pre_lenFFL (d : Int) : ∀ l : List FT, (preFL d l).length = sizeFL l
  | [] => rfl
  | x :: l => by simp only [preFL, sizeFL, List.length_append]; rw [pre_lenF d x, pre_lenFFL d l]
end
mutual
theorem gaf_F (n0 : Int) (pre : List (Int × FT)) (d : Int) : ∀ e : FT, goodAllF (fxGood n0) pre (preF d e) = (okF shFct d e && decide (n0 + pre.length + sizeF e ≤ 120))
  | .mk o s p c n ks => by
    simp only [preF, goodAllF]
    rw [gaf_L n0 (pre ++ [(d, FT.mk o s p c n ks)]) (d + 1) ks]
    simp only [fxGood, okF, sizeF, FT.op, FT.name, FT.path, FT.cls, FT.n, FT.kids, List.length_append, List.length_singleton]
    rw [Bool.eq_iff_iff]
    simp only [Bool.and_eq_true, decide_eq_true_eq, Bool.or_eq_true, List.isEmpty_iff]
    constructor
    · rintro ⟨⟨⟨h1, h2⟩, h3⟩, h4, h5⟩
      refine ⟨⟨⟨h2, h3⟩, h4⟩, decide_eq_true ?_⟩
      rcases h5 with rfl | h5
      · simp [sizeFL]; omega
      · omega
    · rintro ⟨⟨⟨h2, h3⟩, h4⟩, h5⟩
      have h5 := of_decide_eq_true h5
      exact ⟨⟨⟨by omega, h2⟩, h3⟩, h4, .inr (by omega)⟩
theorem gaf_L (n0 : Int) (pre : List (Int × FT)) (d : Int) : ∀ l : List FT, goodAllF (fxGood n0) pre (preFL d l) = (okFL shFct d l && (l.isEmpty || decide (n0 + pre.length + sizeFL l ≤ 120)))
  | [] => by simp [preFL, goodAllF, okFL]
  | x :: l => by
    simp only [preFL, okFL, sizeFL]
    rw [goodAllF_append, gaf_F n0 pre d x, gaf_L n0 (pre ++ preF d x) d l]
    simp only [List.length_append, pre_lenF]
    rw [Bool.eq_iff_iff]
    simp only [Bool.and_eq_true, decide_eq_true_eq, Bool.or_eq_true, List.isEmpty_iff, List.isEmpty_cons]
    have hx := sizeF_pos x
    constructor
    · rintro ⟨⟨h1, h2⟩, h3, h4⟩
      refine ⟨⟨h1, h3⟩, .inr (decide_eq_true ?_)⟩
      rcases h4 with rfl | h4
      · simp [sizeFL]; omega
      · omega
    · rintro ⟨⟨h1, h3⟩, h4⟩
      have h4 := of_decide_eq_true (h4.resolve_left (by simp))
      exact ⟨⟨h1, by omega⟩, h3, .inr (by omega)⟩
end
def fxOk (n0 : Int) (e : FT) : Bool := okF shFct 1 e && decide (n0 + sizeF e ≤ 120)
theorem gaf_top (n0 : Int) (e : FT) : goodAllF (fxGood n0) [] (preF 1 e) = fxOk n0 e := by rw [gaf_F]; simp [fxOk]
theorem FxJ.start {g s : Nat} {n0 : Int} {w : World} (hsc : Sc w g s) (hk : KindsF w) (hcnt : w.cell? ⟨g, 4, none⟩ = some (.int .i64 n0)) (hfr : w.frozen? ⟨g, 4, none⟩ = false) (hn1 : n0 ≤ 120) (T1 T2 : TypeId) (v2 : Value) (r : Loop) :
    FxJ g s w.heap.size (w.heap.size + 2) (w.heap.size + 3) r n0 [] ((((w.alloc (.cells #[.pointer (some ⟨s, 0, none⟩)] T1)).alloc (.cells #[v2] T2)).alloc (.deferred (some []))).alloc (.loop r)) := by
  have hb : Below w.heap.size w ((((w.alloc (.cells #[.pointer (some ⟨s, 0, none⟩)] T1)).alloc (.cells #[v2] T2)).alloc (.deferred (some []))).alloc (.loop r)) :=
    (((((Below.refl _ w).alloc (Nat.le_refl _) _).alloc (by simp) _).alloc (by simp; try omega) _).alloc (by simp; try omega) _)
  have hb1 : Below (w.alloc (.cells #[.pointer (some ⟨s, 0, none⟩)] T1)).heap.size (w.alloc (.cells #[.pointer (some ⟨s, 0, none⟩)] T1)) ((((w.alloc (.cells #[.pointer (some ⟨s, 0, none⟩)] T1)).alloc (.cells #[v2] T2)).alloc (.deferred (some []))).alloc (.loop r)) :=
    ((((Below.refl _ _).alloc (Nat.le_refl _) _).alloc (by simp) _).alloc (by simp; try omega) _)
  refine ⟨(hb1.cell (p := ⟨w.heap.size, 0, none⟩) (by show w.heap.size < _; simp)).trans (by rw [World.cell?_alloc_at _ _ _ _ rfl]; simp), hsc.below hb, ?_, (hb.frozen (p := ⟨g, 4, none⟩) (cell_lt hcnt)).trans hfr, ?_, ?_, ?_, by simpa using hn1, fun y hy => by cases hy⟩
  · rw [hb.cell (p := ⟨g, 4, none⟩) (cell_lt hcnt), hcnt]; simp
  · intro op ho
    have hz := cell_lt (hk 0 (by omega)).1
    obtain ⟨k0, k1, k2, k3⟩ := hk op ho
    exact ⟨(hb.cell (p := ⟨_, _, none⟩) hz).trans k0, (hb.cell (p := ⟨_, _, none⟩) hz).trans k1, (hb.cell (p := ⟨_, _, none⟩) hz).trans k2, (hb.cell (p := ⟨_, _, none⟩) hz).trans k3⟩
  · have := World.alloc_heap_new (((w.alloc (.cells #[.pointer (some ⟨s, 0, none⟩)] T1)).alloc (.cells #[v2] T2)).alloc (.deferred (some []))) (.loop r)
    rwa [show (((w.alloc (.cells #[.pointer (some ⟨s, 0, none⟩)] T1)).alloc (.cells #[v2] T2)).alloc (.deferred (some []))).heap.size = w.heap.size + 3 by simp] at this
  · rw [Below.heap_alloc _ _ _ (by simp)]
    have := World.alloc_heap_new ((w.alloc (.cells #[.pointer (some ⟨s, 0, none⟩)] T1)).alloc (.cells #[v2] T2)) (.deferred (some []))
    rwa [show ((w.alloc (.cells #[.pointer (some ⟨s, 0, none⟩)] T1)).alloc (.cells #[v2] T2)).heap.size = w.heap.size + 2 by simp] at this
theorem KindsF.upd {L : List Nat} {w w' : World} (h : KindsF w) (hu : Upd L w w') (hg : 0 ∉ L) : KindsF w' := fun op ho => by
  have hz := cell_lt (h 0 (by omega)).1
  obtain ⟨k0, k1, k2, k3⟩ := h op ho
  exact ⟨(hu.cells _ _ hz hg).trans k0, (hu.cells _ _ hz hg).trans k1, (hu.cells _ _ hz hg).trans k2, (hu.cells _ _ hz hg).trans k3⟩
theorem KindsF.set4 {w : World} {g : Nat} (h : KindsF w) (hg : g ≠ 0) (v : Value) : KindsF (w.setCell ⟨g, 4, none⟩ v) := fun op ho => by
  obtain ⟨k0, k1, k2, k3⟩ := h op ho
  exact ⟨(set4_other _ _ _ _ _ (.inl (Ne.symm hg))).trans k0, (set4_other _ _ _ _ _ (.inl (Ne.symm hg))).trans k1, (set4_other _ _ _ _ _ (.inl (Ne.symm hg))).trans k2, (set4_other _ _ _ _ _ (.inl (Ne.symm hg))).trans k3⟩
theorem taf_fact (cs : List Value) (w : World) : (Instr.typeAssert (ifF cs) 43 50 true).run Tryz.prog w = .ok (.tuple #[.agg cs.toArray, .bool true]) w := by kernel_rfl
/-- what examine comes to -/
def FxmP (g : Nat) (n0 : Int) (e : FT) (w : World) (en : Ending) (w' : World) : Prop :=
  Upd [g] w w' ∧ ((fxOk n0 e = true ∧ en = rn ∧ w'.cell? ⟨g, 4, none⟩ = some (.int .i64 (n0 + sizeF e))) ∨ (fxOk n0 e = false ∧ en = pe))
set_option maxRecDepth 100000 in
set_option maxHeartbeats 4000000 in
theorem examine_anyF (W0 : World) (e : FT) (cs : List Value) (hr : FctR W0 e cs) (g s : Nat) (n0 : Int) (w : World) (hB : Below W0.heap.size W0 w) (hg0 : W0.heap.size ≤ g) (hg1 : g ≠ 0) (hsc : Sc w g s) (hk : KindsF w) (hcnt : w.cell? ⟨g, 4, none⟩ = some (.int .i64 n0)) (hfr : w.frozen? ⟨g, 4, none⟩ = false) (hn0 : 0 ≤ n0) (hn1 : n0 ≤ 120) :
    Calls Tryz.prog 17 #[.pointer (some ⟨s, 0, none⟩), ifF cs] w (FxmP g n0 e w) := by
  refine calls_of_wpAt Tryz.func17 rfl ?_
  simp only [Tryz.ntmps17, List.size_toArray, List.length_cons, List.length_nil, Nat.reduceAdd, Nat.reduceSub, Array.replicate_succ, Array.replicate_zero, List.push_toArray, List.append_toArray, List.nil_append, List.cons_append]
  have hfw : ∀ f, Fence.wide.fn f := fun _ => trivial
  have hdw : Fence.wide.depth.isSome = false := rfl
  have HK := Lib.hid hk; clear hk
  have HSC := Lib.hid hsc; clear hsc
  have hgl := cell_lt hcnt
  refine wpAt_seq (wpAt_of_wpIn 0 ?_)
  gi_wp2_with fail
  refine wpAt_seq (wpAt_of_wpIn 0 ?_)
  gi_wp2_with (gi_at_call 11; refine (callsIn_wide.2 (nodes_anyF _ _ ⟨_, rfl⟩)).mono ?_; rintro e w2 ⟨rfl, rfl⟩)
  refine wpAt_block ?_
  refine range_nodesF W0 e cs hr (w.heap.size + 1) rfl (by exact (hB.alloc hB.size _).alloc (by have := hB.size; simp; omega) _) (by rw [World.cell?_alloc_at _ _ _ _ (by simp)]; rfl) [g, w.heap.size + 3] (fxGood n0)
    (fun r => FxJ g s w.heap.size (w.heap.size + 2) (w.heap.size + 3) r n0) (fun _ _ => True) trivial (by intro b hb; simp at hb ⊢; omega) ?HR (FxJ.start HSC.out HK.out hcnt hfr hn1 _ _ _ _) ?hn ?hp
  case hn =>
    intro W' W6 hu hgd hj hu6
    have hsz : ((w.alloc (.cells #[.pointer (some ⟨s, 0, none⟩)] 47)).alloc (.cells #[ifF cs] 43)).heap.size = w.heap.size + 2 := by simp
    rw [hsz] at hu6
    refine ⟨by simp, .inl ⟨_, _, rfl, run_takeDeferred (by rw [hsz]; exact (hu6.block _ (lt_of_block hj.def_) (by simp)).trans hj.def_), ?_⟩⟩
    refine ⟨_, results_none rfl _ _ _, ?_, .inl ⟨by rw [← gaf_top]; exact hgd, rfl, ?_⟩⟩
    · refine Fs.Upd.putObj (Upd.step (Upd.step (L := [g]) ((((Upd.refl _ w).alloc _).alloc _).alloc _ |>.alloc _) hu ?_) hu6 ?_) ?_ _
      · intro x hx hlt; simp at hx ⊢; omega
      · intro x hx hlt; simp at hx ⊢; omega
      · intro h; rw [hsz] at h; omega
    · rw [World.cell?_of_block (World.putObj_heap_other (by rw [hsz]; show g ≠ _; omega)), hu6.cells g 4 (cell_lt hj.cnt) (by simp; omega), hj.cnt, pre_lenF]
  case hp =>
    intro W' hu hgd
    have hsz : ((w.alloc (.cells #[.pointer (some ⟨s, 0, none⟩)] 47)).alloc (.cells #[ifF cs] 43)).heap.size = w.heap.size + 2 := by simp
    refine ⟨by simp, .inl ⟨_, _, rfl, run_takeDeferred ((hu.block _ (by simp) (by simp; try omega)).trans (by rw [Below.heap_alloc _ _ _ (by simp)]; exact World.alloc_heap_new _ _)), ?_⟩⟩
    refine ⟨?_, .inr ⟨by rw [← gaf_top]; exact hgd, rfl⟩⟩
    refine Fs.Upd.putObj (Upd.step (L := [g]) ((((Upd.refl _ w).alloc _).alloc _).alloc _ |>.alloc _) hu ?_) ?_ _
    · intro x hx hlt; simp at hx ⊢; omega
    · intro h; rw [hsz] at h; omega
  case HR =>
    have hsz : ((w.alloc (.cells #[.pointer (some ⟨s, 0, none⟩)] 47)).alloc (.cells #[ifF cs] 43)).heap.size = w.heap.size + 2 := by simp
    refine ⟨rfl, by intro b hb; have := hB.size; simp at hb; omega, fun pre W h => by rw [hsz]; exact h.rec_, fun _ _ _ h hb => h.keep hb, fun pre d x W _ h => by have := h.deep (d, x) (by simp); simp at this; omega, by intros; trivial, ?_⟩
    intro n pre d x cs' W hd1 hd2 _ hx hBW hJ
    obtain ⟨pv, v, rfl, own, a, cap, rfl⟩ := hx.six
    obtain ⟨pa, pc, rfl, hso⟩ := own.p.opened
    have hpl : ((FT.path x).length : Int) ≤ 9223372036854775807 := by have := own.p1; unfold maxLen at this; omega
    have HSO := Lib.hid hso; clear hso
    refine roundIn_of_wpInP trivial ⟨_, Tryz.func17⟩ ?_
    simp only [rt]
    rw [hsz]
    have h_box := hJ.box
    have h_cnt := hJ.cnt
    have h_free := hJ.free
    have h_rec := hJ.rec_
    have h_many := hJ.many
    have h_glob := hJ.sc.glob
    have HJ := Lib.hid hJ; clear hJ
    have hsl := cell_lt HSC.out.glob
    obtain ⟨W2, hrun, hl2, hu2⟩ := begin_round (P := Tryz.prog) h_rec rfl
    have c_box := (hu2.cells _ 0 (cell_lt h_box) (by simp)).trans h_box
    have c_glob := (hu2.cells _ 0 (cell_lt h_glob) (by simp; try omega)).trans h_glob
    have c_cnt := (hu2.cells _ 4 (cell_lt h_cnt) (by simp; try omega)).trans h_cnt
    have c_free := (hu2.frozens _ 4 (cell_lt h_cnt) (by simp; try omega)).trans h_free
    have hbs := cell_lt c_box
    have SC2 := Lib.hid (HJ.out.sc.upd hu2 (by simp; try omega) (by simp; try omega))
    have K2 := Lib.hid (HJ.out.kinds.upd hu2 (by have := cell_lt (HK.out 0 (by omega)).1; simp; try omega))
    have HU2 := Lib.hid hu2; clear hu2
    have HL2 := Lib.hid hl2; clear hl2
    have HRN := Lib.hid hrun; clear hrun
    clear h_rec h_box h_glob h_cnt h_free
    have hB2 : Below W0.heap.size W0 W2 := hBW.trans (HU2.out.below W0.heap.size hBW.size (by intro z hz; have := hB.size; simp at hz; omega))
    have hB0 := Lib.hid hB2; clear hB2
    have hW2s : W0.heap.size ≤ W2.heap.size := hB0.out.size
    have hU2 : Upd [g, w.heap.size + 3] W W2 := HU2.out.mono (fun y hy _ => by simp at hy ⊢; omega)
    have HUU := Lib.hid hU2; clear hU2
    by_cases k1 : n0 + pre.length + 1 ≤ 120
    · by_cases k2 : d ≤ 12
      · have hgd : fxGood n0 pre (d, x) = shFct (FT.op x) (FT.name x) (FT.path x) (FT.cls x) (FT.n x) (FT.kids x).length := by unfold fxGood; rw [decide_eq_true k1, decide_eq_true (p := (d, x).1 ≤ 12) k2]; rfl
        have HGD := Lib.hid hgd; clear hgd
        have hta := taf_fact
        gi_wp2_with (rw [Oper.semAt_eq _ _ _ (fun c h => by cases h)]; go_simp; try go_bits)
        refine ⟨W2, HRN.out, ?_⟩
        gi_wp2_with (first
          | (rw [Oper.semAt_eq _ _ _ (fun c h => by cases h)]; go_simp; try go_bits)
          | (gi_at_call 39; refine (CallsIn.inRound _ (callsIn_wide.2 (need_any _ _))).mono ?_; (rintro e w' ⟨rfl, ⟨hb, rfl⟩ | ⟨hb, rfl⟩⟩ <;> (first | (cases hb; done) | (exfalso; simp at hb; omega) | skip)))
          | (gi_at_call 40; refine (CallsIn.inRound _ (callsIn_wide.2 (xf_any W0 g s (FT.op x) (FT.n x) (FT.name x) (FT.cls x) (FT.path x) pa a pc (FT.kids x).length cap _ (by exact hB0.out.trans ((show Below W0.heap.size W2 _ from (by repeat (first | exact Below.refl _ _ | refine Below.alloc ?_ (by simp; try omega) _ | refine Below.setCell ?_ (by simp; try omega) _ | refine Below.drew ?_))))) HSO.out hpl (by exact (SC2.out.set4 _).below (by repeat (first | exact Below.refl _ _ | refine Below.alloc ?_ (by simp; try omega) _ | refine Below.setCell ?_ (by simp; try omega) _ | refine Below.drew ?_))) (by exact ((K2.out.set4 hg1 _).upd (Upd.ofBelow [] (by repeat (first | exact Below.refl _ _ | refine Below.alloc ?_ (by simp; try omega) _ | refine Below.setCell ?_ (by simp; try omega) _ | refine Below.drew ?_))) (by simp)))))).mono ?_; rintro e w4 ⟨hb4, ⟨hb, rfl⟩ | ⟨hb, rfl⟩⟩))
        · have hb4' : Below ((W2.setCell ⟨g, 4, none⟩ (.int .i64 (n0 + pre.length + 1))).alloc (.cells #[.int .i64 (FT.op x), .string (FT.name x), .slice pa (FT.path x).length pc, .string (FT.cls x), .int .i64 (FT.n x), .slice a (FT.kids x).length cap] 50)).heap.size ((W2.setCell ⟨g, 4, none⟩ (.int .i64 (n0 + pre.length + 1))).alloc (.cells #[.int .i64 (FT.op x), .string (FT.name x), .slice pa (FT.path x).length pc, .string (FT.cls x), .int .i64 (FT.n x), .slice a (FT.kids x).length cap] 50)) w4 := hb4
          have hW3 : Below (W2.setCell ⟨g, 4, none⟩ (.int .i64 (n0 + pre.length + 1))).heap.size (W2.setCell ⟨g, 4, none⟩ (.int .i64 (n0 + pre.length + 1))) w4 := ((Below.refl _ _).alloc (Nat.le_refl _) _).trans (hb4'.mono (by simp))
          have hsz3 : (W2.setCell ⟨g, 4, none⟩ (.int .i64 (n0 + pre.length + 1))).heap.size = W2.heap.size := by simp [World.setCell]
          have hlt := lt_of_block HL2.out
          have hl4 := (hW3.block (w.heap.size + 3) (by rw [hsz3]; exact hlt)).trans ((Below.heap_setCell _ _ _ _ (by show w.heap.size + 3 ≠ g; omega)).trans HL2.out)
          obtain ⟨W5, hend, hl5, hu5⟩ := end_round (P := Tryz.prog) hl4
          have hch : Upd [g, w.heap.size + 3] W2 W5 := (((Upd.refl _ W2).setCell (fun _ => by simp) _).step (Upd.ofBelow [] hW3) (fun _ h => by cases h)).step hu5 (fun y hy _ => by simp at hy ⊢; omega)
          have hgs : g < W2.heap.size := cell_lt c_cnt
          refine ⟨_, W5, hend, HUU.out.trans hch, .inl ⟨HGD.out.trans hb, rfl, ?_⟩⟩
          refine ⟨(hch.cells _ 0 hbs (by simp; try omega)).trans c_box, ((SC2.out.set4 _).below hW3).upd hu5 (by simp; try omega) (by simp; try omega), ?_, ?_, ((K2.out.set4 hg1 _).upd (Upd.ofBelow [] hW3) (by simp)).upd hu5 (by have := cell_lt (HK.out 0 (by omega)).1; simp; try omega), hl5, ?_, by simp; try omega, ?_⟩
          · rw [hu5.cells g 4 (Nat.lt_of_lt_of_le (by rw [hsz3]; exact hgs) hW3.size) (by simp; try omega), hW3.cell (p := ⟨g, 4, none⟩) (by rw [hsz3]; exact hgs), World.cell?_setCell_same' _ _ _ (by rw [c_cnt]; rfl)]
            simp; omega
          · rw [hu5.frozens g 4 (Nat.lt_of_lt_of_le (by rw [hsz3]; exact hgs) hW3.size) (by simp; try omega), hW3.frozen (p := ⟨g, 4, none⟩) (by rw [hsz3]; exact hgs), World.frozen?_setCell]
            exact c_free
          · have hd2 := (HU2.out.block (w.heap.size + 2) (lt_of_block HJ.out.def_) (by simp)).trans HJ.out.def_
            exact (hch.block _ (lt_of_block hd2) (by simp; try omega)).trans hd2
          · intro y hy
            rcases List.mem_append.1 hy with hy | hy
            · exact HJ.out.deep y hy
            · rw [List.mem_singleton.1 hy]; exact k2
        · exact ⟨rfl, ((HUU.out.setCell (fun _ => by simp) _).alloc _).step (Upd.ofBelow [] hb4) (fun _ h => by cases h), .inr ⟨HGD.out.trans hb, rfl⟩⟩
      · have hgd : fxGood n0 pre (d, x) = false := by unfold fxGood; rw [decide_eq_false (p := (d, x).1 ≤ 12) k2]; simp
        have HGD := Lib.hid hgd; clear hgd
        gi_wp2_with (rw [Oper.semAt_eq _ _ _ (fun c h => by cases h)]; go_simp; try go_bits)
        refine ⟨W2, HRN.out, ?_⟩
        gi_wp2_with (first
          | (rw [Oper.semAt_eq _ _ _ (fun c h => by cases h)]; go_simp; try go_bits)
          | (gi_at_call 39; refine (CallsIn.inRound _ (callsIn_wide.2 (need_any _ _))).mono ?_; (rintro e w' ⟨rfl, ⟨hb, rfl⟩ | ⟨hb, rfl⟩⟩ <;> (first | (cases hb; done) | (exfalso; simp at hb; omega) | skip))))
        exact ⟨rfl, HUU.out.setCell (fun _ => by simp) _, .inr ⟨HGD.out, rfl⟩⟩
    · have hgd : fxGood n0 pre (d, x) = false := by unfold fxGood; rw [decide_eq_false k1]; simp
      have HGD := Lib.hid hgd; clear hgd
      gi_wp2_with (rw [Oper.semAt_eq _ _ _ (fun c h => by cases h)]; go_simp; try go_bits)
      refine ⟨W2, HRN.out, ?_⟩
      gi_wp2_with (first
        | (rw [Oper.semAt_eq _ _ _ (fun c h => by cases h)]; go_simp; try go_bits)
        | (gi_at_call 39; refine (CallsIn.inRound _ (callsIn_wide.2 (need_any _ _))).mono ?_; (rintro e w' ⟨rfl, ⟨hb, rfl⟩ | ⟨hb, rfl⟩⟩ <;> (first | (cases hb; done) | (exfalso; simp at hb; omega) | skip))))
      exact ⟨rfl, HUU.out.setCell (fun _ => by simp) _, .inr ⟨HGD.out, rfl⟩⟩
end Go.Proofs.YtnipdjkopmjoeaaGreatDoor
namespace Go.Proofs.YtnipdjkopmjoeaaGreatDoor
open Go.ChangeShapes Go.WideShapes Go.ChangeAt Go.RowKit Go.Fs
def formF (e : FT) : Bool := okF shFct 1 e && decide ((sizeF e : Int) ≤ 120)
theorem fxOk_form (e : FT) : fxOk 0 e = formF e := by unfold fxOk formF; simp
set_option maxRecDepth 100000 in
set_option maxHeartbeats 2000000 in
theorem checkFact1_any (W0 : World) (e : FT) (cs : List Value) (hr : FctR W0 e cs) (ce : Nat) (w : World) (hB : Below W0.heap.size W0 w) (hk : KindsF w) (hat : At w ce 0 cs) :
    Calls Tryz.prog 18 #[.pointer (some ⟨ce, 0, none⟩)] w (ExP (formF e) w) := by
  have hx := fun g s n0 w => examine_anyF W0 e cs hr g s n0 w
  obtain ⟨pv, v, rfl, own, a, cap, rfl⟩ := hr.six
  obtain ⟨pa, pc, rfl, _⟩ := own.p.opened
  have c0 : w.cell? ⟨ce, 0, none⟩ = some (.int .i64 (FT.op e)) := by simpa using hat 0 _ rfl
  have c1 : w.cell? ⟨ce, 1, none⟩ = some (.string (FT.name e)) := by simpa using hat 1 _ rfl
  have c2 : w.cell? ⟨ce, 2, none⟩ = some (.slice pa (FT.path e).length pc) := by simpa using hat 2 _ rfl
  have c3 : w.cell? ⟨ce, 3, none⟩ = some (.string (FT.cls e)) := by simpa using hat 3 _ rfl
  have c4 : w.cell? ⟨ce, 4, none⟩ = some (.int .i64 (FT.n e)) := by simpa using hat 4 _ rfl
  have c5 : w.cell? ⟨ce, 5, none⟩ = some (.slice a (FT.kids e).length cap) := by simpa using hat 5 _ rfl
  have hce := cell_lt c0
  have hz1 := cell_lt (hk 0 (by omega)).1
  have hz0 : w.heap.size ≠ 0 := by omega
  have HX := Lib.hid hx; clear hx
  have HK := Lib.hid hk; clear hk
  have HB := Lib.hid hB; clear hB hat
  have hfin : Calls Tryz.prog 17 #[.pointer (some ⟨w.heap.size + 1, 0, none⟩), ifF [.int .i64 (FT.op e), .string (FT.name e), .slice pa (FT.path e).length pc, .string (FT.cls e), .int .i64 (FT.n e), .slice a (FT.kids e).length cap]]
      ((w.drew.alloc (.cells gCells 86)).alloc (.cells #[.pointer (some ⟨w.heap.size, 0, none⟩), .map none, .bool true] 88)) fun e1 w3 =>
      (formF e = true ∧ e1 = rn ∧ Below w.heap.size w w3) ∨ (formF e = false ∧ e1 = pe ∧ Below w.heap.size w w3) := by
    obtain ⟨s1, s2, s3⟩ := alone_sc w.drew
    have hbl : Below w.heap.size w ((w.drew.alloc (.cells gCells 86)).alloc (.cells #[.pointer (some ⟨w.heap.size, 0, none⟩), .map none, .bool true] 88)) := (((Below.refl _ w).drew).alloc (Nat.le_refl _) _).alloc (by simp) _
    refine (HX.out w.heap.size (w.heap.size + 1) 0 _ (by exact HB.out.trans (hbl.mono HB.out.size)) HB.out.size (by omega) s1 (HK.out.upd (Upd.ofBelow [] hbl) (by simp)) s2 s3 (by omega) (by omega)).mono ?_
    rintro e1 w3 ⟨hu, ⟨hb, rfl, _⟩ | ⟨hb, rfl⟩⟩
    · exact .inl ⟨by rw [← fxOk_form]; exact hb, rfl, hbl.trans (hu.below _ (by simp; try omega) (by intro x hx; simp at hx; omega))⟩
    · exact .inr ⟨by rw [← fxOk_form]; exact hb, rfl, hbl.trans (hu.below _ (by simp; try omega) (by intro x hx; simp at hx; omega))⟩
  have FIN := Lib.hid hfin; clear hfin
  go_enter Tryz.func18, Tryz.ntmps18
  go_wp2_with fail
  refine region_any (by kernel_rfl) ?_
  refine wpAny_ready (rs := [0, 1]) (by kernel_rfl) (by simp) (AllReady.cons rfl (fun K1 hK1 => ?_) (AllReady.cons rfl (fun K1 hK1 => ?_) AllReady.nil))
  · go_simp
    refine (alone_any _).mono ?_
    rintro e1 w1 ⟨rfl, rfl⟩
    go_simp
    refine hK1 _ _ ?_
    refine wpAny_ready (rs := [1]) (by kernel_rfl) (by simp) (AllReady.cons rfl (fun K2 hK2 => ?_) AllReady.nil)
    go_simp
    refine hK2 _ _ ?_
    refine wpAny_ready (rs := [2]) (by kernel_rfl) (by simp) (AllReady.cons rfl (fun K3 hK3 => ?_) AllReady.nil)
    go_simp
    refine hK3 _ _ ?_
    refine wpAny_ready (rs := [3]) (by kernel_rfl) (by simp) (AllReady.cons rfl (fun K4 hK4 => ?_) AllReady.nil)
    go_simp
    refine FIN.out.mono ?_
    rintro e1 w3 (⟨hb, rfl, hbel⟩ | ⟨hb, rfl, hbel⟩)
    · go_simp
      refine hK4 _ _ ?_
      refine wpAny_done (by kernel_rfl) ?_ _
      exact bodyPost_end (results_none rfl _ _ _) rfl ⟨hbel, .inl ⟨hb, rfl⟩⟩
    · exact ⟨rfl, hbel, .inr ⟨hb, rfl⟩⟩
  · go_simp
    refine hK1 _ _ ?_
    refine wpAny_ready (rs := [0, 2]) (by kernel_rfl) (by simp) (AllReady.cons rfl (fun K2 hK2 => ?_) (AllReady.cons rfl (fun K2 hK2 => ?_) AllReady.nil))
    · go_simp
      refine (alone_any _).mono ?_
      rintro e1 w1 ⟨rfl, rfl⟩
      go_simp
      refine hK2 _ _ ?_
      refine wpAny_ready (rs := [2]) (by kernel_rfl) (by simp) (AllReady.cons rfl (fun K3 hK3 => ?_) AllReady.nil)
      go_simp
      refine hK3 _ _ ?_
      refine wpAny_ready (rs := [3]) (by kernel_rfl) (by simp) (AllReady.cons rfl (fun K4 hK4 => ?_) AllReady.nil)
      go_simp
      refine FIN.out.mono ?_
      rintro e1 w3 (⟨hb, rfl, hbel⟩ | ⟨hb, rfl, hbel⟩)
      · go_simp
        refine hK4 _ _ ?_
        refine wpAny_done (by kernel_rfl) ?_ _
        exact bodyPost_end (results_none rfl _ _ _) rfl ⟨hbel, .inl ⟨hb, rfl⟩⟩
      · exact ⟨rfl, hbel, .inr ⟨hb, rfl⟩⟩
    · go_simp
      refine hK2 _ _ ?_
      refine wpAny_ready (rs := [0]) (by kernel_rfl) (by simp) (AllReady.cons rfl (fun K3 hK3 => ?_) AllReady.nil)
      go_simp
      refine (alone_any _).mono ?_
      rintro e1 w1 ⟨rfl, rfl⟩
      go_simp
      refine hK3 _ _ ?_
      refine wpAny_ready (rs := [3]) (by kernel_rfl) (by simp) (AllReady.cons rfl (fun K4 hK4 => ?_) AllReady.nil)
      go_simp
      refine FIN.out.mono ?_
      rintro e1 w3 (⟨hb, rfl, hbel⟩ | ⟨hb, rfl, hbel⟩)
      · go_simp
        refine hK4 _ _ ?_
        refine wpAny_done (by kernel_rfl) ?_ _
        exact bodyPost_end (results_none rfl _ _ _) rfl ⟨hbel, .inl ⟨hb, rfl⟩⟩
      · exact ⟨rfl, hbel, .inr ⟨hb, rfl⟩⟩
set_option maxRecDepth 100000 in
set_option maxHeartbeats 2000000 in
theorem checkFact_any (W0 : World) (e : FT) (cs : List Value) (hr : FctR W0 e cs) (w : World) (hB : Below W0.heap.size W0 w) (hk : KindsF w) :
    Calls Tryz.prog 8 #[.agg cs.toArray] w (AttP (formF e) w) := by
  have hmf : ∀ (fn : Fn) (first cap : Array Value) (w : World), (Instr.makeFunc fn first cap).run Tryz.prog w = .ok (.func fn first cap) w := fun _ _ _ _ => rfl
  have hc := fun ce w => checkFact1_any W0 e cs hr ce w
  obtain ⟨pv, v, rfl, own, a, cap, rfl⟩ := hr.six
  obtain ⟨pa, pc, rfl, _⟩ := own.p.opened
  have hat : ∀ w', Below (w.heap.size + 1) (w.alloc (.cells #[.int .i64 (FT.op e), .string (FT.name e), .slice pa (FT.path e).length pc, .string (FT.cls e), .int .i64 (FT.n e), .slice a (FT.kids e).length cap] 30)) w' → Calls Tryz.prog 18 #[.pointer (some ⟨w.heap.size, 0, none⟩)] w' (ExP (formF e) w') := by
    intro w' hw
    have hb1 : Below w.heap.size w w' := ((Below.refl _ w).alloc (Nat.le_refl _) _).trans (hw.mono (by omega))
    refine hc w.heap.size w' (hB.trans (hb1.mono hB.size)) (hk.upd (Upd.ofBelow [] hb1) (by simp)) ?_
    intro j u hj
    rw [hw.cell (p := ⟨w.heap.size, 0 + j, none⟩) (by show w.heap.size < _; omega), World.cell?_alloc_at _ _ _ _ rfl, Nat.zero_add]
    simpa using hj
  have HA := Lib.hid hat; clear hat
  go_enter Tryz.func8, Tryz.ntmps8
  go_wp2_with (go_at_call 14; refine (attempt_any 18 #[.pointer (some ⟨w.heap.size, 0, none⟩)] (formF e) _ (fun _ => by kernel_rfl) (fun w' hw => HA.out w' (by simpa using hw))).mono ?_; rintro e1 w1 ⟨rfl, hb1⟩; have HB1 := Lib.hid hb1; clear hb1)
  all_goals go_ret
  all_goals exact ⟨rfl, ((Below.refl _ _).alloc (Nat.le_refl _) _).trans (HB1.out.mono (by simp))⟩
end Go.Proofs.YtnipdjkopmjoeaaGreatDoor
namespace Go.Proofs.YtnipdjkopmjoeaaGreatDoor
open Go.ChangeShapes Go.WideShapes Go.ChangeAt Go.RowKit Go.Fs
theorem cellsOf_exp : Tryz.prog.cellsOf 25 = 4 := by kernel_rfl
theorem cellsOf_fact : Tryz.prog.cellsOf 30 = 6 := by kernel_rfl
theorem cellsOf_int : Tryz.prog.cellsOf 3 = 1 := by kernel_rfl
theorem cellsOf_op : Tryz.prog.cellsOf 22 = 1 := by kernel_rfl
theorem cellsOf_fop : Tryz.prog.cellsOf 26 = 1 := by kernel_rfl
theorem cellsOf_str : Tryz.prog.cellsOf 9 = 1 := by kernel_rfl
theorem cellsOf_exps : Tryz.prog.cellsOf 23 = 1 := by kernel_rfl
theorem cellsOf_facts : Tryz.prog.cellsOf 28 = 1 := by kernel_rfl
theorem cellsOf_strs : Tryz.prog.cellsOf 27 = 1 := by kernel_rfl
variable {H : Type} {enc : TypeId × Value → H} {W : World} {spare : Nat → Bool} {held : Bool}
theorem cells_at {n : Nat} {a : Addr} {cs : List Value} (h : W.cells? 0 a n = some cs) (hn : 0 < n) : a.spot = none ∧ a.block < W.heap.size ∧ cs.length = n ∧ At W a.block a.off cs := by
  unfold World.cells? at h
  rw [if_pos (Nat.zero_le _)] at h
  have hl : cs.length = n := by simpa using mapM_some_length h
  have hg : ∀ i, i < n → W.cell? (a.add i) = cs[i]? := fun i hi => mapM_some_get h i i (by simp [hi])
  have h0 := hg 0 hn
  obtain ⟨v, hv⟩ : ∃ v, cs[0]? = some v := ⟨cs[0]'(by omega), List.getElem?_eq_getElem _⟩
  rw [hv] at h0
  obtain ⟨b, o, sp⟩ := a
  have hsp : sp = none := by simpa [Addr.add] using World.cell?_spot h0
  subst hsp
  refine ⟨rfl, ?_, hl, ?_⟩
  · have := cell_lt (b := b) (o := o + 0) (by simpa [Addr.add] using h0)
    exact this
  · intro j u hj
    have hjn : j < n := by rw [← hl]; exact (List.getElem?_eq_some_iff.1 hj).1
    have := hg j hjn
    rw [hj, WideShapes.add_plain] at this
    exact this
theorem one_of {n : Nat} {t : TypeId} {cs : List Value} {xs : List (DataW H × List MemPlace)} {i : Nat} (h : DataW.trod enc Tryz.prog W 0 spare held n t cs = xs[i]?) (hi : i < xs.length) : ∃ x, DataW.trod enc Tryz.prog W 0 spare held n t cs = some x := ⟨xs[i], by rw [h, List.getElem?_eq_getElem hi]⟩
set_option maxRecDepth 100000 in
theorem open_exp : ∀ (fuel : Nat) (cs : List Value) (x : DataW H × List MemPlace), DataW.trod enc Tryz.prog W 0 spare held fuel 25 cs = some x → ∃ e, ExpR W e cs := by
  intro fuel
  induction fuel using Nat.strongRecOn with
  | _ fuel ih =>
    intro cs x h
    obtain ⟨xs, n, rfl, _, hl, hxl, hm⟩ := DataW.trod_struct Tryz.underlying25 h
    rw [cellsOf_exp] at hl
    have hxl : xs.length = 4 := hxl
    match cs, hl with
    | [c0, c1, c2, c3], _ =>
      have m0 : DataW.trod enc Tryz.prog W 0 spare held n 22 [c0] = xs[0]? := by
        have h : DataW.trod enc Tryz.prog W 0 spare held n 22 (List.take (Tryz.prog.cellsOf 22) (List.drop 0 [c0, c1, c2, c3])) = xs[0]? := hm 0 _ rfl
        rw [cellsOf_op] at h; exact h
      have m1 : DataW.trod enc Tryz.prog W 0 spare held n 3 [c1] = xs[1]? := by
        have h : DataW.trod enc Tryz.prog W 0 spare held n 3 (List.take (Tryz.prog.cellsOf 3) (List.drop 1 [c0, c1, c2, c3])) = xs[1]? := hm 1 _ rfl
        rw [cellsOf_int] at h; exact h
      have m2 : DataW.trod enc Tryz.prog W 0 spare held n 9 [c2] = xs[2]? := by
        have h : DataW.trod enc Tryz.prog W 0 spare held n 9 (List.take (Tryz.prog.cellsOf 9) (List.drop 2 [c0, c1, c2, c3])) = xs[2]? := hm 2 _ rfl
        rw [cellsOf_str] at h; exact h
      have m3 : DataW.trod enc Tryz.prog W 0 spare held n 23 [c3] = xs[3]? := by
        have h : DataW.trod enc Tryz.prog W 0 spare held n 23 (List.take (Tryz.prog.cellsOf 23) (List.drop 3 [c0, c1, c2, c3])) = xs[3]? := hm 3 _ rfl
        rw [cellsOf_exps] at h; exact h
      obtain ⟨y0, m0⟩ := one_of m0 (by omega)
      obtain ⟨y1, m1⟩ := one_of m1 (by omega)
      obtain ⟨y2, m2⟩ := one_of m2 (by omega)
      obtain ⟨y3, m3⟩ := one_of m3 (by omega)
      obtain ⟨op, h0, _, w0⟩ := DataW.trod_int Tryz.underlying22 m0
      obtain ⟨nn, h1, _, w1⟩ := DataW.trod_int Tryz.underlying3 m1
      obtain ⟨s, h2, _, w2⟩ := DataW.trod_string Tryz.underlying9 m2
      cases h0; cases h1; cases h2
      rcases DataW.trod_slice Tryz.underlying23 m3 with ⟨h3, _⟩ | ⟨a, len, cap, elems, rest, k, hk, h3, _, _, hlc, hcm, hel, he, _, _⟩
      · cases h3
        exact ⟨_, .none op nn s none 0 (bounds_i64 w0) (bounds_i64 w1) w2⟩
      · cases h3
        rw [cellsOf_exp] at he
        by_cases hz : len = 0
        · subst hz
          exact ⟨_, .none op nn s (some a) cap (bounds_i64 w0) (bounds_i64 w1) w2⟩
        · have hex : ∀ i, ∃ (cs : List Value) (e : ET), i < len → W.cells? 0 (a.add (i * 4)) 4 = some cs ∧ ExpR W e cs := by
            intro i
            by_cases hi : i < len
            · have hb := he i hi
              rw [List.getElem?_eq_getElem (by omega)] at hb
              obtain ⟨cs, hc1, hc2⟩ := Option.bind_eq_some_iff.1 hb
              obtain ⟨e, hee⟩ := ih k (by omega) cs _ hc2
              exact ⟨cs, e, fun _ => ⟨hc1, hee⟩⟩
            · exact ⟨[], .mk 0 0 ⟨#[]⟩ [], fun h => absurd h hi⟩
          obtain ⟨f, hf⟩ := Classical.axiomOfChoice hex
          obtain ⟨g, hg⟩ := Classical.axiomOfChoice hf
          obtain ⟨b, o, sp⟩ := a
          have hA := fun i hi => cells_at (hg i hi).1 (by omega)
          have hsp : sp = none := by
            have := (hA 0 (by omega)).1
            simpa [Addr.add] using this
          subst hsp
          have hlen : ((List.range len).map g).length = len := by simp
          have := ExpR.some (W := W) op nn s ((List.range len).map g) b o cap f (bounds_i64 w0) (bounds_i64 w1) w2 (by rw [hlen]; omega) (by rw [hlen]; omega) (by have := (hA 0 (by omega)).2.1; rw [WideShapes.add_plain] at this; exact this) (fun i hi => by
            rw [hlen] at hi
            have := (hA i hi).2.2.2
            rw [WideShapes.add_plain] at this; exact this) (fun i k hk => by
            have hi : i < len := by rw [← hlen]; exact (List.getElem?_eq_some_iff.1 hk).1
            have : g i = k := by simpa [hi] using hk
            rw [← this]; exact (hg i hi).2)
          rw [hlen] at this
          exact ⟨_, this⟩
set_option maxRecDepth 100000 in
theorem open_path {n : Nat} {cs : List Value} {x : DataW H × List MemPlace} (h : DataW.trod enc Tryz.prog W 0 spare held n 27 cs = some x) : ∃ v path, cs = [v] ∧ SlR W v path ∧ path.length ≤ maxLen ∧ (∀ s ∈ path, s.size ≤ maxLen) := by
  rcases open_strings Tryz.underlying27 Tryz.underlying9 cellsOf_str h with ⟨hcs, _⟩ | ⟨a, len, cap, ss, hcs, _, hl, hm, hz, _, hcell, hws⟩
  · exact ⟨_, [], hcs, .inl ⟨_, _, rfl, rfl⟩, Nat.zero_le _, fun _ h => by cases h⟩
  · have hlen' : len ≤ ss.length := by rw [hz]; split <;> omega
    have hlen : (ss.take len).length = len := by rw [List.length_take]; omega
    by_cases hl0 : len = 0
    · subst hl0
      exact ⟨_, [], hcs, .inl ⟨_, _, rfl, rfl⟩, Nat.zero_le _, fun _ h => by cases h⟩
    · obtain ⟨b, off, spot⟩ := a
      have hspot : spot = none := by simpa [Addr.add] using World.cell?_spot (hcell 0 (by omega))
      subst hspot
      refine ⟨_, ss.take len, hcs, .inr ⟨b, off, cap, by rw [hlen], fun i s hi => ?_⟩, by rw [hlen]; omega, fun s hs => hws s (List.mem_of_mem_take hs)⟩
      have hi' : i < len := by
        rcases Nat.lt_or_ge i len with h | h
        · exact h
        · rw [List.getElem?_eq_none (by rw [hlen]; exact h)] at hi; cases hi
      have hx : ss[i]? = some s := by rw [List.getElem?_take, if_pos hi'] at hi; exact hi
      have := hcell i (by omega)
      rw [WideShapes.add_plain] at this
      rw [this, List.getD, hx]; rfl
set_option maxRecDepth 100000 in
theorem open_fact : ∀ (fuel : Nat) (cs : List Value) (x : DataW H × List MemPlace), DataW.trod enc Tryz.prog W 0 spare held fuel 30 cs = some x → ∃ e, FctR W e cs := by
  intro fuel
  induction fuel using Nat.strongRecOn with
  | _ fuel ih =>
    intro cs x h
    obtain ⟨xs, n, rfl, _, hl, hxl, hm⟩ := DataW.trod_struct Tryz.underlying30 h
    rw [cellsOf_fact] at hl
    have hxl : xs.length = 6 := hxl
    match cs, hl with
    | [c0, c1, c2, c3, c4, c5], _ =>
      have m0 : DataW.trod enc Tryz.prog W 0 spare held n 26 [c0] = xs[0]? := by
        have h : DataW.trod enc Tryz.prog W 0 spare held n 26 (List.take (Tryz.prog.cellsOf 26) (List.drop 0 [c0, c1, c2, c3, c4, c5])) = xs[0]? := hm 0 _ rfl
        rw [cellsOf_fop] at h; exact h
      have m1 : DataW.trod enc Tryz.prog W 0 spare held n 9 [c1] = xs[1]? := by
        have h : DataW.trod enc Tryz.prog W 0 spare held n 9 (List.take (Tryz.prog.cellsOf 9) (List.drop 1 [c0, c1, c2, c3, c4, c5])) = xs[1]? := hm 1 _ rfl
        rw [cellsOf_str] at h; exact h
      have m2 : DataW.trod enc Tryz.prog W 0 spare held n 27 [c2] = xs[2]? := by
        have h : DataW.trod enc Tryz.prog W 0 spare held n 27 (List.take (Tryz.prog.cellsOf 27) (List.drop 2 [c0, c1, c2, c3, c4, c5])) = xs[2]? := hm 2 _ rfl
        rw [cellsOf_strs] at h; exact h
      have m3 : DataW.trod enc Tryz.prog W 0 spare held n 9 [c3] = xs[3]? := by
        have h : DataW.trod enc Tryz.prog W 0 spare held n 9 (List.take (Tryz.prog.cellsOf 9) (List.drop 3 [c0, c1, c2, c3, c4, c5])) = xs[3]? := hm 3 _ rfl
        rw [cellsOf_str] at h; exact h
      have m4 : DataW.trod enc Tryz.prog W 0 spare held n 3 [c4] = xs[4]? := by
        have h : DataW.trod enc Tryz.prog W 0 spare held n 3 (List.take (Tryz.prog.cellsOf 3) (List.drop 4 [c0, c1, c2, c3, c4, c5])) = xs[4]? := hm 4 _ rfl
        rw [cellsOf_int] at h; exact h
      have m5 : DataW.trod enc Tryz.prog W 0 spare held n 28 [c5] = xs[5]? := by
        have h : DataW.trod enc Tryz.prog W 0 spare held n 28 (List.take (Tryz.prog.cellsOf 28) (List.drop 5 [c0, c1, c2, c3, c4, c5])) = xs[5]? := hm 5 _ rfl
        rw [cellsOf_facts] at h; exact h
      obtain ⟨y0, m0⟩ := one_of m0 (by omega)
      obtain ⟨y1, m1⟩ := one_of m1 (by omega)
      obtain ⟨y2, m2⟩ := one_of m2 (by omega)
      obtain ⟨y3, m3⟩ := one_of m3 (by omega)
      obtain ⟨y4, m4⟩ := one_of m4 (by omega)
      obtain ⟨y5, m5⟩ := one_of m5 (by omega)
      obtain ⟨op, h0, _, w0⟩ := DataW.trod_int Tryz.underlying26 m0
      obtain ⟨s, h1, _, w1⟩ := DataW.trod_string Tryz.underlying9 m1
      obtain ⟨pv, path, h2, hp, hp1, hp2⟩ := open_path m2
      obtain ⟨c, h3, _, w3⟩ := DataW.trod_string Tryz.underlying9 m3
      obtain ⟨nn, h4, _, w4⟩ := DataW.trod_int Tryz.underlying3 m4
      cases h0; cases h1; cases h2; cases h3; cases h4
      rcases DataW.trod_slice Tryz.underlying28 m5 with ⟨h5, _⟩ | ⟨a, len, cap, elems, rest, k, hk, h5, _, _, hlc, hcm, hel, he, _, _⟩
      · cases h5
        exact ⟨_, .none op nn s c path c2 none 0 (bounds_i64 w0) (bounds_i64 w4) w1 w3 hp hp1 hp2⟩
      · cases h5
        rw [cellsOf_fact] at he
        by_cases hz : len = 0
        · subst hz
          exact ⟨_, .none op nn s c path c2 (some a) cap (bounds_i64 w0) (bounds_i64 w4) w1 w3 hp hp1 hp2⟩
        · have hex : ∀ i, ∃ (cs : List Value) (e : FT), i < len → W.cells? 0 (a.add (i * 6)) 6 = some cs ∧ FctR W e cs := by
            intro i
            by_cases hi : i < len
            · have hb := he i hi
              rw [List.getElem?_eq_getElem (by omega)] at hb
              obtain ⟨cs, hc1, hc2⟩ := Option.bind_eq_some_iff.1 hb
              obtain ⟨e, hee⟩ := ih k (by omega) cs _ hc2
              exact ⟨cs, e, fun _ => ⟨hc1, hee⟩⟩
            · exact ⟨[], .mk 0 ⟨#[]⟩ [] ⟨#[]⟩ 0 [], fun h => absurd h hi⟩
          obtain ⟨f, hf⟩ := Classical.axiomOfChoice hex
          obtain ⟨g, hg⟩ := Classical.axiomOfChoice hf
          obtain ⟨b, o, sp⟩ := a
          have hA := fun i hi => cells_at (hg i hi).1 (by omega)
          have hsp : sp = none := by
            have := (hA 0 (by omega)).1
            simpa [Addr.add] using this
          subst hsp
          have hlen : ((List.range len).map g).length = len := by simp
          have := FctR.some (W := W) op nn s c path c2 ((List.range len).map g) b o cap f (bounds_i64 w0) (bounds_i64 w4) w1 w3 hp hp1 hp2 (by rw [hlen]; omega) (by rw [hlen]; omega) (by have := (hA 0 (by omega)).2.1; rw [WideShapes.add_plain] at this; exact this) (fun i hi => by
            rw [hlen] at hi
            have := (hA i hi).2.2.2
            rw [WideShapes.add_plain] at this; exact this) (fun i k hk => by
            have hi : i < len := by rw [← hlen]; exact (List.getElem?_eq_some_iff.1 hk).1
            have : g i = k := by simpa [hi] using hk
            rw [← this]; exact (hg i hi).2)
          rw [hlen] at this
          exact ⟨_, this⟩
end Go.Proofs.YtnipdjkopmjoeaaGreatDoor
