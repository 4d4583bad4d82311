/-
  Expressions and facts as data, worlds but for some blocks, and the small parts of the program that ask one node. No condition.
-/
import Derived.WalkKit
import Derived.WalkSpells
import Derived.Outline
import Derived.ProofKit
import Derived.LoopTactic
import Derived.Lib.Hide
import Derived.OneCell
import Derived.RangeFuncRecord
import Derived.Test.YtnipdjkopmjoeaaGreatDoorRows
import Derived.Deep.QuietTactic
import Derived.BigQuiet
import Derived.WalkLawsBesides
import Derived.StillTailTactics
namespace Go.Fs
/-- an expression as data -/
inductive ET where
  | mk (op n : Int) (text : ByteArray) (kids : List ET)
def ET.op : ET → Int | .mk o _ _ _ => o
def ET.n : ET → Int | .mk _ n _ _ => n
def ET.text : ET → ByteArray | .mk _ _ t _ => t
def ET.kids : ET → List ET | .mk _ _ _ k => k
mutual
def sizeE : ET → Nat | .mk _ _ _ ks => 1 + sizeL ks
def sizeL : List ET → Nat | [] => 0 | k :: ks => sizeE k + sizeL ks
end
mutual
def deepE : ET → Nat | .mk _ _ _ ks => deepL ks + 1
def deepL : List ET → Nat | [] => 0 | k :: ks => max (deepE k) (deepL ks)
end
section
variable (sh : Int → Int → ByteArray → Nat → Bool)
mutual
/-- every node is shaped, and none is deeper than 12 -/
def okE (d : Int) : ET → Bool | .mk o n t ks => decide (d ≤ 12) && sh o n t ks.length && okL (d + 1) ks
def okL (d : Int) : List ET → Bool | [] => true | k :: ks => okE d k && okL d ks
end
theorem okL_append (d : Int) : ∀ (a b : List ET), okL sh d (a ++ b) = (okL sh d a && okL sh d b)
  | [], b => by simp [okL]
  | x :: a, b => by simp [okL, okL_append d a b, Bool.and_assoc]
end
theorem sizeL_append : ∀ (a b : List ET), sizeL (a ++ b) = sizeL a + sizeL b
  | [], b => by simp [sizeL]
  | x :: a, b => by simp [sizeL, sizeL_append a b, Nat.add_assoc]
theorem deepL_append : ∀ (a b : List ET), deepL (a ++ b) = max (deepL a) (deepL b)
  | [], b => by simp [deepL]
  | x :: a, b => by simp [deepL, deepL_append a b, Nat.max_assoc]
theorem sizeE_pos (e : ET) : 1 ≤ sizeE e := by cases e; simp [sizeE]
theorem take_snoc {α : Type} (l : List α) (k : Nat) (x : α) (h : l[k]? = some x) : l.take (k + 1) = l.take k ++ [x] := by
  obtain ⟨hk, rfl⟩ := List.getElem?_eq_some_iff.1 h
  exact List.take_succ_eq_append_getElem hk
theorem take_split {α : Type} (l : List α) (k : Nat) (x : α) (h : l[k]? = some x) : l = l.take k ++ x :: l.drop (k + 1) := by
  obtain ⟨hk, rfl⟩ := List.getElem?_eq_some_iff.1 h
  rw [← List.drop_eq_getElem_cons hk, List.take_append_drop]
section
variable (sh : Int → Int → ByteArray → Nat → Bool)
theorem okL_take (d : Int) (l : List ET) (k : Nat) (x : ET) (h : l[k]? = some x) : okL sh d (l.take (k + 1)) = (okL sh d (l.take k) && okE sh d x) := by
  rw [take_snoc l k x h, okL_append]; simp [okL]
theorem okL_stop (d : Int) (l : List ET) (k : Nat) (x : ET) (h : l[k]? = some x) (hx : okE sh d x = false) : okL sh d l = false := by
  rw [take_split l k x h, okL_append]; simp [okL, hx]
end
theorem sizeL_take (l : List ET) (k : Nat) (x : ET) (h : l[k]? = some x) : sizeL (l.take (k + 1)) = sizeL (l.take k) + sizeE x := by
  rw [take_snoc l k x h, sizeL_append]; simp [sizeL]
theorem sizeL_stop (l : List ET) (k : Nat) (x : ET) (h : l[k]? = some x) : sizeL (l.take k) + sizeE x ≤ sizeL l := by
  have := congrArg sizeL (take_split l k x h)
  rw [sizeL_append] at this; simp [sizeL] at this; omega
theorem deepL_take (l : List ET) (k : Nat) (x : ET) (h : l[k]? = some x) : deepL (l.take (k + 1)) = max (deepL (l.take k)) (deepE x) := by
  rw [take_snoc l k x h, deepL_append]; simp [deepL]
theorem sizeE_kid (o n : Int) (t : ByteArray) (l : List ET) (k : Nat) (x : ET) (h : l[k]? = some x) : sizeE x < sizeE (.mk o n t l) := by
  have := sizeL_stop l k x h
  simp [sizeE]; omega
/-- a fact as data -/
inductive FT where
  | mk (op : Int) (name : ByteArray) (path : List ByteArray) (cls : ByteArray) (n : Int) (kids : List FT)
mutual
def sizeF : FT → Nat | .mk _ _ _ _ _ ks => 1 + sizeFL ks
def sizeFL : List FT → Nat | [] => 0 | k :: ks => sizeF k + sizeFL ks
end
section
variable (sh : Int → ByteArray → List ByteArray → ByteArray → Int → Nat → Bool)
mutual
def okF (d : Int) : FT → Bool | .mk o s p c n ks => decide (d ≤ 12) && sh o s p c n ks.length && okFL (d + 1) ks
def okFL (d : Int) : List FT → Bool | [] => true | k :: ks => okF d k && okFL d ks
end
theorem okFL_append (d : Int) : ∀ (a b : List FT), okFL sh d (a ++ b) = (okFL sh d a && okFL sh d b)
  | [], b => by simp [okFL]
  | x :: a, b => by simp [okFL, okFL_append d a b, Bool.and_assoc]
theorem okFL_take (d : Int) (l : List FT) (k : Nat) (x : FT) (h : l[k]? = some x) : okFL sh d (l.take (k + 1)) = (okFL sh d (l.take k) && okF sh d x) := by
  rw [take_snoc l k x h, okFL_append]; simp [okFL]
theorem okFL_stop (d : Int) (l : List FT) (k : Nat) (x : FT) (h : l[k]? = some x) (hx : okF sh d x = false) : okFL sh d l = false := by
  rw [take_split l k x h, okFL_append]; simp [okFL, hx]
end
theorem sizeFL_append : ∀ (a b : List FT), sizeFL (a ++ b) = sizeFL a + sizeFL b
  | [], b => by simp [sizeFL]
  | x :: a, b => by simp [sizeFL, sizeFL_append a b, Nat.add_assoc]
theorem sizeF_pos (e : FT) : 1 ≤ sizeF e := by cases e; simp [sizeF]
theorem sizeFL_take (l : List FT) (k : Nat) (x : FT) (h : l[k]? = some x) : sizeFL (l.take (k + 1)) = sizeFL (l.take k) + sizeF x := by
  rw [take_snoc l k x h, sizeFL_append]; simp [sizeFL]
theorem sizeFL_stop (l : List FT) (k : Nat) (x : FT) (h : l[k]? = some x) : sizeFL (l.take k) + sizeF x ≤ sizeFL l := by
  have := congrArg sizeFL (take_split l k x h)
  rw [sizeFL_append] at this; simp [sizeFL] at this; omega
end Go.Fs
namespace Go.Fs
open Go Go.RowKit
/-- what was there is as it was, but for some blocks -/
structure Upd (L : List Nat) (w w' : World) : Prop where
  os : w'.os = w.os
  tape : w'.tape = w.tape
  output : w'.output = w.output
  size : w.heap.size ≤ w'.heap.size
  block : ∀ k, k < w.heap.size → k ∉ L → w'.heap[k]? = w.heap[k]?
theorem Upd.refl (L : List Nat) (w : World) : Upd L w w := ⟨rfl, rfl, rfl, Nat.le_refl _, fun _ _ _ => rfl⟩
theorem Upd.trans {L : List Nat} {a b c : World} (h : Upd L a b) (k : Upd L b c) : Upd L a c :=
  ⟨k.os.trans h.os, k.tape.trans h.tape, k.output.trans h.output, Nat.le_trans h.size k.size, fun i hi hn => (k.block i (Nat.lt_of_lt_of_le hi h.size) hn).trans (h.block i hi hn)⟩
theorem Upd.mono {L M : List Nat} {a b : World} (h : Upd L a b) (hs : ∀ x, x ∈ L → x < a.heap.size → x ∈ M) : Upd M a b :=
  ⟨h.os, h.tape, h.output, h.size, fun i hi hn => h.block i hi (fun hx => hn (hs i hx hi))⟩
/-- a step whose written blocks are allowed, or newer than the start -/
theorem Upd.step {L M : List Nat} {a b c : World} (h : Upd L a b) (k : Upd M b c) (hs : ∀ x, x ∈ M → x < a.heap.size → x ∈ L) : Upd L a c :=
  ⟨k.os.trans h.os, k.tape.trans h.tape, k.output.trans h.output, Nat.le_trans h.size k.size, fun i hi hn => (k.block i (Nat.lt_of_lt_of_le hi h.size) (fun hx => hn (hs i hx hi))).trans (h.block i hi hn)⟩
theorem Upd.drew {L : List Nat} {a w : World} (h : Upd L a w) : Upd L a w.drew := ⟨h.os, h.tape, h.output, h.size, h.block⟩
theorem Upd.alloc {L : List Nat} {a w : World} (h : Upd L a w) (o : Obj) : Upd L a (w.alloc o) :=
  h.trans ⟨rfl, rfl, rfl, by simp, fun k hk _ => Below.heap_alloc _ _ _ hk⟩
theorem Upd.setCell {L : List Nat} {a w : World} (h : Upd L a w) {p : Addr} (hp : p.block < a.heap.size → p.block ∈ L) (u : Value) : Upd L a (w.setCell p u) :=
  ⟨h.os, h.tape, h.output, by have := h.size; simp [World.setCell]; exact this, fun k hk hn => by rw [Below.heap_setCell _ _ _ _ (fun e => hn (by subst e; exact hp hk))]; exact h.block k hk hn⟩
theorem Upd.ofBelow {a b : World} (L : List Nat) (h : Below a.heap.size a b) : Upd L a b := ⟨h.os, h.tape, h.output, h.size, fun k hk _ => h.block k hk⟩
theorem Upd.below {L : List Nat} {a b : World} (h : Upd L a b) (B : Nat) (hB : B ≤ a.heap.size) (hL : ∀ x ∈ L, B ≤ x) : Below B a b :=
  ⟨h.os, h.tape, h.output, h.size, fun k hk => h.block k (by omega) (fun hx => by have := hL k hx; omega)⟩
theorem Upd.toBelow {a b : World} (h : Upd [] a b) : Below a.heap.size a b := h.below _ (Nat.le_refl _) (fun _ hx => by cases hx)
theorem Upd.cells {L : List Nat} {a b : World} (h : Upd L a b) : ∀ k o, k < a.heap.size → k ∉ L → b.cell? ⟨k, o, none⟩ = a.cell? ⟨k, o, none⟩ := fun k _ hk hn => World.cell?_of_block (w := a) (h.block k hk hn)
theorem Upd.frozens {L : List Nat} {a b : World} (h : Upd L a b) : ∀ k o, k < a.heap.size → k ∉ L → b.frozen? ⟨k, o, none⟩ = a.frozen? ⟨k, o, none⟩ := fun k _ hk hn => World.frozen?_of_block (w := a) (h.block k hk hn)

/-- the cells of a struct lie somewhere -/
def At (w : World) (b o : Nat) (cs : List Value) : Prop := ∀ (j : Nat) (v : Value), cs[j]? = some v → w.cell? ⟨b, o + j, none⟩ = some v
theorem cell_lt {w : World} {b o : Nat} {v : Value} (h0 : w.cell? ⟨b, o, none⟩ = some v) : b < w.heap.size := by
  rcases Nat.lt_or_ge b w.heap.size with h | h
  · exact h
  · unfold World.cell? at h0
    simp only [Array.getElem?_eq_none h] at h0
    cases h0
/-- four cells read as an expression -/
inductive ExpR (W : World) : ET → List Value → Prop
  | none (op n : Int) (t : ByteArray) (a : Option Addr) (cap : Nat) (h1 : -9223372036854775808 ≤ op ∧ op ≤ 9223372036854775807) (h2 : -9223372036854775808 ≤ n ∧ n ≤ 9223372036854775807) (h3 : t.size ≤ maxLen) :
      ExpR W (.mk op n t []) [.int .i64 op, .int .i64 n, .string t, .slice a 0 cap]
  | some (op n : Int) (t : ByteArray) (ks : List ET) (b off cap : Nat) (cs : Nat → List Value) (h1 : -9223372036854775808 ≤ op ∧ op ≤ 9223372036854775807) (h2 : -9223372036854775808 ≤ n ∧ n ≤ 9223372036854775807) (h3 : t.size ≤ maxLen)
      (h4 : ks.length ≤ maxLen) (h5 : 0 < ks.length) (hb : b < W.heap.size) (hc : ∀ i, i < ks.length → At W b (off + i * 4) (cs i)) (hk : ∀ i k, ks[i]? = some k → ExpR W k (cs i)) :
      ExpR W (.mk op n t ks) [.int .i64 op, .int .i64 n, .string t, .slice (some ⟨b, off, Option.none⟩) ks.length cap]
theorem ExpR.four {W : World} {e : ET} {cs : List Value} (h : ExpR W e cs) : ∃ v, cs = [.int .i64 e.op, .int .i64 e.n, .string e.text, v] ∧ ∃ a cap, v = .slice a e.kids.length cap := by
  cases h with
  | none => exact ⟨_, rfl, _, _, rfl⟩
  | some => exact ⟨_, rfl, _, _, rfl⟩
end Go.Fs
namespace Go
variable {F : Fence} {n : Nat} {P : Program}
/-- what is asked at a round's end; a panic is taken in -/
def roundPostP (P : Program) (l : Nat) (R : Ending → World → Prop) : Exit → Act → World → Prop
  | .normal, _, w => ∃ v w', (Instr.endRound l none).run P w = .ok v w' ∧ R (.returned v) w'
  | .ret, _, w => ∃ v w', (Instr.endRound l (some .ret)).run P w = .ok v w' ∧ R (.returned v) w'
  | .panic chain, a, w => a.defers = [] ∧ R (.panicked chain) w
  | _, _, _ => False
theorem roundIn_of_wpInP {l : Nat} {f : FuncId} {tmps : Array Value} {assign body : Code} {w : World} {R : Ending → World → Prop} (hF : F.fn f) (hf : ∃ fn, P.funcs[f]? = some fn)
    (h : assign.wpIn (F.inRound l) n P (Exit.then (fun a₁ w₁ => ∃ w₂, (Instr.beginRound l).run P w₁ = .ok () w₂ ∧ body.wpIn (F.inRound l) n P (roundPostP P l R) a₁ w₂) (fun _ _ _ => False))
      { tmps := tmps, defers := [] } w) :
    RoundIn F n P l f tmps assign body w R := by
  refine ⟨hF, fun c cs hr => ?_⟩
  let b : Frame := { (default : Frame) with fn := f, kind := .normal, roundOf := some l }
  have hb0 : Frame.round l f tmps assign body .normal = b.atR { tmps := tmps, defers := [] } [.code assign, .beginRound, .code body] := by
    simp [Frame.round, Frame.atR, b]
  have hr' : (F.inRound l).room ((c :: cs).length + 1 + n) := hr
  have hF' : (F.inRound l).fn b.fn := hF
  obtain ⟨e, a₁, w₁, hq, harr⟩ := h b [.beginRound, .code body] (c :: cs) rfl hF' hr'
  rw [← hb0] at harr
  cases e with
  | normal =>
    obtain ⟨w₂, hbr, hbody⟩ := hq
    have s1 : StepsIn (Machine.fenced P (F.inRound l)) P (lone (b.atR a₁ [.beginRound, .code body]) (c :: cs) w₁) (lone (b.atR a₁ [.code body]) (c :: cs) w₂) :=
      .one (fenced_calm (fr := b.atR a₁ [.beginRound, .code body]) hF' hr' rfl) (stepR_beginRound rfl hbr)
    obtain ⟨e₂, a₂, w₃, hq₂, harr₂⟩ := hbody b [] (c :: cs) rfl hF' hr'
    cases e₂ with
    | normal =>
      obtain ⟨v, w₄, hend, hR⟩ := hq₂
      exact ⟨.returned v, w₄, hR, (StepsIn.trans harr s1).trans (StepsIn.trans harr₂ (.one (fenced_calm (fr := b.atR a₂ []) hF' hr' rfl) (stepR_round_end rfl rfl hend)))⟩
    | ret =>
      obtain ⟨v, w₄, hend, hR⟩ := hq₂
      obtain ⟨k₁, hs⟩ := harr₂.2 rfl
      exact ⟨.returned v, w₄, hR, (StepsIn.trans harr s1).trans (StepsIn.trans hs (.one (fenced_calm (fr := b.atR a₂ (.code .ret :: k₁)) hF' hr' rfl) (stepR_round_ret rfl rfl hend)))⟩
    | panic chain =>
      obtain ⟨hd, hR⟩ := hq₂
      obtain ⟨todo, hs⟩ := harr₂
      have hl : ({ b.atR a₂ todo with mode := .panicking chain } : Frame).leaving P w₃ (.panicked chain) := ⟨rfl, hd, hf⟩
      exact ⟨.panicked chain, w₃, hR, (StepsIn.trans harr s1).trans (StepsIn.trans hs (.one (fenced_leaving hF' hr' hl) (step_leave_panicked hl)))⟩
    | exit id => exact hq₂.elim
    | goto t => exact hq₂.elim
    | outgrown => exact hq₂.elim
  | exit id => exact hq.elim
  | goto t => exact hq.elim
  | ret => exact hq.elim
  | panic chain => exact hq.elim
  | outgrown => exact hq.elim
/-- 'wp' of the activations of one function -/
def Code.wpAt (fid : FuncId) (P : Program) (c : Code) (Q : Exit → Act → World → Prop) (a : Act) (w : World) : Prop :=
  ∀ (b : Frame) (k : List Item) (cs : List Frame), b.roundOf = none → b.fn = fid →
    ∃ e a' w', Q e a' w' ∧ ArrivesIn (Machine.fenced P Fence.wide) P (lone (b.atR a (.code c :: k)) cs w) b k cs e a' w'
section
variable {fid : FuncId} {Q : Exit → Act → World → Prop} {a : Act} {w : World}
theorem wpAt_of_wpIn {c : Code} (m : Nat) (h : c.wpIn Fence.wide m P Q a w) : c.wpAt fid P Q a w := fun b k cs hro _ => h b k cs hro trivial (room_wide _)
theorem wpAt_seq {x y : Code} (h : x.wpAt fid P (Exit.then (y.wpAt fid P Q) Q) a w) : (Code.seq x y).wpAt fid P Q a w := by
  intro b k cs hro hb
  have h0 : (lone (b.atR a (.code (.seq x y) :: k)) cs w).fenced P Fence.wide := fenced_wide _ _
  obtain ⟨e, a₁, w₁, hq, harr⟩ := h b (.code y :: k) cs hro hb
  cases e with
  | normal =>
    obtain ⟨e₂, a₂, w₂, hq₂, harr₂⟩ := hq b k cs hro hb
    exact ⟨e₂, a₂, w₂, hq₂, .of_steps (.head h0 stepR_seq harr) harr₂⟩
  | exit id => exact ⟨_, a₁, w₁, hq, .of_steps (.one h0 stepR_seq) (.pass (x := .code y) rfl (fun _ _ => .inl (by simp)) harr)⟩
  | goto l => exact ⟨_, a₁, w₁, hq, .of_steps (.one h0 stepR_seq) (.pass (x := .code y) rfl (fun _ _ => .inl (by simp)) harr)⟩
  | ret => exact ⟨_, a₁, w₁, hq, .of_steps (.one h0 stepR_seq) (.pass (x := .code y) rfl (fun _ _ => .inl (by simp)) harr)⟩
  | panic ch => exact ⟨_, a₁, w₁, hq, .of_steps (.one h0 stepR_seq) (.pass (x := .code y) rfl (fun _ _ => .inl (by simp)) harr)⟩
  | outgrown => exact ⟨_, a₁, w₁, hq, .of_steps (.one h0 stepR_seq) (.pass (x := .code y) rfl (fun _ _ => .inl (by simp)) harr)⟩
/-- a block that is left at its end, by 'ret' or by a panic -/
theorem wpAt_block {id : Nat} {c : Code} (h : c.wpAt fid P (fun e a w => match e with | .normal => Q .normal a w | .ret => Q .ret a w | .panic ch => Q (.panic ch) a w | _ => False) a w) : (Code.block id c).wpAt fid P Q a w := by
  intro b k cs hro hb
  have h0 : (lone (b.atR a (.code (.block id c) :: k)) cs w).fenced P Fence.wide := fenced_wide _ _
  obtain ⟨e, a₁, w₁, hq, harr⟩ := h b (.inBlock id :: k) cs hro hb
  cases e with
  | normal => exact ⟨.normal, a₁, w₁, hq, .head h0 stepR_block (StepsIn.trans harr (.one (fenced_wide _ _) stepR_inBlock))⟩
  | ret => exact ⟨.ret, a₁, w₁, hq, .of_steps (.one h0 stepR_block) harr⟩
  | panic ch => exact ⟨.panic ch, a₁, w₁, hq, .of_steps (.one h0 stepR_block) harr⟩
  | exit id => exact hq.elim
  | goto l => exact hq.elim
  | outgrown => exact hq.elim
/-- the statement, at the end of which no jump is pending, or which is left by a panic -/
theorem wpAt_rangeFunc {g : Operand} {ps : Array Tmp} {assign body : Code}
    (h : ∃ (l : Nat) (mark : List Deferred) (w₁ : World) (d : Deferred) (w₁' : World) (f : FuncId) (args : Array Value) (w₂ : World),
      (Instr.enterLoop fid a.tmps ps assign body none).run P w = .ok (l, mark) w₁ ∧
      (resolve a.eval (rangeCall g l) 0).run P w₁ = .ok d w₁' ∧
      (invoke d.target d.args).run P w₁' = .ok (.enter f args) w₂ ∧
      CallsIn Fence.wide 0 P f args w₂ (fun e w₃ => match e with
        | .returned _ => ∃ w₄, (Instr.endLoop l).run P w₃ = .ok none w₄ ∧ Q .normal { a with defers := mark ++ a.defers } w₄
        | .panicked chain => Q (.panic chain) { a with defers := mark ++ a.defers } w₃
        | .outgrown => False)) :
    (Code.rangeFunc g ps assign body).wpAt fid P Q a w := by
  intro b k cs hro hb
  obtain ⟨l, mark, w₁, d, w₁', f, args, w₂, he, hres, hinv, hcall⟩ := h
  rw [← hro, ← hb] at he
  have h0 : (lone (b.atR a (.code (.rangeFunc g ps assign body) :: k)) cs w).fenced P Fence.wide := fenced_wide _ _
  have henter := stepR_rangeFunc (P := P) (b := b) (a := a) (k := k) (cs := cs) (w := w) he hres hinv
  obtain ⟨e, w₃, fr, hR, hsteps, hfn, hleave⟩ := hcall.2 (b.atR { a with defers := mark ++ a.defers } (.inRangeFunc l :: k) :: cs) (room_wide _)
  cases e with
  | outgrown => exact hR.elim
  | returned v =>
    obtain ⟨w₄, hend, hj⟩ := hR
    have sback : StepsIn (Machine.fenced P Fence.wide) P (lone (b.atR a (.code (.rangeFunc g ps assign body) :: k)) cs w) (lone (b.atR { a with defers := mark ++ a.defers } k) cs w₄) := by
      refine .head h0 henter (StepsIn.trans hsteps (.head (fenced_wide _ _) ?_ (.one (fenced_wide _ _) (stepR_endRangeFunc (jump := none) hend))))
      rw [← finish_atR_inRangeFunc l v]; exact step_leave_returned hleave
    exact ⟨.normal, _, w₄, hj, sback⟩
  | panicked chain =>
    refine ⟨.panic chain, _, w₃, hR, .inRangeFunc l :: k, .head h0 henter (StepsIn.trans hsteps (.one (fenced_wide _ _) ?_))⟩
    rw [← Frame.raise_atR]; exact step_leave_panicked hleave
/-- a function's contract from its body, which holds such a statement -/
theorem calls_of_wpAt {fn : Func} {c : Code} {args : Array Value} {R : Ending → World → Prop}
    (hf : P.funcs[fid]? = some fn) (hb : fn.body = some c)
    (h : c.wpAt fid P (bodyPostM Fence.wide 0 P fn R) { tmps := args ++ Array.replicate (fn.ntmps - args.size) undef, defers := [] } w) : Calls P fid args w R := by
  refine (callsIn_wide (n := 0)).1 ⟨trivial, fun cs hr => ?_⟩
  let b : Frame := { (default : Frame) with fn := fid, kind := .normal, roundOf := none }
  have henter : Frame.enter P fid args .normal =
      b.atR { tmps := args ++ Array.replicate (fn.ntmps - args.size) undef, defers := [] } [.code c] := by
    simp [Frame.enter, Frame.atR, hf, hb, b]
  obtain ⟨e, a', w', hq, harr⟩ := h b [] cs rfl rfl
  rw [← henter] at harr
  cases e with
  | normal =>
    obtain ⟨e', w'', fr', hR, hs, hfn, hl⟩ := leaves_stepsInM a'.defers .returning w' { b.atR a' [] with mode := .returning } cs rfl rfl rfl hf rfl trivial hr hq
    exact ⟨e', w'', fr', hR, ComesIn.of_steps (StepsIn.trans harr (.one (fenced_wide _ _) (stepR_end rfl))) hs, hfn, hl⟩
  | ret =>
    obtain ⟨todo, hs₀⟩ := harr.1 rfl
    obtain ⟨e', w'', fr', hR, hs, hfn, hl⟩ := leaves_stepsInM a'.defers .returning w' { b.atR a' todo with mode := .returning } cs rfl rfl rfl hf rfl trivial hr hq
    exact ⟨e', w'', fr', hR, ComesIn.of_steps hs₀ hs, hfn, hl⟩
  | panic chain =>
    obtain ⟨todo, hs₀⟩ := harr
    obtain ⟨e', w'', fr', hR, hs, hfn, hl⟩ := leaves_stepsInM a'.defers (.panicking chain) w' { b.atR a' todo with mode := .panicking chain } cs rfl rfl rfl hf rfl trivial hr hq
    exact ⟨e', w'', fr', hR, ComesIn.of_steps hs₀ hs, hfn, hl⟩
  | exit id => exact hq.elim
  | goto l => exact hq.elim
  | outgrown => exact ⟨.outgrown, w', b, hq, harr.resolve_left (by simp [b]), rfl, trivial⟩
end
end Go
/-
  The law FormNames of consort returns true for every string and every list of strings, and each of them reads afterwards as before: the row and its tied card. Condition: the two listed variables hold what the row lays.
-/
namespace Go.Proofs.YtnipdjkopmjoeaaGreatDoor
open Go.ChangeShapes Go.WideShapes Go.ChangeAt Go.RowKit
def kws : List (List UInt8) := [[97, 102, 116, 101, 114], [97, 110, 100], [97, 110, 121], [97, 114, 111, 117, 110, 100], [98, 101, 102, 111, 114, 101], [99, 108, 97, 115, 115], [101, 108, 115, 101], [105, 102], [105, 110], [105, 110, 116], [105, 115], [108, 101, 116], [109, 101, 116, 104, 111, 100], [110, 101, 119], [110, 101, 120, 116], [110, 111, 110, 101], [110, 111, 116], [111, 114], [111, 117, 116], [115, 101, 116], [116, 104, 101, 110], [116, 114, 117, 101], [116, 117, 114, 110], [119, 104, 101, 114, 101]]
def kwB (s : ByteArray) : Bool := kws.any fun k => s.toList == k
set_option maxRecDepth 100000
set_option maxHeartbeats 1000000 in
theorem keyword_any (s : ByteArray) (w : World) : Calls Tryz.prog 61 #[.string s] w fun e w' => e = .returned (.bool (kwB s)) ∧ w = w' := by
  obtain ⟨b, hb⟩ : ∃ b, kwB s = b := ⟨_, rfl⟩
  rw [hb]
  have HB : Hid (kwB s = b) := hb
  clear hb
  go_enter Tryz.func61, Tryz.ntmps61
  go_wp2
  all_goals first
    | (exfalso; simp_all; done)
    | (go_ret; refine ⟨?_, rfl⟩; have hb := HB.out; unfold kwB kws at hb; simp_all; done)
    | (go_ret; refine ⟨?_, rfl⟩; have hb := HB.out; clear HB; obtain rfl : false = b := by { rw [← hb]; simp only [kwB, kws, List.any_cons, List.any_nil, *, Bool.or_false] }; rfl)

end Go.Proofs.YtnipdjkopmjoeaaGreatDoor
namespace Go.Proofs.YtnipdjkopmjoeaaGreatDoor
open Go.ChangeShapes Go.WideShapes Go.ChangeAt Go.RowKit
def lowB (c : UInt8) : Bool := decide (97 ≤ (c.toNat : Int) ∧ (c.toNat : Int) ≤ 122)
def lowAll (s : ByteArray) : Bool := s.data.toList.all lowB
theorem all_take_succ (s : ByteArray) (k : Nat) (h : k < s.size) : (s.data.toList.take (k + 1)).all lowB = ((s.data.toList.take k).all lowB && lowB s[k]) := by
  rw [List.take_succ_eq_append_getElem (by simpa using h), List.all_append]
  simp; rfl
theorem all_stop (s : ByteArray) (k : Nat) (h : k < s.size) (hc : lowB s[k] = false) : lowAll s = false := by
  unfold lowAll
  rw [Bool.eq_false_iff]
  intro ha
  have := List.all_eq_true.1 ha (s.data.toList[k]'(by simpa using h)) (List.getElem_mem _)
  have e : s.data.toList[k]'(by simpa using h) = s[k] := rfl
  rw [e, hc] at this; cases this
set_option maxRecDepth 100000
set_option maxHeartbeats 1000000 in
theorem name_mid (s : ByteArray) (w : World) (h1 : 1 ≤ (s.size : Int)) (h8 : (s.size : Int) ≤ 8) (hk : kwB s = false) : Calls Tryz.prog 33 #[.string s] w fun e w' => e = .returned (.bool (lowAll s)) ∧ w = w' := by
  go_enter Tryz.func33, Tryz.ntmps33
  go_wp2_with (go_at_call 61; refine (keyword_any _ _).mono ?_; rintro e w' ⟨rfl, rfl⟩)
  go_loop [18] (fun i => ∃ k : Nat, k ≤ s.size ∧ i = .int .i64 k ∧ (s.data.toList.take k).all lowB = true) (fun i => s.size - (intOf i).toNat)
  case atStart => exact ⟨0, Nat.zero_le _, rfl, rfl⟩
  case round =>
    obtain ⟨k, hk, rfl, ha⟩ := hrel
    have HA := Lib.hid ha; clear ha
    by_cases hlt : k < s.size
    · have hsn := all_take_succ s k hlt
      have hst := all_stop s k hlt
      have HS := Lib.hid hsn; clear hsn
      have HT := Lib.hid hst; clear hst
      by_cases hlo : (s[k].toNat : Int) < 97
      · go_wp2
        go_ret
        exact ⟨by rw [HT.out (by unfold lowB; simp; omega)]; rfl, rfl⟩
      · by_cases hhi : 122 < (s[k].toNat : Int)
        · go_wp2
          go_ret
          exact ⟨by rw [HT.out (by unfold lowB; simp; omega)]; rfl, rfl⟩
        · go_wp2
          go_round
          case rel => exact ⟨k + 1, by omega, by go_num, by rw [HS.out, HA.out]; unfold lowB; simp; omega⟩
          case measure => simp [intOf]; omega
    · go_wp2
      go_ret
      exact ⟨by have := HA.out; rw [List.take_of_length_le (by simp; omega)] at this; rw [show lowAll s = true from this]; rfl, rfl⟩
end Go.Proofs.YtnipdjkopmjoeaaGreatDoor
namespace Go.Proofs.YtnipdjkopmjoeaaGreatDoor
open Go.ChangeShapes Go.WideShapes Go.ChangeAt Go.RowKit
def nameB (s : ByteArray) : Bool := decide (1 ≤ s.size ∧ s.size ≤ 8) && !kwB s && lowAll s
set_option maxRecDepth 100000
set_option maxHeartbeats 1000000 in
theorem name_any (s : ByteArray) (w : World) : Calls Tryz.prog 33 #[.string s] w fun e w' => e = .returned (.bool (nameB s)) ∧ w = w' := by
  by_cases h1 : (s.size : Int) < 1
  · have e : nameB s = false := by unfold nameB; have : ¬ (1 ≤ s.size ∧ s.size ≤ 8) := by omega
                                   simp [this]
    rw [e]; clear e
    go_enter Tryz.func33, Tryz.ntmps33
    go_wp2_with (go_at_call 61; refine (keyword_any _ _).mono ?_; rintro e w' ⟨rfl, rfl⟩)
    go_ret
    exact ⟨rfl, rfl⟩
  · by_cases h8 : 8 < (s.size : Int)
    · have e : nameB s = false := by unfold nameB; have : ¬ (1 ≤ s.size ∧ s.size ≤ 8) := by omega
                                     simp [this]
      rw [e]; clear e
      go_enter Tryz.func33, Tryz.ntmps33
      go_wp2_with (go_at_call 61; refine (keyword_any _ _).mono ?_; rintro e w' ⟨rfl, rfl⟩)
      go_ret
      exact ⟨rfl, rfl⟩
    · cases hk : kwB s with
      | true =>
        have e : nameB s = false := by unfold nameB; rw [hk]; simp
        rw [e]; clear e
        go_enter Tryz.func33, Tryz.ntmps33
        go_wp2_with (go_at_call 61; refine (keyword_any _ _).mono ?_; rintro e w' ⟨rfl, rfl⟩)
        go_ret
        exact ⟨rfl, rfl⟩
      | false =>
        have e : nameB s = lowAll s := by unfold nameB; rw [hk]; have : (1 ≤ s.size ∧ s.size ≤ 8) := by omega
                                          simp [this]
        rw [e]
        exact name_mid s w (by omega) (by omega) hk
/-- a slice of strings reads as a list -/
def SlR (w : World) (v : Value) (ss : List ByteArray) : Prop :=
  (∃ a cap, v = .slice a 0 cap ∧ ss = []) ∨ ∃ b off cap, v = .slice (some ⟨b, off, none⟩) ss.length cap ∧ ∀ (i : Nat) (s : ByteArray), ss[i]? = some s → w.cell? ⟨b, off + i, none⟩ = some (.string s)
def hasB (ss : List ByteArray) (s : ByteArray) : Bool := ss.any fun x => x.toList == s.toList
theorem hasB_take (ss : List ByteArray) (s : ByteArray) (k : Nat) (x : ByteArray) (h : ss[k]? = some x) : hasB (ss.take (k + 1)) s = (hasB (ss.take k) s || (x.toList == s.toList)) := by
  unfold hasB
  obtain ⟨hk, rfl⟩ := List.getElem?_eq_some_iff.1 h
  rw [List.take_succ_eq_append_getElem hk, List.any_append]
  simp
theorem hasB_stop (ss : List ByteArray) (s : ByteArray) (k : Nat) (x : ByteArray) (h : ss[k]? = some x) (e : (x.toList == s.toList) = true) : hasB ss s = true := by
  unfold hasB
  exact List.any_eq_true.2 ⟨x, List.mem_of_getElem? h, e⟩
def IdxP (ss : List ByteArray) (s : ByteArray) (e : Ending) : Prop := ∃ n : Int, e = .returned (.int .i64 n) ∧ n ≤ 9223372036854775807 ∧ if hasB ss s = true then 0 ≤ n else n = -1
set_option maxHeartbeats 1000000 in
theorem index_cells (ss : List ByteArray) (s : ByteArray) (b off cap : Nat) (w : World) (hl : (ss.length : Int) ≤ 9223372036854775807) (hc : ∀ (i : Nat) (s : ByteArray), ss[i]? = some s → w.cell? ⟨b, off + i, none⟩ = some (.string s)) :
    Calls Tryz.prog 94 #[.slice (some ⟨b, off, none⟩) ss.length cap, .string s] w fun e w' => IdxP ss s e ∧ w = w' := by
  go_enter Tryz.func94, Tryz.ntmps94
  have HC := Lib.hid hc; clear hc
  go_wp2
  go_loop [5] (fun j => ∃ k : Nat, k ≤ ss.length ∧ j = .int .i64 k ∧ hasB (ss.take k) s = false) (fun j => ss.length - (intOf j).toNat)
  case atStart => exact ⟨0, Nat.zero_le _, rfl, rfl⟩
  case round =>
    obtain ⟨k, hk, rfl, ha⟩ := hrel
    have HA := Lib.hid ha; clear ha
    by_cases hlt : k < ss.length
    · obtain ⟨x, hx⟩ : ∃ x, ss[k]? = some x := ⟨ss[k], List.getElem?_eq_getElem hlt⟩
      have hcell := HC.out k x hx
      have hsn := hasB_take ss s k x hx
      have hst := hasB_stop ss s k x hx
      have HS := Lib.hid hsn; clear hsn
      have HT := Lib.hid hst; clear hst
      have HX := Lib.hid hx; clear hx
      cases he : (x.toList == s.toList) with
      | true =>
        go_wp2
        go_ret
        exact ⟨⟨k, rfl, by omega, by rw [if_pos (HT.out he)]; omega⟩, rfl⟩
      | false =>
        go_wp2
        go_round
        case rel => exact ⟨k + 1, by omega, by go_num, by rw [HS.out, HA.out, he]; rfl⟩
        case measure => simp [intOf]; omega
    · go_wp2
      go_ret
      exact ⟨⟨-1, rfl, by omega, by have := HA.out; rw [List.take_of_length_le (by omega)] at this; rw [if_neg (by rw [this]; simp)]⟩, rfl⟩
theorem index_any (v : Value) (ss : List ByteArray) (s : ByteArray) (w : World) (hl : (ss.length : Int) ≤ 9223372036854775807) (h : SlR w v ss) : Calls Tryz.prog 94 #[v, .string s] w fun e w' => IdxP ss s e ∧ w = w' := by
  rcases h with ⟨a, cap, rfl, rfl⟩ | ⟨b, off, cap, rfl, hc⟩
  · go_enter Tryz.func94, Tryz.ntmps94
    go_wp2
    go_loop [5] (fun j => j = .int .i64 0) (fun j => 0)
    case atStart => rfl
    case round =>
      subst hrel
      go_wp2
      go_ret
      exact ⟨⟨-1, rfl, by omega, by simp [hasB]⟩, rfl⟩
  · exact index_cells ss s b off cap w hl hc
set_option maxHeartbeats 1000000 in
theorem has_any (v : Value) (ss : List ByteArray) (s : ByteArray) (w : World) (hl : (ss.length : Int) ≤ 9223372036854775807) (h : SlR w v ss) : Calls Tryz.prog 71 #[v, .string s] w fun e w' => e = .returned (.bool (hasB ss s)) ∧ w = w' := by
  have H := Lib.hid h; clear h
  go_enter Tryz.func71, Tryz.ntmps71
  cases hb : hasB ss s with
  | true =>
    have HB := Lib.hid hb; clear hb
    go_wp2_with (go_at_call 94; refine (index_any _ _ _ _ hl H.out).mono ?_; rintro e w' ⟨⟨n, rfl, hn1, hn⟩, rfl⟩; rw [if_pos HB.out] at hn)
    go_ret
    exact ⟨rfl, rfl⟩
  | false =>
    have HB := Lib.hid hb; clear hb
    go_wp2_with (go_at_call 94; refine (index_any _ _ _ _ hl H.out).mono ?_; rintro e w' ⟨⟨n, rfl, hn1, hn⟩, rfl⟩; rw [if_neg (by rw [HB.out]; simp)] at hn; subst hn)
    go_ret
    exact ⟨rfl, rfl⟩
end Go.Proofs.YtnipdjkopmjoeaaGreatDoor
namespace Go.Proofs.YtnipdjkopmjoeaaGreatDoor
open Go.ChangeShapes Go.WideShapes Go.ChangeAt Go.RowKit
def kwl : List ByteArray := kws.map fun l => ⟨⟨l⟩⟩
def KwP (w : World) (e : Ending) (w' : World) : Prop := ∃ v, e = .returned v ∧ SlR w' v kwl ∧ Below w.heap.size w w'
set_option maxRecDepth 100000
set_option maxHeartbeats 1000000 in
theorem keywords_any (w : World) : Calls Tryz.prog 93 #[] w (KwP w) := by
  go_enter Tryz.func93, Tryz.ntmps93
  go_wp2
  go_ret
  refine ⟨_, rfl, .inr ⟨w.heap.size, 0, 24, rfl, fun i x hi => ?_⟩, (Below.refl _ _).alloc (Nat.le_refl _) _⟩
  rw [World.cell?_alloc_at _ _ _ _ rfl, Nat.zero_add]
  show ((kwl.map Value.string).toArray)[i]? = _
  simp [hi]
theorem kw_has (s : ByteArray) : hasB kwl s = kwB s := by
  unfold hasB kwB kwl
  rw [List.any_map]
  congr 1
  funext k
  show ((⟨⟨k⟩⟩ : ByteArray).toList == s.toList) = (s.toList == k)
  have e : (⟨⟨k⟩⟩ : ByteArray).toList = k := by simp
  rw [e, Bool.eq_iff_iff]
  simp only [beq_iff_eq]
  exact ⟨Eq.symm, Eq.symm⟩
def RnP (s : ByteArray) (w : World) (e : Ending) (w' : World) : Prop := e = .returned (.bool (nameB s)) ∧ Below w.heap.size w w'
set_option maxRecDepth 100000
set_option maxHeartbeats 1000000 in
theorem rname_any (s : ByteArray) (w : World) (hs : (s.size : Int) ≤ 9223372036854775807) : Calls Tryz.prog 70 #[.string s] w (RnP s w) := by
  go_enter Tryz.func70, Tryz.ntmps70
  go_wp2
  go_loop [3] (fun i => ∃ k : Nat, k ≤ s.size ∧ i = .int .i64 k ∧ (s.data.toList.take k).all lowB = true) (fun i => s.size - (intOf i).toNat)
  case atStart => exact ⟨0, Nat.zero_le _, rfl, rfl⟩
  case round =>
    obtain ⟨k, hk, rfl, ha⟩ := hrel
    have HA := Lib.hid ha; clear ha
    by_cases hlt : k < s.size
    · have hsn := all_take_succ s k hlt
      have hst := all_stop s k hlt
      have HS := Lib.hid hsn; clear hsn
      have HT := Lib.hid hst; clear hst
      by_cases hlo : (s[k].toNat : Int) < 97
      · go_wp2
        go_ret
        exact ⟨by have e := HT.out (by unfold lowB; simp; omega); rw [show nameB s = false by unfold nameB; rw [e]; simp]; rfl, Below.refl _ _⟩
      · by_cases hhi : 122 < (s[k].toNat : Int)
        · go_wp2
          go_ret
          exact ⟨by have e := HT.out (by unfold lowB; simp; omega); rw [show nameB s = false by unfold nameB; rw [e]; simp]; rfl, Below.refl _ _⟩
        · go_wp2
          go_round
          case rel => exact ⟨k + 1, by omega, by go_num, by rw [HS.out, HA.out]; unfold lowB; simp; omega⟩
          case measure => simp [intOf]; omega
    · have hall : lowAll s = true := by have := HA.out; rw [List.take_of_length_le (by simp; omega)] at this; exact this
      have HL := Lib.hid hall; clear hall
      go_wp2_with (first
        | (go_at_call 93; refine (keywords_any _).mono ?_; rintro e w1 ⟨v, rfl, hsl, hb⟩; have HSL := Lib.hid hsl; clear hsl; have HB := Lib.hid hb; clear hb)
        | (go_at_call 71; refine (has_any _ _ _ _ (by decide) HSL.out).mono ?_; rintro e w' ⟨rfl, rfl⟩))
      · go_ret
        refine ⟨?_, HB.out⟩
        have e : nameB s = !hasB kwl s := by
          have h8 : 1 ≤ s.size ∧ s.size ≤ 8 := by omega
          unfold nameB
          rw [kw_has, HL.out]
          simp [h8]
        rw [e]; rfl
      · go_ret
        refine ⟨?_, Below.refl _ _⟩
        have e : nameB s = false := by
          have h8 : ¬ (1 ≤ s.size ∧ s.size ≤ 8) := by omega
          unfold nameB
          simp [h8]
        rw [e]; rfl
      · go_ret
        refine ⟨?_, Below.refl _ _⟩
        have e : nameB s = false := by
          have h8 : ¬ (1 ≤ s.size ∧ s.size ≤ 8) := by omega
          unfold nameB
          simp [h8]
        rw [e]; rfl
end Go.Proofs.YtnipdjkopmjoeaaGreatDoor
namespace Go.Proofs.YtnipdjkopmjoeaaGreatDoor
open Go.ChangeShapes Go.WideShapes Go.ChangeAt Go.RowKit Go.Fs
abbrev pe : Ending := .panicked [{ v := .iface 128 (.agg #[]), recovered := false }]
abbrev rn : Ending := .returned (.tuple #[])
/-- an examination: it goes through if b, and gives up if not; the world -/
def NeedP (b : Bool) (w : World) (e : Ending) (w' : World) : Prop := w = w' ∧ ((b = true ∧ e = rn) ∨ (b = false ∧ e = pe))
def ExP (b : Bool) (w : World) (e : Ending) (w' : World) : Prop := Below w.heap.size w w' ∧ ((b = true ∧ e = rn) ∨ (b = false ∧ e = pe))
theorem need_any (b : Bool) (w : World) : Calls Tryz.prog 39 #[.bool b] w (NeedP b w) := by
  cases b
  · go_enter Tryz.func39, Tryz.ntmps39
    go_wp2
    exact ⟨rfl, rfl, .inr ⟨rfl, rfl⟩⟩
  · go_enter Tryz.func39, Tryz.ntmps39
    go_wp2
    first | go_end0 | refine bodyPost_ret (results_none rfl _ _ _) rfl ?_
    exact ⟨rfl, .inl ⟨rfl, rfl⟩⟩
def numB (n : Int) : Bool := decide (-1000000000 ≤ n) && decide (n ≤ 1000000000)
theorem isNumber_any (n : Int) (w : World) : Calls Tryz.prog 64 #[.int .i64 n] w fun e w' => e = .returned (.bool (numB n)) ∧ w = w' := by
  unfold numB
  go_enter Tryz.func64, Tryz.ntmps64
  go_wp2
  all_goals go_ret
  all_goals (refine ⟨?_, rfl⟩; first | (simp_all; done) | (congr 2; simp_all; omega) | trace_state)
/-- the scope of what stands alone: the blocks of its global and of itself -/
structure Sc (w : World) (g s : Nat) : Prop where
  open_ : w.cell? ⟨g, 0, none⟩ = some (.bool true)
  slots : w.cell? ⟨g, 1, none⟩ = some (.map none)
  has : w.cell? ⟨g, 2, none⟩ = some (.map none)
  glob : w.cell? ⟨s, 0, none⟩ = some (.pointer (some ⟨g, 0, none⟩))
  params : w.cell? ⟨s, 1, none⟩ = some (.map none)
  next : w.cell? ⟨s, 2, none⟩ = some (.bool true)
theorem ask_none (x : ByteArray) (w : World) : (Instr.lookup 82 (.map none) (.string x) false).run Tryz.prog w = .ok (.bool false) w := by kernel_rfl
theorem ask_none2 (x : ByteArray) (w : World) : (Instr.lookup 83 (.map none) (.string x) false).run Tryz.prog w = .ok (.map none) w := by kernel_rfl
theorem nil_neq (w : World) : (binOp BinOp.neq 82 (.map none) (.map none)).run Tryz.prog w = .ok (.bool false) w := by kernel_rfl
set_option maxRecDepth 100000 in
set_option maxHeartbeats 1000000 in
theorem isSlot_alone (g s : Nat) (x : ByteArray) (w : World) (h : Sc w g s) : Calls Tryz.prog 67 #[.pointer (some ⟨g, 0, none⟩), .string x] w fun e w' => e = .returned (.bool (nameB x)) ∧ w = w' := by
  obtain ⟨h1, h2, h3, h4, h5, h6⟩ := h
  have ha := ask_none x w
  go_enter Tryz.func67, Tryz.ntmps67
  go_wp2_with (go_at_call 33; refine (name_any x _).mono ?_; rintro e w' ⟨rfl, rfl⟩)
  go_ret
  exact ⟨rfl, rfl⟩
set_option maxRecDepth 100000 in
set_option maxHeartbeats 1000000 in
theorem isClass_alone (g s : Nat) (x : ByteArray) (w : World) (h : Sc w g s) : Calls Tryz.prog 68 #[.pointer (some ⟨g, 0, none⟩), .string x] w fun e w' => e = .returned (.bool (nameB x)) ∧ w = w' := by
  obtain ⟨h1, h2, h3, h4, h5, h6⟩ := h
  have ha := ask_none2 x w
  have hn := nil_neq w
  go_enter Tryz.func68, Tryz.ntmps68
  go_wp2_with (go_at_call 33; refine (name_any x _).mono ?_; rintro e w' ⟨rfl, rfl⟩)
  go_ret
  exact ⟨rfl, rfl⟩
set_option maxRecDepth 100000 in
set_option maxHeartbeats 1000000 in
theorem isParam_alone (g s : Nat) (x : ByteArray) (w : World) (h : Sc w g s) : Calls Tryz.prog 92 #[.pointer (some ⟨s, 0, none⟩), .string x] w fun e w' => e = .returned (.bool (nameB x)) ∧ w = w' := by
  obtain ⟨h1, h2, h3, h4, h5, h6⟩ := h
  have ha := ask_none x w
  go_enter Tryz.func92, Tryz.ntmps92
  go_wp2_with (go_at_call 33; refine (name_any x _).mono ?_; rintro e w' ⟨rfl, rfl⟩)
  go_ret
  exact ⟨rfl, rfl⟩
def sAny : ByteArray := ⟨#[97, 110, 121]⟩
def sInt : ByteArray := ⟨#[105, 110, 116]⟩
def sNone : ByteArray := ⟨#[110, 111, 110, 101]⟩
def eqB (a b : ByteArray) : Bool := a.toList == b.toList
def sortB (x : ByteArray) : Bool := eqB x sAny || eqB x sInt || eqB x sNone || nameB x
set_option maxRecDepth 100000 in
set_option maxHeartbeats 1000000 in
theorem isSort_alone (g s : Nat) (x : ByteArray) (w : World) (h : Sc w g s) : Calls Tryz.prog 65 #[.pointer (some ⟨g, 0, none⟩), .string x] w fun e w' => e = .returned (.bool (sortB x)) ∧ w = w' := by
  have H := Lib.hid h; clear h
  obtain ⟨b, hb⟩ : ∃ b, sortB x = b := ⟨_, rfl⟩
  rw [hb]
  have HB := Lib.hid hb; clear hb
  go_enter Tryz.func65, Tryz.ntmps65
  go_wp2_with (go_at_call 68; refine (isClass_alone g s x _ H.out).mono ?_; rintro e w' ⟨rfl, rfl⟩)
  all_goals (go_ret; refine ⟨?_, rfl⟩; rw [← HB.out]; simp_all [sortB, eqB, sAny, sInt, sNone])
set_option maxRecDepth 100000 in
set_option maxHeartbeats 1000000 in
theorem meetGen_alone (g s : Nat) (x : ByteArray) (n : Int) (w : World) (h : Sc w g s) : Calls Tryz.prog 69 #[.pointer (some ⟨g, 0, none⟩), .string x, .int .i64 n] w (NeedP (nameB x) w) := by
  obtain ⟨h1, h2, h3, h4, h5, h6⟩ := h
  go_enter Tryz.func69, Tryz.ntmps69
  go_wp2_with (first
    | (go_at_call 33; refine (name_any x _).mono ?_; rintro e w' ⟨rfl, rfl⟩)
    | (go_at_call 39; refine (need_any _ _).mono ?_; rintro e w' ⟨rfl, ⟨hb, rfl⟩ | ⟨hb, rfl⟩⟩))
  · refine bodyPost_ret (results_none rfl _ _ _) rfl ?_
    exact ⟨rfl, .inl ⟨by first | exact hb | rfl, rfl⟩⟩
  · exact ⟨rfl, rfl, .inr ⟨by first | exact hb | rfl, rfl⟩⟩
end Go.Proofs.YtnipdjkopmjoeaaGreatDoor
namespace Go.Proofs.YtnipdjkopmjoeaaGreatDoor
open Go.ChangeShapes Go.WideShapes Go.ChangeAt Go.RowKit Go.Fs
theorem still_drew {P : Program} {id : Nat} {Q : Exit → Act → World → Prop} {a : Act} {w : World} {l : List Oper} (n : Nat) (hm : P.follows .mixedOrders = true) (hB : Region.lexTailB .any l.toArray n = true)
    (h : wpStill P l.toArray w.drew (fun a' => wpList P l.toArray Q (l.drop n) a' w.drew) (l.take n) a) : (Code.region id l.toArray true).wp P Q a w := wp_region_still_tail n hm hB h
def textB (t : Int) (x : ByteArray) : Bool := if t = 0 then x.toList.isEmpty else nameB x
def rowB (op n : Int) (x : ByteArray) (len : Int) (num : Bool) (t lo hi : Int) : Bool :=
  decide (1 ≤ op) && decide (op ≤ 18) && decide (lo ≤ len) && decide (len ≤ hi) && (decide (n = 0) || num && numB n) && textB t x
theorem out_post {b : Bool} (hb : b = false) {w w' : World} (h : Below w.heap.size w w') : ExP b w pe w' := ⟨h, .inr ⟨hb, rfl⟩⟩
theorem in_post {b : Bool} (hb : b = true) {w w' : World} (h : Below w.heap.size w w') : ExP b w rn w' := ⟨h, .inl ⟨hb, rfl⟩⟩
set_option maxRecDepth 100000 in
set_option maxHeartbeats 1000000 in
theorem examineExp_out (_g s : Nat) (op n : Int) (x : ByteArray) (a : Option Addr) (len cap : Nat) (w : World) (num : Bool) (t lo hi : Int) (ho : op < 1 ∨ 18 < op) :
    Calls Tryz.prog 41 #[.pointer (some ⟨s, 0, none⟩), .agg #[.int .i64 op, .int .i64 n, .string x, .slice a len cap]] w (ExP (rowB op n x len num t lo hi) w) := by
  have e : rowB op n x len num t lo hi = false := by
    unfold rowB
    rcases ho with h | h
    · rw [decide_eq_false (by omega)]; rfl
    · rw [decide_eq_false (p := op ≤ 18) (by omega)]; simp
  rw [e]; clear e
  rcases ho with h | h
  all_goals
    go_enter Tryz.func41, Tryz.ntmps41
    go_wp2_with (go_at_call 39; refine (need_any _ _).mono ?_; (rintro e w' ⟨rfl, ⟨hb, rfl⟩ | ⟨hb, rfl⟩⟩ <;> (first | (cases hb; done) | (exfalso; simp at hb; omega) | (exfalso; simp_all; done) | skip)))
  all_goals first | exact ⟨rfl, out_post rfl ((Below.refl _ _).alloc (Nat.le_refl _) _)⟩ | (exfalso; simp at *; omega)
theorem row_split {op n : Int} {x : ByteArray} {len : Int} {num : Bool} {t lo hi : Int} (h1 : 1 ≤ op) (h2 : op ≤ 18) (b : Bool) (h : (decide (lo ≤ len) && decide (len ≤ hi) && (decide (n = 0) || num && numB n) && textB t x) = b) : rowB op n x len num t lo hi = b := by
  unfold rowB; rw [decide_eq_true h1, decide_eq_true h2]; simpa using h
theorem Sc.below {w w' : World} {g s : Nat} (h : Sc w g s) (hb : Below w.heap.size w w') : Sc w' g s :=
  ⟨(hb.cell (p := ⟨g, 0, none⟩) (cell_lt h.open_)).trans h.open_, (hb.cell (p := ⟨g, 1, none⟩) (cell_lt h.open_)).trans h.slots, (hb.cell (p := ⟨g, 2, none⟩) (cell_lt h.open_)).trans h.has,
   (hb.cell (p := ⟨s, 0, none⟩) (cell_lt h.glob)).trans h.glob, (hb.cell (p := ⟨s, 1, none⟩) (cell_lt h.glob)).trans h.params, (hb.cell (p := ⟨s, 2, none⟩) (cell_lt h.glob)).trans h.next⟩
/-- what every walk of examineExp has -/
structure Env (w : World) (g s : Nat) (op : Int) (num : Bool) (t lo hi : Int) : Prop where
  sc : Sc w g s
  c0 : w.cell? ⟨1, op.toNat * 4, none⟩ = some (.bool num)
  c1 : w.cell? ⟨1, op.toNat * 4 + 1, none⟩ = some (.int .i64 t)
  c2 : w.cell? ⟨1, op.toNat * 4 + 2, none⟩ = some (.int .i64 lo)
  c3 : w.cell? ⟨1, op.toNat * 4 + 3, none⟩ = some (.int .i64 hi)
abbrev XArgs (s : Nat) (op n : Int) (x : ByteArray) (a : Option Addr) (len cap : Nat) : Array Value := #[.pointer (some ⟨s, 0, none⟩), .agg #[.int .i64 op, .int .i64 n, .string x, .slice a len cap]]
variable (g s : Nat) (op n : Int) (x : ByteArray) (a : Option Addr) (len cap : Nat) (w : World) (num : Bool) (t lo hi : Int)
set_option maxRecDepth 100000 in
set_option maxHeartbeats 1000000 in
theorem xe_few (h1 : 1 ≤ op) (h18 : op ≤ 18) (hv : Env w g s op num t lo hi) (k1 : ¬ lo ≤ len) :
    Calls Tryz.prog 41 (XArgs s op n x a len cap) w (ExP false w) := by
  obtain ⟨h, c0, c1, c2, c3⟩ := hv
  have hz := cell_lt c0
  have H := Lib.hid h; clear h
  (go_enter Tryz.func41, Tryz.ntmps41; go_wp2_with (first | (go_at_call 39; refine (need_any _ _).mono ?_; (rintro e w' ⟨rfl, ⟨hb, rfl⟩ | ⟨hb, rfl⟩⟩ <;> (first | (cases hb; done) | (exfalso; simp at hb; omega) | (exfalso; simp_all; done) | skip))) | (go_at_call 64; refine (isNumber_any _ _).mono ?_; rintro e w' ⟨rfl, rfl⟩) | (go_at_call 33; refine (name_any x _).mono ?_; rintro e w' ⟨rfl, rfl⟩) | (go_at_call 67; refine (isSlot_alone g s x _ (H.out.below (by repeat (first | exact Below.refl _ _ | refine Below.alloc ?_ (by simp; try omega) _ | refine Below.setCell ?_ (by simp; try omega) _ | refine Below.drew ?_)))).mono ?_; rintro e w' ⟨rfl, rfl⟩) | (go_at_call 68; refine (isClass_alone g s x _ (H.out.below (by repeat (first | exact Below.refl _ _ | refine Below.alloc ?_ (by simp; try omega) _ | refine Below.setCell ?_ (by simp; try omega) _ | refine Below.drew ?_)))).mono ?_; rintro e w' ⟨rfl, rfl⟩) | (go_at_call 69; refine (meetGen_alone g s x _ _ (H.out.below (by repeat (first | exact Below.refl _ _ | refine Below.alloc ?_ (by simp; try omega) _ | refine Below.setCell ?_ (by simp; try omega) _ | refine Below.drew ?_)))).mono ?_; (rintro e w' ⟨rfl, ⟨hb, rfl⟩ | ⟨hb, rfl⟩⟩ <;> (first | (cases hb; done) | (exfalso; rw [k5] at hb; cases hb; done) | skip)))))
  exact ⟨rfl, out_post rfl (by repeat (first | exact Below.refl _ _ | refine Below.alloc ?_ (by simp; try omega) _ | refine Below.setCell ?_ (by simp; try omega) _ | refine Below.drew ?_))⟩
set_option maxRecDepth 100000 in
set_option maxHeartbeats 1000000 in
theorem xe_many (h1 : 1 ≤ op) (h18 : op ≤ 18) (hv : Env w g s op num t lo hi) (k1 : lo ≤ len) (k2 : ¬ (len : Int) ≤ hi) :
    Calls Tryz.prog 41 (XArgs s op n x a len cap) w (ExP false w) := by
  obtain ⟨h, c0, c1, c2, c3⟩ := hv
  have hz := cell_lt c0
  have H := Lib.hid h; clear h
  (go_enter Tryz.func41, Tryz.ntmps41; go_wp2_with (first | (go_at_call 39; refine (need_any _ _).mono ?_; (rintro e w' ⟨rfl, ⟨hb, rfl⟩ | ⟨hb, rfl⟩⟩ <;> (first | (cases hb; done) | (exfalso; simp at hb; omega) | (exfalso; simp_all; done) | skip))) | (go_at_call 64; refine (isNumber_any _ _).mono ?_; rintro e w' ⟨rfl, rfl⟩) | (go_at_call 33; refine (name_any x _).mono ?_; rintro e w' ⟨rfl, rfl⟩) | (go_at_call 67; refine (isSlot_alone g s x _ (H.out.below (by repeat (first | exact Below.refl _ _ | refine Below.alloc ?_ (by simp; try omega) _ | refine Below.setCell ?_ (by simp; try omega) _ | refine Below.drew ?_)))).mono ?_; rintro e w' ⟨rfl, rfl⟩) | (go_at_call 68; refine (isClass_alone g s x _ (H.out.below (by repeat (first | exact Below.refl _ _ | refine Below.alloc ?_ (by simp; try omega) _ | refine Below.setCell ?_ (by simp; try omega) _ | refine Below.drew ?_)))).mono ?_; rintro e w' ⟨rfl, rfl⟩) | (go_at_call 69; refine (meetGen_alone g s x _ _ (H.out.below (by repeat (first | exact Below.refl _ _ | refine Below.alloc ?_ (by simp; try omega) _ | refine Below.setCell ?_ (by simp; try omega) _ | refine Below.drew ?_)))).mono ?_; (rintro e w' ⟨rfl, ⟨hb, rfl⟩ | ⟨hb, rfl⟩⟩ <;> (first | (cases hb; done) | (exfalso; rw [k5] at hb; cases hb; done) | skip)))))
  exact ⟨rfl, out_post rfl (by repeat (first | exact Below.refl _ _ | refine Below.alloc ?_ (by simp; try omega) _ | refine Below.setCell ?_ (by simp; try omega) _ | refine Below.drew ?_))⟩
set_option maxRecDepth 100000 in
set_option maxHeartbeats 1000000 in
theorem xe_num (h1 : 1 ≤ op) (h18 : op ≤ 18) (hv : Env w g s op num t lo hi) (k1 : lo ≤ len) (k2 : (len : Int) ≤ hi) (k3 : ¬ n = 0) (k4 : num = false ∨ numB n = false) :
    Calls Tryz.prog 41 (XArgs s op n x a len cap) w (ExP false w) := by
  obtain ⟨h, c0, c1, c2, c3⟩ := hv
  have hz := cell_lt c0
  have H := Lib.hid h; clear h
  cases num with
  | false =>
    clear k4
    (go_enter Tryz.func41, Tryz.ntmps41; go_wp2_with (first | (go_at_call 39; refine (need_any _ _).mono ?_; (rintro e w' ⟨rfl, ⟨hb, rfl⟩ | ⟨hb, rfl⟩⟩ <;> (first | (cases hb; done) | (exfalso; simp at hb; omega) | (exfalso; simp_all; done) | skip))) | (go_at_call 64; refine (isNumber_any _ _).mono ?_; rintro e w' ⟨rfl, rfl⟩) | (go_at_call 33; refine (name_any x _).mono ?_; rintro e w' ⟨rfl, rfl⟩) | (go_at_call 67; refine (isSlot_alone g s x _ (H.out.below (by repeat (first | exact Below.refl _ _ | refine Below.alloc ?_ (by simp; try omega) _ | refine Below.setCell ?_ (by simp; try omega) _ | refine Below.drew ?_)))).mono ?_; rintro e w' ⟨rfl, rfl⟩) | (go_at_call 68; refine (isClass_alone g s x _ (H.out.below (by repeat (first | exact Below.refl _ _ | refine Below.alloc ?_ (by simp; try omega) _ | refine Below.setCell ?_ (by simp; try omega) _ | refine Below.drew ?_)))).mono ?_; rintro e w' ⟨rfl, rfl⟩) | (go_at_call 69; refine (meetGen_alone g s x _ _ (H.out.below (by repeat (first | exact Below.refl _ _ | refine Below.alloc ?_ (by simp; try omega) _ | refine Below.setCell ?_ (by simp; try omega) _ | refine Below.drew ?_)))).mono ?_; (rintro e w' ⟨rfl, ⟨hb, rfl⟩ | ⟨hb, rfl⟩⟩ <;> (first | (cases hb; done) | (exfalso; rw [k5] at hb; cases hb; done) | skip)))))
    all_goals exact ⟨rfl, out_post rfl (by repeat (first | exact Below.refl _ _ | refine Below.alloc ?_ (by simp; try omega) _ | refine Below.setCell ?_ (by simp; try omega) _ | refine Below.drew ?_))⟩
  | true =>
    have k4 : numB n = false := by simpa using k4
    (go_enter Tryz.func41, Tryz.ntmps41; go_wp2_with (first | (go_at_call 39; refine (need_any _ _).mono ?_; (rintro e w' ⟨rfl, ⟨hb, rfl⟩ | ⟨hb, rfl⟩⟩ <;> (first | (cases hb; done) | (exfalso; simp at hb; omega) | (exfalso; simp_all; done) | skip))) | (go_at_call 64; refine (isNumber_any _ _).mono ?_; rintro e w' ⟨rfl, rfl⟩) | (go_at_call 33; refine (name_any x _).mono ?_; rintro e w' ⟨rfl, rfl⟩) | (go_at_call 67; refine (isSlot_alone g s x _ (H.out.below (by repeat (first | exact Below.refl _ _ | refine Below.alloc ?_ (by simp; try omega) _ | refine Below.setCell ?_ (by simp; try omega) _ | refine Below.drew ?_)))).mono ?_; rintro e w' ⟨rfl, rfl⟩) | (go_at_call 68; refine (isClass_alone g s x _ (H.out.below (by repeat (first | exact Below.refl _ _ | refine Below.alloc ?_ (by simp; try omega) _ | refine Below.setCell ?_ (by simp; try omega) _ | refine Below.drew ?_)))).mono ?_; rintro e w' ⟨rfl, rfl⟩) | (go_at_call 69; refine (meetGen_alone g s x _ _ (H.out.below (by repeat (first | exact Below.refl _ _ | refine Below.alloc ?_ (by simp; try omega) _ | refine Below.setCell ?_ (by simp; try omega) _ | refine Below.drew ?_)))).mono ?_; (rintro e w' ⟨rfl, ⟨hb, rfl⟩ | ⟨hb, rfl⟩⟩ <;> (first | (cases hb; done) | (exfalso; rw [k5] at hb; cases hb; done) | skip)))))
    all_goals exact ⟨rfl, out_post rfl (by repeat (first | exact Below.refl _ _ | refine Below.alloc ?_ (by simp; try omega) _ | refine Below.setCell ?_ (by simp; try omega) _ | refine Below.drew ?_))⟩
set_option maxRecDepth 100000 in
set_option maxHeartbeats 2000000 in
theorem xe_t0 (h1 : 1 ≤ op) (h18 : op ≤ 18) (hv : Env w g s op num 0 lo hi) (k1 : lo ≤ len) (k2 : (len : Int) ≤ hi) (k3 : n = 0 ∨ (¬ n = 0 ∧ num = true ∧ numB n = true)) (b : Bool) (k5 : x.toList.isEmpty = b) :
    Calls Tryz.prog 41 (XArgs s op n x a len cap) w (ExP b w) := by
  obtain ⟨h, c0, c1, c2, c3⟩ := hv
  have hz := cell_lt c0
  have hs := cell_lt h.glob
  have h6 := h.next
  have H := Lib.hid h; clear h
  rcases k3 with rfl | ⟨k3, rfl, k4⟩
  all_goals
    cases b with
    | false =>
      (go_enter Tryz.func41, Tryz.ntmps41; go_wp2_with (first | (go_at_call 39; refine (need_any _ _).mono ?_; (rintro e w' ⟨rfl, ⟨hb, rfl⟩ | ⟨hb, rfl⟩⟩ <;> (first | (cases hb; done) | (exfalso; simp at hb; omega) | (exfalso; simp_all; done) | skip))) | (go_at_call 64; refine (isNumber_any _ _).mono ?_; rintro e w' ⟨rfl, rfl⟩) | (go_at_call 33; refine (name_any x _).mono ?_; rintro e w' ⟨rfl, rfl⟩) | (go_at_call 67; refine (isSlot_alone g s x _ (H.out.below (by repeat (first | exact Below.refl _ _ | refine Below.alloc ?_ (by simp; try omega) _ | refine Below.setCell ?_ (by simp; try omega) _ | refine Below.drew ?_)))).mono ?_; rintro e w' ⟨rfl, rfl⟩) | (go_at_call 68; refine (isClass_alone g s x _ (H.out.below (by repeat (first | exact Below.refl _ _ | refine Below.alloc ?_ (by simp; try omega) _ | refine Below.setCell ?_ (by simp; try omega) _ | refine Below.drew ?_)))).mono ?_; rintro e w' ⟨rfl, rfl⟩) | (go_at_call 69; refine (meetGen_alone g s x _ _ (H.out.below (by repeat (first | exact Below.refl _ _ | refine Below.alloc ?_ (by simp; try omega) _ | refine Below.setCell ?_ (by simp; try omega) _ | refine Below.drew ?_)))).mono ?_; (rintro e w' ⟨rfl, ⟨hb, rfl⟩ | ⟨hb, rfl⟩⟩ <;> (first | (cases hb; done) | (exfalso; rw [k5] at hb; cases hb; done) | skip)))))
      exact ⟨rfl, out_post rfl (by repeat (first | exact Below.refl _ _ | refine Below.alloc ?_ (by simp; try omega) _ | refine Below.setCell ?_ (by simp; try omega) _ | refine Below.drew ?_))⟩
    | true =>
      cases k6 : (op != 18) with
      | true =>
        (go_enter Tryz.func41, Tryz.ntmps41; go_wp2_with (first | (go_at_call 39; refine (need_any _ _).mono ?_; (rintro e w' ⟨rfl, ⟨hb, rfl⟩ | ⟨hb, rfl⟩⟩ <;> (first | (cases hb; done) | (exfalso; simp at hb; omega) | (exfalso; simp_all; done) | skip))) | (go_at_call 64; refine (isNumber_any _ _).mono ?_; rintro e w' ⟨rfl, rfl⟩) | (go_at_call 33; refine (name_any x _).mono ?_; rintro e w' ⟨rfl, rfl⟩) | (go_at_call 67; refine (isSlot_alone g s x _ (H.out.below (by repeat (first | exact Below.refl _ _ | refine Below.alloc ?_ (by simp; try omega) _ | refine Below.setCell ?_ (by simp; try omega) _ | refine Below.drew ?_)))).mono ?_; rintro e w' ⟨rfl, rfl⟩) | (go_at_call 68; refine (isClass_alone g s x _ (H.out.below (by repeat (first | exact Below.refl _ _ | refine Below.alloc ?_ (by simp; try omega) _ | refine Below.setCell ?_ (by simp; try omega) _ | refine Below.drew ?_)))).mono ?_; rintro e w' ⟨rfl, rfl⟩) | (go_at_call 69; refine (meetGen_alone g s x _ _ (H.out.below (by repeat (first | exact Below.refl _ _ | refine Below.alloc ?_ (by simp; try omega) _ | refine Below.setCell ?_ (by simp; try omega) _ | refine Below.drew ?_)))).mono ?_; (rintro e w' ⟨rfl, ⟨hb, rfl⟩ | ⟨hb, rfl⟩⟩ <;> (first | (cases hb; done) | (exfalso; rw [k5] at hb; cases hb; done) | skip)))))
        refine bodyPost_end (results_none rfl _ _ _) rfl (in_post rfl (by repeat (first | exact Below.refl _ _ | refine Below.alloc ?_ (by simp; try omega) _ | refine Below.setCell ?_ (by simp; try omega) _ | refine Below.drew ?_)))
      | false =>
        (go_enter Tryz.func41, Tryz.ntmps41; go_wp2_with (first | (go_at_call 39; refine (need_any _ _).mono ?_; (rintro e w' ⟨rfl, ⟨hb, rfl⟩ | ⟨hb, rfl⟩⟩ <;> (first | (cases hb; done) | (exfalso; simp at hb; omega) | (exfalso; simp_all; done) | skip))) | (go_at_call 64; refine (isNumber_any _ _).mono ?_; rintro e w' ⟨rfl, rfl⟩) | (go_at_call 33; refine (name_any x _).mono ?_; rintro e w' ⟨rfl, rfl⟩) | (go_at_call 67; refine (isSlot_alone g s x _ (H.out.below (by repeat (first | exact Below.refl _ _ | refine Below.alloc ?_ (by simp; try omega) _ | refine Below.setCell ?_ (by simp; try omega) _ | refine Below.drew ?_)))).mono ?_; rintro e w' ⟨rfl, rfl⟩) | (go_at_call 68; refine (isClass_alone g s x _ (H.out.below (by repeat (first | exact Below.refl _ _ | refine Below.alloc ?_ (by simp; try omega) _ | refine Below.setCell ?_ (by simp; try omega) _ | refine Below.drew ?_)))).mono ?_; rintro e w' ⟨rfl, rfl⟩) | (go_at_call 69; refine (meetGen_alone g s x _ _ (H.out.below (by repeat (first | exact Below.refl _ _ | refine Below.alloc ?_ (by simp; try omega) _ | refine Below.setCell ?_ (by simp; try omega) _ | refine Below.drew ?_)))).mono ?_; (rintro e w' ⟨rfl, ⟨hb, rfl⟩ | ⟨hb, rfl⟩⟩ <;> (first | (cases hb; done) | (exfalso; rw [k5] at hb; cases hb; done) | skip)))))
        refine bodyPost_end (results_none rfl _ _ _) rfl (in_post rfl (by repeat (first | exact Below.refl _ _ | refine Below.alloc ?_ (by simp; try omega) _ | refine Below.setCell ?_ (by simp; try omega) _ | refine Below.drew ?_)))
end Go.Proofs.YtnipdjkopmjoeaaGreatDoor
namespace Go.Proofs.YtnipdjkopmjoeaaGreatDoor
open Go.ChangeShapes Go.WideShapes Go.ChangeAt Go.RowKit Go.Fs
variable (g s : Nat) (op n : Int) (x : ByteArray) (a : Option Addr) (len cap : Nat) (w : World) (num : Bool) (t lo hi : Int)
set_option maxRecDepth 100000 in
set_option maxHeartbeats 2000000 in
theorem xe_t1 (h1 : 1 ≤ op) (h18 : op ≤ 18) (hv : Env w g s op num 1 lo hi) (k1 : lo ≤ len) (k2 : (len : Int) ≤ hi) (k3 : n = 0 ∨ (¬ n = 0 ∧ num = true ∧ numB n = true)) (b : Bool) (k5 : nameB x = b) :
    Calls Tryz.prog 41 (XArgs s op n x a len cap) w (ExP b w) := by
  obtain ⟨h, c0, c1, c2, c3⟩ := hv
  have hz := cell_lt c0
  have hs := cell_lt h.glob
  have h4 := h.glob
  have h6 := h.next
  have H := Lib.hid h; clear h
  rcases k3 with rfl | ⟨k3, rfl, k4⟩
  all_goals
    cases b with
    | false =>
      (go_enter Tryz.func41, Tryz.ntmps41; go_wp2_with (first | (go_at_call 39; refine (need_any _ _).mono ?_; (rintro e w' ⟨rfl, ⟨hb, rfl⟩ | ⟨hb, rfl⟩⟩ <;> (first | (cases hb; done) | (exfalso; simp at hb; omega) | (exfalso; simp_all; done) | skip))) | (go_at_call 64; refine (isNumber_any _ _).mono ?_; rintro e w' ⟨rfl, rfl⟩) | (go_at_call 33; refine (name_any x _).mono ?_; rintro e w' ⟨rfl, rfl⟩) | (go_at_call 67; refine (isSlot_alone g s x _ (H.out.below (by repeat (first | exact Below.refl _ _ | refine Below.alloc ?_ (by simp; try omega) _ | refine Below.setCell ?_ (by simp; try omega) _ | refine Below.drew ?_)))).mono ?_; rintro e w' ⟨rfl, rfl⟩) | (go_at_call 68; refine (isClass_alone g s x _ (H.out.below (by repeat (first | exact Below.refl _ _ | refine Below.alloc ?_ (by simp; try omega) _ | refine Below.setCell ?_ (by simp; try omega) _ | refine Below.drew ?_)))).mono ?_; rintro e w' ⟨rfl, rfl⟩) | (go_at_call 69; refine (meetGen_alone g s x _ _ (H.out.below (by repeat (first | exact Below.refl _ _ | refine Below.alloc ?_ (by simp; try omega) _ | refine Below.setCell ?_ (by simp; try omega) _ | refine Below.drew ?_)))).mono ?_; (rintro e w' ⟨rfl, ⟨hb, rfl⟩ | ⟨hb, rfl⟩⟩ <;> (first | (cases hb; done) | (exfalso; rw [k5] at hb; cases hb; done) | skip)))))
      exact ⟨rfl, out_post rfl (by repeat (first | exact Below.refl _ _ | refine Below.alloc ?_ (by simp; try omega) _ | refine Below.setCell ?_ (by simp; try omega) _ | refine Below.drew ?_))⟩
    | true =>
      cases k6 : (op != 18) with
      | true =>
        (go_enter Tryz.func41, Tryz.ntmps41; go_wp2_with (first | (go_at_call 39; refine (need_any _ _).mono ?_; (rintro e w' ⟨rfl, ⟨hb, rfl⟩ | ⟨hb, rfl⟩⟩ <;> (first | (cases hb; done) | (exfalso; simp at hb; omega) | (exfalso; simp_all; done) | skip))) | (go_at_call 64; refine (isNumber_any _ _).mono ?_; rintro e w' ⟨rfl, rfl⟩) | (go_at_call 33; refine (name_any x _).mono ?_; rintro e w' ⟨rfl, rfl⟩) | (go_at_call 67; refine (isSlot_alone g s x _ (H.out.below (by repeat (first | exact Below.refl _ _ | refine Below.alloc ?_ (by simp; try omega) _ | refine Below.setCell ?_ (by simp; try omega) _ | refine Below.drew ?_)))).mono ?_; rintro e w' ⟨rfl, rfl⟩) | (go_at_call 68; refine (isClass_alone g s x _ (H.out.below (by repeat (first | exact Below.refl _ _ | refine Below.alloc ?_ (by simp; try omega) _ | refine Below.setCell ?_ (by simp; try omega) _ | refine Below.drew ?_)))).mono ?_; rintro e w' ⟨rfl, rfl⟩) | (go_at_call 69; refine (meetGen_alone g s x _ _ (H.out.below (by repeat (first | exact Below.refl _ _ | refine Below.alloc ?_ (by simp; try omega) _ | refine Below.setCell ?_ (by simp; try omega) _ | refine Below.drew ?_)))).mono ?_; (rintro e w' ⟨rfl, ⟨hb, rfl⟩ | ⟨hb, rfl⟩⟩ <;> (first | (cases hb; done) | (exfalso; rw [k5] at hb; cases hb; done) | skip)))))
        refine bodyPost_end (results_none rfl _ _ _) rfl (in_post rfl (by repeat (first | exact Below.refl _ _ | refine Below.alloc ?_ (by simp; try omega) _ | refine Below.setCell ?_ (by simp; try omega) _ | refine Below.drew ?_)))
      | false =>
        (go_enter Tryz.func41, Tryz.ntmps41; go_wp2_with (first | (go_at_call 39; refine (need_any _ _).mono ?_; (rintro e w' ⟨rfl, ⟨hb, rfl⟩ | ⟨hb, rfl⟩⟩ <;> (first | (cases hb; done) | (exfalso; simp at hb; omega) | (exfalso; simp_all; done) | skip))) | (go_at_call 64; refine (isNumber_any _ _).mono ?_; rintro e w' ⟨rfl, rfl⟩) | (go_at_call 33; refine (name_any x _).mono ?_; rintro e w' ⟨rfl, rfl⟩) | (go_at_call 67; refine (isSlot_alone g s x _ (H.out.below (by repeat (first | exact Below.refl _ _ | refine Below.alloc ?_ (by simp; try omega) _ | refine Below.setCell ?_ (by simp; try omega) _ | refine Below.drew ?_)))).mono ?_; rintro e w' ⟨rfl, rfl⟩) | (go_at_call 68; refine (isClass_alone g s x _ (H.out.below (by repeat (first | exact Below.refl _ _ | refine Below.alloc ?_ (by simp; try omega) _ | refine Below.setCell ?_ (by simp; try omega) _ | refine Below.drew ?_)))).mono ?_; rintro e w' ⟨rfl, rfl⟩) | (go_at_call 69; refine (meetGen_alone g s x _ _ (H.out.below (by repeat (first | exact Below.refl _ _ | refine Below.alloc ?_ (by simp; try omega) _ | refine Below.setCell ?_ (by simp; try omega) _ | refine Below.drew ?_)))).mono ?_; (rintro e w' ⟨rfl, ⟨hb, rfl⟩ | ⟨hb, rfl⟩⟩ <;> (first | (cases hb; done) | (exfalso; rw [k5] at hb; cases hb; done) | skip)))))
        refine bodyPost_end (results_none rfl _ _ _) rfl (in_post rfl (by repeat (first | exact Below.refl _ _ | refine Below.alloc ?_ (by simp; try omega) _ | refine Below.setCell ?_ (by simp; try omega) _ | refine Below.drew ?_)))
set_option maxRecDepth 100000 in
set_option maxHeartbeats 2000000 in
theorem xe_t2 (h1 : 1 ≤ op) (h18 : op ≤ 18) (hv : Env w g s op num 2 lo hi) (k1 : lo ≤ len) (k2 : (len : Int) ≤ hi) (k3 : n = 0 ∨ (¬ n = 0 ∧ num = true ∧ numB n = true)) (b : Bool) (k5 : nameB x = b) :
    Calls Tryz.prog 41 (XArgs s op n x a len cap) w (ExP b w) := by
  obtain ⟨h, c0, c1, c2, c3⟩ := hv
  have hz := cell_lt c0
  have hs := cell_lt h.glob
  have h4 := h.glob
  have h6 := h.next
  have H := Lib.hid h; clear h
  rcases k3 with rfl | ⟨k3, rfl, k4⟩
  all_goals
    cases b with
    | false =>
      (go_enter Tryz.func41, Tryz.ntmps41; go_wp2_with (first | (go_at_call 39; refine (need_any _ _).mono ?_; (rintro e w' ⟨rfl, ⟨hb, rfl⟩ | ⟨hb, rfl⟩⟩ <;> (first | (cases hb; done) | (exfalso; simp at hb; omega) | (exfalso; simp_all; done) | skip))) | (go_at_call 64; refine (isNumber_any _ _).mono ?_; rintro e w' ⟨rfl, rfl⟩) | (go_at_call 33; refine (name_any x _).mono ?_; rintro e w' ⟨rfl, rfl⟩) | (go_at_call 67; refine (isSlot_alone g s x _ (H.out.below (by repeat (first | exact Below.refl _ _ | refine Below.alloc ?_ (by simp; try omega) _ | refine Below.setCell ?_ (by simp; try omega) _ | refine Below.drew ?_)))).mono ?_; rintro e w' ⟨rfl, rfl⟩) | (go_at_call 68; refine (isClass_alone g s x _ (H.out.below (by repeat (first | exact Below.refl _ _ | refine Below.alloc ?_ (by simp; try omega) _ | refine Below.setCell ?_ (by simp; try omega) _ | refine Below.drew ?_)))).mono ?_; rintro e w' ⟨rfl, rfl⟩) | (go_at_call 69; refine (meetGen_alone g s x _ _ (H.out.below (by repeat (first | exact Below.refl _ _ | refine Below.alloc ?_ (by simp; try omega) _ | refine Below.setCell ?_ (by simp; try omega) _ | refine Below.drew ?_)))).mono ?_; (rintro e w' ⟨rfl, ⟨hb, rfl⟩ | ⟨hb, rfl⟩⟩ <;> (first | (cases hb; done) | (exfalso; rw [k5] at hb; cases hb; done) | skip)))))
      refine still_drew 6 (by kernel_rfl) (by kernel_rfl) ?_
      simp only [List.take_succ_cons, List.take_zero, List.drop_succ_cons, List.drop_zero]; (repeat still_step); refine wpStill_nil ?_; go_wp2_with (first | (go_at_call 39; refine (need_any _ _).mono ?_; (rintro e w' ⟨rfl, ⟨hb, rfl⟩ | ⟨hb, rfl⟩⟩ <;> (first | (cases hb; done) | (exfalso; simp at hb; omega) | (exfalso; simp_all; done) | skip))) | (go_at_call 64; refine (isNumber_any _ _).mono ?_; rintro e w' ⟨rfl, rfl⟩) | (go_at_call 33; refine (name_any x _).mono ?_; rintro e w' ⟨rfl, rfl⟩) | (go_at_call 67; refine (isSlot_alone g s x _ (H.out.below (by repeat (first | exact Below.refl _ _ | refine Below.alloc ?_ (by simp; try omega) _ | refine Below.setCell ?_ (by simp; try omega) _ | refine Below.drew ?_)))).mono ?_; rintro e w' ⟨rfl, rfl⟩) | (go_at_call 68; refine (isClass_alone g s x _ (H.out.below (by repeat (first | exact Below.refl _ _ | refine Below.alloc ?_ (by simp; try omega) _ | refine Below.setCell ?_ (by simp; try omega) _ | refine Below.drew ?_)))).mono ?_; rintro e w' ⟨rfl, rfl⟩) | (go_at_call 69; refine (meetGen_alone g s x _ _ (H.out.below (by repeat (first | exact Below.refl _ _ | refine Below.alloc ?_ (by simp; try omega) _ | refine Below.setCell ?_ (by simp; try omega) _ | refine Below.drew ?_)))).mono ?_; (rintro e w' ⟨rfl, ⟨hb, rfl⟩ | ⟨hb, rfl⟩⟩ <;> (first | (cases hb; done) | (exfalso; rw [k5] at hb; cases hb; done) | skip))))
      exact ⟨rfl, out_post rfl (by repeat (first | exact Below.refl _ _ | refine Below.alloc ?_ (by simp; try omega) _ | refine Below.setCell ?_ (by simp; try omega) _ | refine Below.drew ?_))⟩
    | true =>
      cases k6 : (op != 18) with
      | true =>
        (go_enter Tryz.func41, Tryz.ntmps41; go_wp2_with (first | (go_at_call 39; refine (need_any _ _).mono ?_; (rintro e w' ⟨rfl, ⟨hb, rfl⟩ | ⟨hb, rfl⟩⟩ <;> (first | (cases hb; done) | (exfalso; simp at hb; omega) | (exfalso; simp_all; done) | skip))) | (go_at_call 64; refine (isNumber_any _ _).mono ?_; rintro e w' ⟨rfl, rfl⟩) | (go_at_call 33; refine (name_any x _).mono ?_; rintro e w' ⟨rfl, rfl⟩) | (go_at_call 67; refine (isSlot_alone g s x _ (H.out.below (by repeat (first | exact Below.refl _ _ | refine Below.alloc ?_ (by simp; try omega) _ | refine Below.setCell ?_ (by simp; try omega) _ | refine Below.drew ?_)))).mono ?_; rintro e w' ⟨rfl, rfl⟩) | (go_at_call 68; refine (isClass_alone g s x _ (H.out.below (by repeat (first | exact Below.refl _ _ | refine Below.alloc ?_ (by simp; try omega) _ | refine Below.setCell ?_ (by simp; try omega) _ | refine Below.drew ?_)))).mono ?_; rintro e w' ⟨rfl, rfl⟩) | (go_at_call 69; refine (meetGen_alone g s x _ _ (H.out.below (by repeat (first | exact Below.refl _ _ | refine Below.alloc ?_ (by simp; try omega) _ | refine Below.setCell ?_ (by simp; try omega) _ | refine Below.drew ?_)))).mono ?_; (rintro e w' ⟨rfl, ⟨hb, rfl⟩ | ⟨hb, rfl⟩⟩ <;> (first | (cases hb; done) | (exfalso; rw [k5] at hb; cases hb; done) | skip)))))
        refine still_drew 6 (by kernel_rfl) (by kernel_rfl) ?_
        simp only [List.take_succ_cons, List.take_zero, List.drop_succ_cons, List.drop_zero]; (repeat still_step); refine wpStill_nil ?_; go_wp2_with (first | (go_at_call 39; refine (need_any _ _).mono ?_; (rintro e w' ⟨rfl, ⟨hb, rfl⟩ | ⟨hb, rfl⟩⟩ <;> (first | (cases hb; done) | (exfalso; simp at hb; omega) | (exfalso; simp_all; done) | skip))) | (go_at_call 64; refine (isNumber_any _ _).mono ?_; rintro e w' ⟨rfl, rfl⟩) | (go_at_call 33; refine (name_any x _).mono ?_; rintro e w' ⟨rfl, rfl⟩) | (go_at_call 67; refine (isSlot_alone g s x _ (H.out.below (by repeat (first | exact Below.refl _ _ | refine Below.alloc ?_ (by simp; try omega) _ | refine Below.setCell ?_ (by simp; try omega) _ | refine Below.drew ?_)))).mono ?_; rintro e w' ⟨rfl, rfl⟩) | (go_at_call 68; refine (isClass_alone g s x _ (H.out.below (by repeat (first | exact Below.refl _ _ | refine Below.alloc ?_ (by simp; try omega) _ | refine Below.setCell ?_ (by simp; try omega) _ | refine Below.drew ?_)))).mono ?_; rintro e w' ⟨rfl, rfl⟩) | (go_at_call 69; refine (meetGen_alone g s x _ _ (H.out.below (by repeat (first | exact Below.refl _ _ | refine Below.alloc ?_ (by simp; try omega) _ | refine Below.setCell ?_ (by simp; try omega) _ | refine Below.drew ?_)))).mono ?_; (rintro e w' ⟨rfl, ⟨hb, rfl⟩ | ⟨hb, rfl⟩⟩ <;> (first | (cases hb; done) | (exfalso; rw [k5] at hb; cases hb; done) | skip))))
        refine bodyPost_end (results_none rfl _ _ _) rfl (in_post rfl (by repeat (first | exact Below.refl _ _ | refine Below.alloc ?_ (by simp; try omega) _ | refine Below.setCell ?_ (by simp; try omega) _ | refine Below.drew ?_)))
      | false =>
        (go_enter Tryz.func41, Tryz.ntmps41; go_wp2_with (first | (go_at_call 39; refine (need_any _ _).mono ?_; (rintro e w' ⟨rfl, ⟨hb, rfl⟩ | ⟨hb, rfl⟩⟩ <;> (first | (cases hb; done) | (exfalso; simp at hb; omega) | (exfalso; simp_all; done) | skip))) | (go_at_call 64; refine (isNumber_any _ _).mono ?_; rintro e w' ⟨rfl, rfl⟩) | (go_at_call 33; refine (name_any x _).mono ?_; rintro e w' ⟨rfl, rfl⟩) | (go_at_call 67; refine (isSlot_alone g s x _ (H.out.below (by repeat (first | exact Below.refl _ _ | refine Below.alloc ?_ (by simp; try omega) _ | refine Below.setCell ?_ (by simp; try omega) _ | refine Below.drew ?_)))).mono ?_; rintro e w' ⟨rfl, rfl⟩) | (go_at_call 68; refine (isClass_alone g s x _ (H.out.below (by repeat (first | exact Below.refl _ _ | refine Below.alloc ?_ (by simp; try omega) _ | refine Below.setCell ?_ (by simp; try omega) _ | refine Below.drew ?_)))).mono ?_; rintro e w' ⟨rfl, rfl⟩) | (go_at_call 69; refine (meetGen_alone g s x _ _ (H.out.below (by repeat (first | exact Below.refl _ _ | refine Below.alloc ?_ (by simp; try omega) _ | refine Below.setCell ?_ (by simp; try omega) _ | refine Below.drew ?_)))).mono ?_; (rintro e w' ⟨rfl, ⟨hb, rfl⟩ | ⟨hb, rfl⟩⟩ <;> (first | (cases hb; done) | (exfalso; rw [k5] at hb; cases hb; done) | skip)))))
        refine still_drew 6 (by kernel_rfl) (by kernel_rfl) ?_
        simp only [List.take_succ_cons, List.take_zero, List.drop_succ_cons, List.drop_zero]; (repeat still_step); refine wpStill_nil ?_; go_wp2_with (first | (go_at_call 39; refine (need_any _ _).mono ?_; (rintro e w' ⟨rfl, ⟨hb, rfl⟩ | ⟨hb, rfl⟩⟩ <;> (first | (cases hb; done) | (exfalso; simp at hb; omega) | (exfalso; simp_all; done) | skip))) | (go_at_call 64; refine (isNumber_any _ _).mono ?_; rintro e w' ⟨rfl, rfl⟩) | (go_at_call 33; refine (name_any x _).mono ?_; rintro e w' ⟨rfl, rfl⟩) | (go_at_call 67; refine (isSlot_alone g s x _ (H.out.below (by repeat (first | exact Below.refl _ _ | refine Below.alloc ?_ (by simp; try omega) _ | refine Below.setCell ?_ (by simp; try omega) _ | refine Below.drew ?_)))).mono ?_; rintro e w' ⟨rfl, rfl⟩) | (go_at_call 68; refine (isClass_alone g s x _ (H.out.below (by repeat (first | exact Below.refl _ _ | refine Below.alloc ?_ (by simp; try omega) _ | refine Below.setCell ?_ (by simp; try omega) _ | refine Below.drew ?_)))).mono ?_; rintro e w' ⟨rfl, rfl⟩) | (go_at_call 69; refine (meetGen_alone g s x _ _ (H.out.below (by repeat (first | exact Below.refl _ _ | refine Below.alloc ?_ (by simp; try omega) _ | refine Below.setCell ?_ (by simp; try omega) _ | refine Below.drew ?_)))).mono ?_; (rintro e w' ⟨rfl, ⟨hb, rfl⟩ | ⟨hb, rfl⟩⟩ <;> (first | (cases hb; done) | (exfalso; rw [k5] at hb; cases hb; done) | skip))))
        refine bodyPost_end (results_none rfl _ _ _) rfl (in_post rfl (by repeat (first | exact Below.refl _ _ | refine Below.alloc ?_ (by simp; try omega) _ | refine Below.setCell ?_ (by simp; try omega) _ | refine Below.drew ?_)))
set_option maxRecDepth 100000 in
set_option maxHeartbeats 2000000 in
theorem xe_t3 (h1 : 1 ≤ op) (h18 : op ≤ 18) (hv : Env w g s op num 3 lo hi) (k1 : lo ≤ len) (k2 : (len : Int) ≤ hi) (k3 : n = 0 ∨ (¬ n = 0 ∧ num = true ∧ numB n = true)) (b : Bool) (k5 : nameB x = b) :
    Calls Tryz.prog 41 (XArgs s op n x a len cap) w (ExP b w) := by
  obtain ⟨h, c0, c1, c2, c3⟩ := hv
  have hz := cell_lt c0
  have hs := cell_lt h.glob
  have h4 := h.glob
  have h6 := h.next
  have H := Lib.hid h; clear h
  rcases k3 with rfl | ⟨k3, rfl, k4⟩
  all_goals
    cases b with
    | false =>
      (go_enter Tryz.func41, Tryz.ntmps41; go_wp2_with (first | (go_at_call 39; refine (need_any _ _).mono ?_; (rintro e w' ⟨rfl, ⟨hb, rfl⟩ | ⟨hb, rfl⟩⟩ <;> (first | (cases hb; done) | (exfalso; simp at hb; omega) | (exfalso; simp_all; done) | skip))) | (go_at_call 64; refine (isNumber_any _ _).mono ?_; rintro e w' ⟨rfl, rfl⟩) | (go_at_call 33; refine (name_any x _).mono ?_; rintro e w' ⟨rfl, rfl⟩) | (go_at_call 67; refine (isSlot_alone g s x _ (H.out.below (by repeat (first | exact Below.refl _ _ | refine Below.alloc ?_ (by simp; try omega) _ | refine Below.setCell ?_ (by simp; try omega) _ | refine Below.drew ?_)))).mono ?_; rintro e w' ⟨rfl, rfl⟩) | (go_at_call 68; refine (isClass_alone g s x _ (H.out.below (by repeat (first | exact Below.refl _ _ | refine Below.alloc ?_ (by simp; try omega) _ | refine Below.setCell ?_ (by simp; try omega) _ | refine Below.drew ?_)))).mono ?_; rintro e w' ⟨rfl, rfl⟩) | (go_at_call 69; refine (meetGen_alone g s x _ _ (H.out.below (by repeat (first | exact Below.refl _ _ | refine Below.alloc ?_ (by simp; try omega) _ | refine Below.setCell ?_ (by simp; try omega) _ | refine Below.drew ?_)))).mono ?_; (rintro e w' ⟨rfl, ⟨hb, rfl⟩ | ⟨hb, rfl⟩⟩ <;> (first | (cases hb; done) | (exfalso; rw [k5] at hb; cases hb; done) | skip)))))
      refine still_drew 6 (by kernel_rfl) (by kernel_rfl) ?_
      simp only [List.take_succ_cons, List.take_zero, List.drop_succ_cons, List.drop_zero]; (repeat still_step); refine wpStill_nil ?_; go_wp2_with (first | (go_at_call 39; refine (need_any _ _).mono ?_; (rintro e w' ⟨rfl, ⟨hb, rfl⟩ | ⟨hb, rfl⟩⟩ <;> (first | (cases hb; done) | (exfalso; simp at hb; omega) | (exfalso; simp_all; done) | skip))) | (go_at_call 64; refine (isNumber_any _ _).mono ?_; rintro e w' ⟨rfl, rfl⟩) | (go_at_call 33; refine (name_any x _).mono ?_; rintro e w' ⟨rfl, rfl⟩) | (go_at_call 67; refine (isSlot_alone g s x _ (H.out.below (by repeat (first | exact Below.refl _ _ | refine Below.alloc ?_ (by simp; try omega) _ | refine Below.setCell ?_ (by simp; try omega) _ | refine Below.drew ?_)))).mono ?_; rintro e w' ⟨rfl, rfl⟩) | (go_at_call 68; refine (isClass_alone g s x _ (H.out.below (by repeat (first | exact Below.refl _ _ | refine Below.alloc ?_ (by simp; try omega) _ | refine Below.setCell ?_ (by simp; try omega) _ | refine Below.drew ?_)))).mono ?_; rintro e w' ⟨rfl, rfl⟩) | (go_at_call 69; refine (meetGen_alone g s x _ _ (H.out.below (by repeat (first | exact Below.refl _ _ | refine Below.alloc ?_ (by simp; try omega) _ | refine Below.setCell ?_ (by simp; try omega) _ | refine Below.drew ?_)))).mono ?_; (rintro e w' ⟨rfl, ⟨hb, rfl⟩ | ⟨hb, rfl⟩⟩ <;> (first | (cases hb; done) | (exfalso; rw [k5] at hb; cases hb; done) | skip))))
      exact ⟨rfl, out_post rfl (by repeat (first | exact Below.refl _ _ | refine Below.alloc ?_ (by simp; try omega) _ | refine Below.setCell ?_ (by simp; try omega) _ | refine Below.drew ?_))⟩
    | true =>
      cases k6 : (op != 18) with
      | true =>
        (go_enter Tryz.func41, Tryz.ntmps41; go_wp2_with (first | (go_at_call 39; refine (need_any _ _).mono ?_; (rintro e w' ⟨rfl, ⟨hb, rfl⟩ | ⟨hb, rfl⟩⟩ <;> (first | (cases hb; done) | (exfalso; simp at hb; omega) | (exfalso; simp_all; done) | skip))) | (go_at_call 64; refine (isNumber_any _ _).mono ?_; rintro e w' ⟨rfl, rfl⟩) | (go_at_call 33; refine (name_any x _).mono ?_; rintro e w' ⟨rfl, rfl⟩) | (go_at_call 67; refine (isSlot_alone g s x _ (H.out.below (by repeat (first | exact Below.refl _ _ | refine Below.alloc ?_ (by simp; try omega) _ | refine Below.setCell ?_ (by simp; try omega) _ | refine Below.drew ?_)))).mono ?_; rintro e w' ⟨rfl, rfl⟩) | (go_at_call 68; refine (isClass_alone g s x _ (H.out.below (by repeat (first | exact Below.refl _ _ | refine Below.alloc ?_ (by simp; try omega) _ | refine Below.setCell ?_ (by simp; try omega) _ | refine Below.drew ?_)))).mono ?_; rintro e w' ⟨rfl, rfl⟩) | (go_at_call 69; refine (meetGen_alone g s x _ _ (H.out.below (by repeat (first | exact Below.refl _ _ | refine Below.alloc ?_ (by simp; try omega) _ | refine Below.setCell ?_ (by simp; try omega) _ | refine Below.drew ?_)))).mono ?_; (rintro e w' ⟨rfl, ⟨hb, rfl⟩ | ⟨hb, rfl⟩⟩ <;> (first | (cases hb; done) | (exfalso; rw [k5] at hb; cases hb; done) | skip)))))
        refine still_drew 6 (by kernel_rfl) (by kernel_rfl) ?_
        simp only [List.take_succ_cons, List.take_zero, List.drop_succ_cons, List.drop_zero]; (repeat still_step); refine wpStill_nil ?_; go_wp2_with (first | (go_at_call 39; refine (need_any _ _).mono ?_; (rintro e w' ⟨rfl, ⟨hb, rfl⟩ | ⟨hb, rfl⟩⟩ <;> (first | (cases hb; done) | (exfalso; simp at hb; omega) | (exfalso; simp_all; done) | skip))) | (go_at_call 64; refine (isNumber_any _ _).mono ?_; rintro e w' ⟨rfl, rfl⟩) | (go_at_call 33; refine (name_any x _).mono ?_; rintro e w' ⟨rfl, rfl⟩) | (go_at_call 67; refine (isSlot_alone g s x _ (H.out.below (by repeat (first | exact Below.refl _ _ | refine Below.alloc ?_ (by simp; try omega) _ | refine Below.setCell ?_ (by simp; try omega) _ | refine Below.drew ?_)))).mono ?_; rintro e w' ⟨rfl, rfl⟩) | (go_at_call 68; refine (isClass_alone g s x _ (H.out.below (by repeat (first | exact Below.refl _ _ | refine Below.alloc ?_ (by simp; try omega) _ | refine Below.setCell ?_ (by simp; try omega) _ | refine Below.drew ?_)))).mono ?_; rintro e w' ⟨rfl, rfl⟩) | (go_at_call 69; refine (meetGen_alone g s x _ _ (H.out.below (by repeat (first | exact Below.refl _ _ | refine Below.alloc ?_ (by simp; try omega) _ | refine Below.setCell ?_ (by simp; try omega) _ | refine Below.drew ?_)))).mono ?_; (rintro e w' ⟨rfl, ⟨hb, rfl⟩ | ⟨hb, rfl⟩⟩ <;> (first | (cases hb; done) | (exfalso; rw [k5] at hb; cases hb; done) | skip))))
        refine bodyPost_end (results_none rfl _ _ _) rfl (in_post rfl (by repeat (first | exact Below.refl _ _ | refine Below.alloc ?_ (by simp; try omega) _ | refine Below.setCell ?_ (by simp; try omega) _ | refine Below.drew ?_)))
      | false =>
        (go_enter Tryz.func41, Tryz.ntmps41; go_wp2_with (first | (go_at_call 39; refine (need_any _ _).mono ?_; (rintro e w' ⟨rfl, ⟨hb, rfl⟩ | ⟨hb, rfl⟩⟩ <;> (first | (cases hb; done) | (exfalso; simp at hb; omega) | (exfalso; simp_all; done) | skip))) | (go_at_call 64; refine (isNumber_any _ _).mono ?_; rintro e w' ⟨rfl, rfl⟩) | (go_at_call 33; refine (name_any x _).mono ?_; rintro e w' ⟨rfl, rfl⟩) | (go_at_call 67; refine (isSlot_alone g s x _ (H.out.below (by repeat (first | exact Below.refl _ _ | refine Below.alloc ?_ (by simp; try omega) _ | refine Below.setCell ?_ (by simp; try omega) _ | refine Below.drew ?_)))).mono ?_; rintro e w' ⟨rfl, rfl⟩) | (go_at_call 68; refine (isClass_alone g s x _ (H.out.below (by repeat (first | exact Below.refl _ _ | refine Below.alloc ?_ (by simp; try omega) _ | refine Below.setCell ?_ (by simp; try omega) _ | refine Below.drew ?_)))).mono ?_; rintro e w' ⟨rfl, rfl⟩) | (go_at_call 69; refine (meetGen_alone g s x _ _ (H.out.below (by repeat (first | exact Below.refl _ _ | refine Below.alloc ?_ (by simp; try omega) _ | refine Below.setCell ?_ (by simp; try omega) _ | refine Below.drew ?_)))).mono ?_; (rintro e w' ⟨rfl, ⟨hb, rfl⟩ | ⟨hb, rfl⟩⟩ <;> (first | (cases hb; done) | (exfalso; rw [k5] at hb; cases hb; done) | skip)))))
        refine still_drew 6 (by kernel_rfl) (by kernel_rfl) ?_
        simp only [List.take_succ_cons, List.take_zero, List.drop_succ_cons, List.drop_zero]; (repeat still_step); refine wpStill_nil ?_; go_wp2_with (first | (go_at_call 39; refine (need_any _ _).mono ?_; (rintro e w' ⟨rfl, ⟨hb, rfl⟩ | ⟨hb, rfl⟩⟩ <;> (first | (cases hb; done) | (exfalso; simp at hb; omega) | (exfalso; simp_all; done) | skip))) | (go_at_call 64; refine (isNumber_any _ _).mono ?_; rintro e w' ⟨rfl, rfl⟩) | (go_at_call 33; refine (name_any x _).mono ?_; rintro e w' ⟨rfl, rfl⟩) | (go_at_call 67; refine (isSlot_alone g s x _ (H.out.below (by repeat (first | exact Below.refl _ _ | refine Below.alloc ?_ (by simp; try omega) _ | refine Below.setCell ?_ (by simp; try omega) _ | refine Below.drew ?_)))).mono ?_; rintro e w' ⟨rfl, rfl⟩) | (go_at_call 68; refine (isClass_alone g s x _ (H.out.below (by repeat (first | exact Below.refl _ _ | refine Below.alloc ?_ (by simp; try omega) _ | refine Below.setCell ?_ (by simp; try omega) _ | refine Below.drew ?_)))).mono ?_; rintro e w' ⟨rfl, rfl⟩) | (go_at_call 69; refine (meetGen_alone g s x _ _ (H.out.below (by repeat (first | exact Below.refl _ _ | refine Below.alloc ?_ (by simp; try omega) _ | refine Below.setCell ?_ (by simp; try omega) _ | refine Below.drew ?_)))).mono ?_; (rintro e w' ⟨rfl, ⟨hb, rfl⟩ | ⟨hb, rfl⟩⟩ <;> (first | (cases hb; done) | (exfalso; rw [k5] at hb; cases hb; done) | skip))))
        refine bodyPost_end (results_none rfl _ _ _) rfl (in_post rfl (by repeat (first | exact Below.refl _ _ | refine Below.alloc ?_ (by simp; try omega) _ | refine Below.setCell ?_ (by simp; try omega) _ | refine Below.drew ?_)))
set_option maxRecDepth 100000 in
set_option maxHeartbeats 2000000 in
theorem xe_t4 (h1 : 1 ≤ op) (h18 : op ≤ 18) (hv : Env w g s op num 4 lo hi) (k1 : lo ≤ len) (k2 : (len : Int) ≤ hi) (k3 : n = 0 ∨ (¬ n = 0 ∧ num = true ∧ numB n = true)) (b : Bool) (k5 : nameB x = b) :
    Calls Tryz.prog 41 (XArgs s op n x a len cap) w (ExP b w) := by
  obtain ⟨h, c0, c1, c2, c3⟩ := hv
  have hz := cell_lt c0
  have hs := cell_lt h.glob
  have h4 := h.glob
  have h6 := h.next
  have H := Lib.hid h; clear h
  rcases k3 with rfl | ⟨k3, rfl, k4⟩
  all_goals
    cases b with
    | false =>
      (go_enter Tryz.func41, Tryz.ntmps41; go_wp2_with (first | (go_at_call 39; refine (need_any _ _).mono ?_; (rintro e w' ⟨rfl, ⟨hb, rfl⟩ | ⟨hb, rfl⟩⟩ <;> (first | (cases hb; done) | (exfalso; simp at hb; omega) | (exfalso; simp_all; done) | skip))) | (go_at_call 64; refine (isNumber_any _ _).mono ?_; rintro e w' ⟨rfl, rfl⟩) | (go_at_call 33; refine (name_any x _).mono ?_; rintro e w' ⟨rfl, rfl⟩) | (go_at_call 67; refine (isSlot_alone g s x _ (H.out.below (by repeat (first | exact Below.refl _ _ | refine Below.alloc ?_ (by simp; try omega) _ | refine Below.setCell ?_ (by simp; try omega) _ | refine Below.drew ?_)))).mono ?_; rintro e w' ⟨rfl, rfl⟩) | (go_at_call 68; refine (isClass_alone g s x _ (H.out.below (by repeat (first | exact Below.refl _ _ | refine Below.alloc ?_ (by simp; try omega) _ | refine Below.setCell ?_ (by simp; try omega) _ | refine Below.drew ?_)))).mono ?_; rintro e w' ⟨rfl, rfl⟩) | (go_at_call 69; refine (meetGen_alone g s x _ _ (H.out.below (by repeat (first | exact Below.refl _ _ | refine Below.alloc ?_ (by simp; try omega) _ | refine Below.setCell ?_ (by simp; try omega) _ | refine Below.drew ?_)))).mono ?_; (rintro e w' ⟨rfl, ⟨hb, rfl⟩ | ⟨hb, rfl⟩⟩ <;> (first | (cases hb; done) | (exfalso; rw [k5] at hb; cases hb; done) | skip)))))
      refine still_drew 9 (by kernel_rfl) (by kernel_rfl) ?_
      simp only [List.take_succ_cons, List.take_zero, List.drop_succ_cons, List.drop_zero]; (repeat still_step); refine wpStill_nil ?_; go_wp2_with (first | (go_at_call 39; refine (need_any _ _).mono ?_; (rintro e w' ⟨rfl, ⟨hb, rfl⟩ | ⟨hb, rfl⟩⟩ <;> (first | (cases hb; done) | (exfalso; simp at hb; omega) | (exfalso; simp_all; done) | skip))) | (go_at_call 64; refine (isNumber_any _ _).mono ?_; rintro e w' ⟨rfl, rfl⟩) | (go_at_call 33; refine (name_any x _).mono ?_; rintro e w' ⟨rfl, rfl⟩) | (go_at_call 67; refine (isSlot_alone g s x _ (H.out.below (by repeat (first | exact Below.refl _ _ | refine Below.alloc ?_ (by simp; try omega) _ | refine Below.setCell ?_ (by simp; try omega) _ | refine Below.drew ?_)))).mono ?_; rintro e w' ⟨rfl, rfl⟩) | (go_at_call 68; refine (isClass_alone g s x _ (H.out.below (by repeat (first | exact Below.refl _ _ | refine Below.alloc ?_ (by simp; try omega) _ | refine Below.setCell ?_ (by simp; try omega) _ | refine Below.drew ?_)))).mono ?_; rintro e w' ⟨rfl, rfl⟩) | (go_at_call 69; refine (meetGen_alone g s x _ _ (H.out.below (by repeat (first | exact Below.refl _ _ | refine Below.alloc ?_ (by simp; try omega) _ | refine Below.setCell ?_ (by simp; try omega) _ | refine Below.drew ?_)))).mono ?_; (rintro e w' ⟨rfl, ⟨hb, rfl⟩ | ⟨hb, rfl⟩⟩ <;> (first | (cases hb; done) | (exfalso; rw [k5] at hb; cases hb; done) | skip))))
      exact ⟨rfl, out_post rfl (by repeat (first | exact Below.refl _ _ | refine Below.alloc ?_ (by simp; try omega) _ | refine Below.setCell ?_ (by simp; try omega) _ | refine Below.drew ?_))⟩
    | true =>
      cases k6 : (op != 18) with
      | true =>
        (go_enter Tryz.func41, Tryz.ntmps41; go_wp2_with (first | (go_at_call 39; refine (need_any _ _).mono ?_; (rintro e w' ⟨rfl, ⟨hb, rfl⟩ | ⟨hb, rfl⟩⟩ <;> (first | (cases hb; done) | (exfalso; simp at hb; omega) | (exfalso; simp_all; done) | skip))) | (go_at_call 64; refine (isNumber_any _ _).mono ?_; rintro e w' ⟨rfl, rfl⟩) | (go_at_call 33; refine (name_any x _).mono ?_; rintro e w' ⟨rfl, rfl⟩) | (go_at_call 67; refine (isSlot_alone g s x _ (H.out.below (by repeat (first | exact Below.refl _ _ | refine Below.alloc ?_ (by simp; try omega) _ | refine Below.setCell ?_ (by simp; try omega) _ | refine Below.drew ?_)))).mono ?_; rintro e w' ⟨rfl, rfl⟩) | (go_at_call 68; refine (isClass_alone g s x _ (H.out.below (by repeat (first | exact Below.refl _ _ | refine Below.alloc ?_ (by simp; try omega) _ | refine Below.setCell ?_ (by simp; try omega) _ | refine Below.drew ?_)))).mono ?_; rintro e w' ⟨rfl, rfl⟩) | (go_at_call 69; refine (meetGen_alone g s x _ _ (H.out.below (by repeat (first | exact Below.refl _ _ | refine Below.alloc ?_ (by simp; try omega) _ | refine Below.setCell ?_ (by simp; try omega) _ | refine Below.drew ?_)))).mono ?_; (rintro e w' ⟨rfl, ⟨hb, rfl⟩ | ⟨hb, rfl⟩⟩ <;> (first | (cases hb; done) | (exfalso; rw [k5] at hb; cases hb; done) | skip)))))
        refine still_drew 9 (by kernel_rfl) (by kernel_rfl) ?_
        simp only [List.take_succ_cons, List.take_zero, List.drop_succ_cons, List.drop_zero]; (repeat still_step); refine wpStill_nil ?_; go_wp2_with (first | (go_at_call 39; refine (need_any _ _).mono ?_; (rintro e w' ⟨rfl, ⟨hb, rfl⟩ | ⟨hb, rfl⟩⟩ <;> (first | (cases hb; done) | (exfalso; simp at hb; omega) | (exfalso; simp_all; done) | skip))) | (go_at_call 64; refine (isNumber_any _ _).mono ?_; rintro e w' ⟨rfl, rfl⟩) | (go_at_call 33; refine (name_any x _).mono ?_; rintro e w' ⟨rfl, rfl⟩) | (go_at_call 67; refine (isSlot_alone g s x _ (H.out.below (by repeat (first | exact Below.refl _ _ | refine Below.alloc ?_ (by simp; try omega) _ | refine Below.setCell ?_ (by simp; try omega) _ | refine Below.drew ?_)))).mono ?_; rintro e w' ⟨rfl, rfl⟩) | (go_at_call 68; refine (isClass_alone g s x _ (H.out.below (by repeat (first | exact Below.refl _ _ | refine Below.alloc ?_ (by simp; try omega) _ | refine Below.setCell ?_ (by simp; try omega) _ | refine Below.drew ?_)))).mono ?_; rintro e w' ⟨rfl, rfl⟩) | (go_at_call 69; refine (meetGen_alone g s x _ _ (H.out.below (by repeat (first | exact Below.refl _ _ | refine Below.alloc ?_ (by simp; try omega) _ | refine Below.setCell ?_ (by simp; try omega) _ | refine Below.drew ?_)))).mono ?_; (rintro e w' ⟨rfl, ⟨hb, rfl⟩ | ⟨hb, rfl⟩⟩ <;> (first | (cases hb; done) | (exfalso; rw [k5] at hb; cases hb; done) | skip))))
        refine bodyPost_end (results_none rfl _ _ _) rfl (in_post rfl (by repeat (first | exact Below.refl _ _ | refine Below.alloc ?_ (by simp; try omega) _ | refine Below.setCell ?_ (by simp; try omega) _ | refine Below.drew ?_)))
      | false =>
        (go_enter Tryz.func41, Tryz.ntmps41; go_wp2_with (first | (go_at_call 39; refine (need_any _ _).mono ?_; (rintro e w' ⟨rfl, ⟨hb, rfl⟩ | ⟨hb, rfl⟩⟩ <;> (first | (cases hb; done) | (exfalso; simp at hb; omega) | (exfalso; simp_all; done) | skip))) | (go_at_call 64; refine (isNumber_any _ _).mono ?_; rintro e w' ⟨rfl, rfl⟩) | (go_at_call 33; refine (name_any x _).mono ?_; rintro e w' ⟨rfl, rfl⟩) | (go_at_call 67; refine (isSlot_alone g s x _ (H.out.below (by repeat (first | exact Below.refl _ _ | refine Below.alloc ?_ (by simp; try omega) _ | refine Below.setCell ?_ (by simp; try omega) _ | refine Below.drew ?_)))).mono ?_; rintro e w' ⟨rfl, rfl⟩) | (go_at_call 68; refine (isClass_alone g s x _ (H.out.below (by repeat (first | exact Below.refl _ _ | refine Below.alloc ?_ (by simp; try omega) _ | refine Below.setCell ?_ (by simp; try omega) _ | refine Below.drew ?_)))).mono ?_; rintro e w' ⟨rfl, rfl⟩) | (go_at_call 69; refine (meetGen_alone g s x _ _ (H.out.below (by repeat (first | exact Below.refl _ _ | refine Below.alloc ?_ (by simp; try omega) _ | refine Below.setCell ?_ (by simp; try omega) _ | refine Below.drew ?_)))).mono ?_; (rintro e w' ⟨rfl, ⟨hb, rfl⟩ | ⟨hb, rfl⟩⟩ <;> (first | (cases hb; done) | (exfalso; rw [k5] at hb; cases hb; done) | skip)))))
        refine still_drew 9 (by kernel_rfl) (by kernel_rfl) ?_
        simp only [List.take_succ_cons, List.take_zero, List.drop_succ_cons, List.drop_zero]; (repeat still_step); refine wpStill_nil ?_; go_wp2_with (first | (go_at_call 39; refine (need_any _ _).mono ?_; (rintro e w' ⟨rfl, ⟨hb, rfl⟩ | ⟨hb, rfl⟩⟩ <;> (first | (cases hb; done) | (exfalso; simp at hb; omega) | (exfalso; simp_all; done) | skip))) | (go_at_call 64; refine (isNumber_any _ _).mono ?_; rintro e w' ⟨rfl, rfl⟩) | (go_at_call 33; refine (name_any x _).mono ?_; rintro e w' ⟨rfl, rfl⟩) | (go_at_call 67; refine (isSlot_alone g s x _ (H.out.below (by repeat (first | exact Below.refl _ _ | refine Below.alloc ?_ (by simp; try omega) _ | refine Below.setCell ?_ (by simp; try omega) _ | refine Below.drew ?_)))).mono ?_; rintro e w' ⟨rfl, rfl⟩) | (go_at_call 68; refine (isClass_alone g s x _ (H.out.below (by repeat (first | exact Below.refl _ _ | refine Below.alloc ?_ (by simp; try omega) _ | refine Below.setCell ?_ (by simp; try omega) _ | refine Below.drew ?_)))).mono ?_; rintro e w' ⟨rfl, rfl⟩) | (go_at_call 69; refine (meetGen_alone g s x _ _ (H.out.below (by repeat (first | exact Below.refl _ _ | refine Below.alloc ?_ (by simp; try omega) _ | refine Below.setCell ?_ (by simp; try omega) _ | refine Below.drew ?_)))).mono ?_; (rintro e w' ⟨rfl, ⟨hb, rfl⟩ | ⟨hb, rfl⟩⟩ <;> (first | (cases hb; done) | (exfalso; rw [k5] at hb; cases hb; done) | skip))))
        refine bodyPost_end (results_none rfl _ _ _) rfl (in_post rfl (by repeat (first | exact Below.refl _ _ | refine Below.alloc ?_ (by simp; try omega) _ | refine Below.setCell ?_ (by simp; try omega) _ | refine Below.drew ?_)))
end Go.Proofs.YtnipdjkopmjoeaaGreatDoor
