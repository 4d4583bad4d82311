/-
  Class graphs as lists of numbers: what is formed, what is above and below a class, common classes and the least ones, both ways in which they are found are one. No condition.
-/
import Derived.WalkKit
import Derived.WalkSpells
import Derived.Outline
import Derived.ProofKit
import Derived.LoopTactic
import Derived.Lib.Hide
import Derived.OneCell
namespace Go.Fs
/-- an expression as data -/
inductive ET where
  | mk (op n : Int) (text : ByteArray) (kids : List ET)
def ET.op : ET → Int | .mk o _ _ _ => o
def ET.n : ET → Int | .mk _ n _ _ => n
def ET.text : ET → ByteArray | .mk _ _ t _ => t
def ET.kids : ET → List ET | .mk _ _ _ k => k
mutual
def sizeE : ET → Nat | .mk _ _ _ ks => 1 + sizeL ks
def sizeL : List ET → Nat | [] => 0 | k :: ks => sizeE k + sizeL ks
end
mutual
def deepE : ET → Nat | .mk _ _ _ ks => deepL ks + 1
def deepL : List ET → Nat | [] => 0 | k :: ks => max (deepE k) (deepL ks)
end
section
variable (sh : Int → Int → ByteArray → Nat → Bool)
mutual
/-- every node is shaped, and none is deeper than 12 -/
def okE (d : Int) : ET → Bool | .mk o n t ks => decide (d ≤ 12) && sh o n t ks.length && okL (d + 1) ks
def okL (d : Int) : List ET → Bool | [] => true | k :: ks => okE d k && okL d ks
end
theorem okL_append (d : Int) : ∀ (a b : List ET), okL sh d (a ++ b) = (okL sh d a && okL sh d b)
  | [], b => by simp [okL]
  | x :: a, b => by simp [okL, okL_append d a b, Bool.and_assoc]
end
theorem sizeL_append : ∀ (a b : List ET), sizeL (a ++ b) = sizeL a + sizeL b
  | [], b => by simp [sizeL]
  | x :: a, b => by simp [sizeL, sizeL_append a b, Nat.add_assoc]
theorem deepL_append : ∀ (a b : List ET), deepL (a ++ b) = max (deepL a) (deepL b)
  | [], b => by simp [deepL]
  | x :: a, b => by simp [deepL, deepL_append a b, Nat.max_assoc]
theorem sizeE_pos (e : ET) : 1 ≤ sizeE e := by cases e; simp [sizeE]
theorem take_snoc {α : Type} (l : List α) (k : Nat) (x : α) (h : l[k]? = some x) : l.take (k + 1) = l.take k ++ [x] := by
  obtain ⟨hk, rfl⟩ := List.getElem?_eq_some_iff.1 h
  exact List.take_succ_eq_append_getElem hk
theorem take_split {α : Type} (l : List α) (k : Nat) (x : α) (h : l[k]? = some x) : l = l.take k ++ x :: l.drop (k + 1) := by
  obtain ⟨hk, rfl⟩ := List.getElem?_eq_some_iff.1 h
  rw [← List.drop_eq_getElem_cons hk, List.take_append_drop]
section
variable (sh : Int → Int → ByteArray → Nat → Bool)
theorem okL_take (d : Int) (l : List ET) (k : Nat) (x : ET) (h : l[k]? = some x) : okL sh d (l.take (k + 1)) = (okL sh d (l.take k) && okE sh d x) := by
  rw [take_snoc l k x h, okL_append]; simp [okL]
theorem okL_stop (d : Int) (l : List ET) (k : Nat) (x : ET) (h : l[k]? = some x) (hx : okE sh d x = false) : okL sh d l = false := by
  rw [take_split l k x h, okL_append]; simp [okL, hx]
end
theorem sizeL_take (l : List ET) (k : Nat) (x : ET) (h : l[k]? = some x) : sizeL (l.take (k + 1)) = sizeL (l.take k) + sizeE x := by
  rw [take_snoc l k x h, sizeL_append]; simp [sizeL]
theorem sizeL_stop (l : List ET) (k : Nat) (x : ET) (h : l[k]? = some x) : sizeL (l.take k) + sizeE x ≤ sizeL l := by
  have := congrArg sizeL (take_split l k x h)
  rw [sizeL_append] at this; simp [sizeL] at this; omega
theorem deepL_take (l : List ET) (k : Nat) (x : ET) (h : l[k]? = some x) : deepL (l.take (k + 1)) = max (deepL (l.take k)) (deepE x) := by
  rw [take_snoc l k x h, deepL_append]; simp [deepL]
theorem sizeE_kid (o n : Int) (t : ByteArray) (l : List ET) (k : Nat) (x : ET) (h : l[k]? = some x) : sizeE x < sizeE (.mk o n t l) := by
  have := sizeL_stop l k x h
  simp [sizeE]; omega
/-- a fact as data -/
inductive FT where
  | mk (op : Int) (name : ByteArray) (path : List ByteArray) (cls : ByteArray) (n : Int) (kids : List FT)
mutual
def sizeF : FT → Nat | .mk _ _ _ _ _ ks => 1 + sizeFL ks
def sizeFL : List FT → Nat | [] => 0 | k :: ks => sizeF k + sizeFL ks
end
section
variable (sh : Int → ByteArray → List ByteArray → ByteArray → Int → Nat → Bool)
mutual
def okF (d : Int) : FT → Bool | .mk o s p c n ks => decide (d ≤ 12) && sh o s p c n ks.length && okFL (d + 1) ks
def okFL (d : Int) : List FT → Bool | [] => true | k :: ks => okF d k && okFL d ks
end
theorem okFL_append (d : Int) : ∀ (a b : List FT), okFL sh d (a ++ b) = (okFL sh d a && okFL sh d b)
  | [], b => by simp [okFL]
  | x :: a, b => by simp [okFL, okFL_append d a b, Bool.and_assoc]
theorem okFL_take (d : Int) (l : List FT) (k : Nat) (x : FT) (h : l[k]? = some x) : okFL sh d (l.take (k + 1)) = (okFL sh d (l.take k) && okF sh d x) := by
  rw [take_snoc l k x h, okFL_append]; simp [okFL]
theorem okFL_stop (d : Int) (l : List FT) (k : Nat) (x : FT) (h : l[k]? = some x) (hx : okF sh d x = false) : okFL sh d l = false := by
  rw [take_split l k x h, okFL_append]; simp [okFL, hx]
end
theorem sizeFL_append : ∀ (a b : List FT), sizeFL (a ++ b) = sizeFL a + sizeFL b
  | [], b => by simp [sizeFL]
  | x :: a, b => by simp [sizeFL, sizeFL_append a b, Nat.add_assoc]
theorem sizeF_pos (e : FT) : 1 ≤ sizeF e := by cases e; simp [sizeF]
theorem sizeFL_take (l : List FT) (k : Nat) (x : FT) (h : l[k]? = some x) : sizeFL (l.take (k + 1)) = sizeFL (l.take k) + sizeF x := by
  rw [take_snoc l k x h, sizeFL_append]; simp [sizeFL]
theorem sizeFL_stop (l : List FT) (k : Nat) (x : FT) (h : l[k]? = some x) : sizeFL (l.take k) + sizeF x ≤ sizeFL l := by
  have := congrArg sizeFL (take_split l k x h)
  rw [sizeFL_append] at this; simp [sizeFL] at this; omega
end Go.Fs
namespace Go.Fs
open Go Go.RowKit
/-- what was there is as it was, but for some blocks -/
structure Upd (L : List Nat) (w w' : World) : Prop where
  os : w'.os = w.os
  tape : w'.tape = w.tape
  output : w'.output = w.output
  size : w.heap.size ≤ w'.heap.size
  block : ∀ k, k < w.heap.size → k ∉ L → w'.heap[k]? = w.heap[k]?
theorem Upd.refl (L : List Nat) (w : World) : Upd L w w := ⟨rfl, rfl, rfl, Nat.le_refl _, fun _ _ _ => rfl⟩
theorem Upd.trans {L : List Nat} {a b c : World} (h : Upd L a b) (k : Upd L b c) : Upd L a c :=
  ⟨k.os.trans h.os, k.tape.trans h.tape, k.output.trans h.output, Nat.le_trans h.size k.size, fun i hi hn => (k.block i (Nat.lt_of_lt_of_le hi h.size) hn).trans (h.block i hi hn)⟩
theorem Upd.mono {L M : List Nat} {a b : World} (h : Upd L a b) (hs : ∀ x, x ∈ L → x < a.heap.size → x ∈ M) : Upd M a b :=
  ⟨h.os, h.tape, h.output, h.size, fun i hi hn => h.block i hi (fun hx => hn (hs i hx hi))⟩
/-- a step whose written blocks are allowed, or newer than the start -/
theorem Upd.step {L M : List Nat} {a b c : World} (h : Upd L a b) (k : Upd M b c) (hs : ∀ x, x ∈ M → x < a.heap.size → x ∈ L) : Upd L a c :=
  ⟨k.os.trans h.os, k.tape.trans h.tape, k.output.trans h.output, Nat.le_trans h.size k.size, fun i hi hn => (k.block i (Nat.lt_of_lt_of_le hi h.size) (fun hx => hn (hs i hx hi))).trans (h.block i hi hn)⟩
theorem Upd.drew {L : List Nat} {a w : World} (h : Upd L a w) : Upd L a w.drew := ⟨h.os, h.tape, h.output, h.size, h.block⟩
theorem Upd.alloc {L : List Nat} {a w : World} (h : Upd L a w) (o : Obj) : Upd L a (w.alloc o) :=
  h.trans ⟨rfl, rfl, rfl, by simp, fun k hk _ => Below.heap_alloc _ _ _ hk⟩
theorem Upd.setCell {L : List Nat} {a w : World} (h : Upd L a w) {p : Addr} (hp : p.block < a.heap.size → p.block ∈ L) (u : Value) : Upd L a (w.setCell p u) :=
  ⟨h.os, h.tape, h.output, by have := h.size; simp [World.setCell]; exact this, fun k hk hn => by rw [Below.heap_setCell _ _ _ _ (fun e => hn (by subst e; exact hp hk))]; exact h.block k hk hn⟩
theorem Upd.ofBelow {a b : World} (L : List Nat) (h : Below a.heap.size a b) : Upd L a b := ⟨h.os, h.tape, h.output, h.size, fun k hk _ => h.block k hk⟩
theorem Upd.below {L : List Nat} {a b : World} (h : Upd L a b) (B : Nat) (hB : B ≤ a.heap.size) (hL : ∀ x ∈ L, B ≤ x) : Below B a b :=
  ⟨h.os, h.tape, h.output, h.size, fun k hk => h.block k (by omega) (fun hx => by have := hL k hx; omega)⟩
theorem Upd.toBelow {a b : World} (h : Upd [] a b) : Below a.heap.size a b := h.below _ (Nat.le_refl _) (fun _ hx => by cases hx)
theorem Upd.cells {L : List Nat} {a b : World} (h : Upd L a b) : ∀ k o, k < a.heap.size → k ∉ L → b.cell? ⟨k, o, none⟩ = a.cell? ⟨k, o, none⟩ := fun k _ hk hn => World.cell?_of_block (w := a) (h.block k hk hn)
theorem Upd.frozens {L : List Nat} {a b : World} (h : Upd L a b) : ∀ k o, k < a.heap.size → k ∉ L → b.frozen? ⟨k, o, none⟩ = a.frozen? ⟨k, o, none⟩ := fun k _ hk hn => World.frozen?_of_block (w := a) (h.block k hk hn)

/-- the cells of a struct lie somewhere -/
def At (w : World) (b o : Nat) (cs : List Value) : Prop := ∀ (j : Nat) (v : Value), cs[j]? = some v → w.cell? ⟨b, o + j, none⟩ = some v
theorem cell_lt {w : World} {b o : Nat} {v : Value} (h0 : w.cell? ⟨b, o, none⟩ = some v) : b < w.heap.size := by
  rcases Nat.lt_or_ge b w.heap.size with h | h
  · exact h
  · unfold World.cell? at h0
    simp only [Array.getElem?_eq_none h] at h0
    cases h0
/-- four cells read as an expression -/
inductive ExpR (W : World) : ET → List Value → Prop
  | none (op n : Int) (t : ByteArray) (a : Option Addr) (cap : Nat) (h1 : -9223372036854775808 ≤ op ∧ op ≤ 9223372036854775807) (h2 : -9223372036854775808 ≤ n ∧ n ≤ 9223372036854775807) (h3 : t.size ≤ maxLen) :
      ExpR W (.mk op n t []) [.int .i64 op, .int .i64 n, .string t, .slice a 0 cap]
  | some (op n : Int) (t : ByteArray) (ks : List ET) (b off cap : Nat) (cs : Nat → List Value) (h1 : -9223372036854775808 ≤ op ∧ op ≤ 9223372036854775807) (h2 : -9223372036854775808 ≤ n ∧ n ≤ 9223372036854775807) (h3 : t.size ≤ maxLen)
      (h4 : ks.length ≤ maxLen) (h5 : 0 < ks.length) (hb : b < W.heap.size) (hc : ∀ i, i < ks.length → At W b (off + i * 4) (cs i)) (hk : ∀ i k, ks[i]? = some k → ExpR W k (cs i)) :
      ExpR W (.mk op n t ks) [.int .i64 op, .int .i64 n, .string t, .slice (some ⟨b, off, Option.none⟩) ks.length cap]
theorem ExpR.four {W : World} {e : ET} {cs : List Value} (h : ExpR W e cs) : ∃ v, cs = [.int .i64 e.op, .int .i64 e.n, .string e.text, v] ∧ ∃ a cap, v = .slice a e.kids.length cap := by
  cases h with
  | none => exact ⟨_, rfl, _, _, rfl⟩
  | some => exact ⟨_, rfl, _, _, rfl⟩
end Go.Fs
namespace Go.Ln
/-! class graphs as lists of lists of numbers; sets of classes as numbers whose bits are classes -/
abbrev Gr := List (List Int)
/-- a list can be the parents of a class -/
def canB (l : List Int) (c : Int) : Bool := decide (l.length ≤ 3) && l.all (fun p => decide (3 ≤ p) && decide (p < c)) && decide l.Nodup
/-- a graph is formed -/
def goodFrom : Nat → Gr → Bool
  | _, [] => true
  | i, l :: g => canB l (3 + i) && goodFrom (i + 1) g
def goodB (g : Gr) : Bool := decide (g.length ≤ 16) && goodFrom 0 g
theorem goodFrom_get : ∀ (g : Gr) (i k : Nat) (l : List Int), goodFrom i g = true → g[k]? = some l → canB l (3 + i + k) = true
  | [], _, _, _, _, h => by simp at h
  | x :: g, i, 0, l, hg, h => by
    simp only [goodFrom, Bool.and_eq_true] at hg
    obtain rfl : x = l := by simpa using h
    simpa using hg.1
  | x :: g, i, k + 1, l, hg, h => by
    simp only [goodFrom, Bool.and_eq_true] at hg
    have := goodFrom_get g (i + 1) k l hg.2 (by simpa using h)
    rw [← this]; congr 1; omega
theorem goodFrom_take : ∀ (g : Gr) (i k : Nat) (l : List Int), g[k]? = some l → goodFrom i (g.take (k + 1)) = (goodFrom i (g.take k) && canB l (3 + i + k))
  | [], _, _, _, h => by simp at h
  | x :: g, i, 0, l, h => by
    obtain rfl : x = l := by simpa using h
    simp [goodFrom]
  | x :: g, i, k + 1, l, h => by
    have := goodFrom_take g (i + 1) k l (by simpa using h)
    simp only [List.take_succ_cons, goodFrom, this, Bool.and_assoc]
    congr 3; omega
theorem goodFrom_stop : ∀ (g : Gr) (i k : Nat) (l : List Int), g[k]? = some l → canB l (3 + i + k) = false → goodFrom i g = false
  | [], _, _, _, h, _ => by simp at h
  | x :: g, i, 0, l, h, hc => by
    obtain rfl : x = l := by simpa using h
    have hc : canB x (3 + i) = false := by simpa using hc
    simp [goodFrom, hc]
  | x :: g, i, k + 1, l, h, hc => by
    have := goodFrom_stop g (i + 1) k l (by simpa using h) (by rw [← hc]; congr 1; omega)
    simp [goodFrom, this]
/-- the parents of all classes -/
def pars (g : Gr) : List (List Int) := [] :: [] :: [] :: g
/-- what is above a class whose parents are l, after those ahead of it -/
def stepA (acc : List Nat) (l : List Int) : Nat := l.foldl (fun s p => s ||| acc.getD p.toNat 0) (1 ||| 2 ^ acc.length)
def absF (ps : List (List Int)) : List Nat := ps.foldl (fun acc l => acc ++ [stepA acc l]) []
theorem absF_snoc (ps : List (List Int)) (l : List Int) : absF (ps ++ [l]) = absF ps ++ [stepA (absF ps) l] := by simp [absF]
theorem absF_length (ps : List (List Int)) : (absF ps).length = ps.length := by
  have : ∀ (ps : List (List Int)) (acc : List Nat), (ps.foldl (fun acc l => acc ++ [stepA acc l]) acc).length = acc.length + ps.length := by
    intro ps
    induction ps with
    | nil => intro acc; simp
    | cons l ps ih => intro acc; rw [List.foldl_cons, ih]; simp; omega
  simpa [absF] using this ps []
theorem absF_take (ps : List (List Int)) (k : Nat) (l : List Int) (h : ps[k]? = some l) : absF (ps.take (k + 1)) = absF (ps.take k) ++ [stepA (absF (ps.take k)) l] := by
  obtain ⟨hk, rfl⟩ := List.getElem?_eq_some_iff.1 h
  rw [List.take_succ_eq_append_getElem hk, absF_snoc]
/-- what is above a class -/
def abM (g : Gr) (c : Nat) : Nat := (absF (pars g)).getD c 0
def aboveB (g : Gr) (a b : Nat) : Bool := (abM g a).testBit b
end Go.Ln
namespace Go.Ln
theorem foldl_or_bit (f : Int → Nat) (b : Nat) : ∀ (l : List Int) (s : Nat), (l.foldl (fun s p => s ||| f p) s).testBit b = (s.testBit b || l.any (fun p => (f p).testBit b))
  | [], s => by simp
  | p :: l, s => by rw [List.foldl_cons, foldl_or_bit f b l]; simp [Nat.testBit_or, Bool.or_assoc]
theorem absF_prefix : ∀ (ps : List (List Int)) (acc : List Nat), ∃ t, ps.foldl (fun acc l => acc ++ [stepA acc l]) acc = acc ++ t
  | [], acc => ⟨[], by simp⟩
  | l :: ps, acc => by
    obtain ⟨t, ht⟩ := absF_prefix ps (acc ++ [stepA acc l])
    exact ⟨[stepA acc l] ++ t, by rw [List.foldl_cons, ht]; simp⟩
theorem absF_getD_take (ps : List (List Int)) (k j : Nat) (hj : j < k) (hk : k ≤ ps.length) : (absF (ps.take k)).getD j 0 = (absF ps).getD j 0 := by
  obtain ⟨t, ht⟩ := absF_prefix (ps.drop k) (absF (ps.take k))
  have e : absF ps = absF (ps.take k) ++ t := by
    rw [← ht]
    show absF ps = (ps.drop k).foldl (fun acc l => acc ++ [stepA acc l]) ((ps.take k).foldl (fun acc l => acc ++ [stepA acc l]) [])
    rw [← List.foldl_append, List.take_append_drop]; rfl
  have hl : j < (absF (ps.take k)).length := by rw [absF_length, List.length_take]; omega
  rw [e, List.getD, List.getD, List.getElem?_append_left hl]
theorem canB_mem {l : List Int} {c p : Int} (h : canB l c = true) (hp : p ∈ l) : 3 ≤ p ∧ p < c := by
  simp only [canB, Bool.and_eq_true, List.all_eq_true, decide_eq_true_eq] at h
  exact h.1.2 p hp
/-- the parents of one class -/
def par (g : Gr) (c : Nat) : List Int := (pars g).getD c []
theorem par_small (g : Gr) (c : Nat) (h : c < 3) : par g c = [] := by
  rcases (by omega : c = 0 ∨ c = 1 ∨ c = 2) with rfl | rfl | rfl <;> rfl
theorem par_big (g : Gr) (c : Nat) (h : 3 ≤ c) : par g c = g.getD (c - 3) [] := by
  obtain ⟨k, rfl⟩ : ∃ k, c = k + 3 := ⟨c - 3, by omega⟩
  simp [par, pars, List.getD]
theorem par_mem {g : Gr} (hg : goodB g = true) {c : Nat} {p : Int} (hp : p ∈ par g c) : 3 ≤ p ∧ p < c ∧ p.toNat < c := by
  simp only [goodB, Bool.and_eq_true] at hg
  by_cases h : c < 3
  · rw [par_small g c h] at hp; cases hp
  · rw [par_big g c (by omega)] at hp
    have hk : ∃ l, g[c - 3]? = some l ∧ p ∈ l := by
      rw [List.getD] at hp
      cases hx : g[c - 3]? with
      | none => rw [hx] at hp; cases hp
      | some l => exact ⟨l, rfl, by simpa [hx] using hp⟩
    obtain ⟨l, hl, hpl⟩ := hk
    have := canB_mem (goodFrom_get g 0 (c - 3) l hg.2 hl) hpl
    omega
theorem abM_bit {g : Gr} (hg : goodB g = true) (c b : Nat) (hc : c < 3 + g.length) : aboveB g c b = (decide (b = 0) || decide (b = c) || (par g c).any (fun p => aboveB g p.toNat b)) := by
  have hlen : (pars g).length = 3 + g.length := by simp [pars]; omega
  have hget : (pars g)[c]? = some (par g c) := by
    rw [par, List.getD, List.getElem?_eq_getElem (by omega)]; rfl
  have h1 : (absF (pars g)).getD c 0 = stepA (absF ((pars g).take c)) (par g c) := by
    rw [← absF_getD_take (pars g) (c + 1) c (by omega) (by omega), absF_take _ _ _ hget, List.getD]
    have : (absF ((pars g).take c)).length = c := by rw [absF_length, List.length_take]; omega
    rw [List.getElem?_append_right (by omega)]; simp [this]
  unfold aboveB abM
  rw [h1, stepA, foldl_or_bit, absF_length, List.length_take, Nat.min_eq_left (by omega)]
  have h2 : (1 ||| 2 ^ c).testBit b = (decide (b = 0) || decide (b = c)) := by
    rw [Nat.testBit_or, Nat.testBit_two_pow]
    have : Nat.testBit 1 b = decide (b = 0) := by
      rw [show (1 : Nat) = 2 ^ 0 by rfl, Nat.testBit_two_pow]; simp [eq_comm]
    rw [this]; simp [eq_comm]
  rw [h2]
  congr 1
  rw [Bool.eq_iff_iff, List.any_eq_true, List.any_eq_true]
  constructor
  · rintro ⟨p, hp, hb⟩
    have := par_mem hg hp
    exact ⟨p, hp, by rw [absF_getD_take (pars g) c p.toNat (by omega) (by omega)] at hb; exact hb⟩
  · rintro ⟨p, hp, hb⟩
    have := par_mem hg hp
    exact ⟨p, hp, by rw [absF_getD_take (pars g) c p.toNat (by omega) (by omega)]; exact hb⟩
theorem above_iff {g : Gr} (hg : goodB g = true) {c b : Nat} (hc : c < 3 + g.length) : aboveB g c b = true ↔ b = 0 ∨ b = c ∨ ∃ p ∈ par g c, aboveB g p.toNat b = true := by
  rw [abM_bit hg c b hc]; simp [or_assoc]
theorem above_le {g : Gr} (hg : goodB g = true) : ∀ (c b : Nat), c < 3 + g.length → aboveB g c b = true → b = 0 ∨ (b = c ∨ (3 ≤ b ∧ b < c)) := by
  intro c
  induction c using Nat.strongRecOn with
  | _ c ih =>
    intro b hc h
    rcases (above_iff hg hc).1 h with h | h | ⟨p, hp, h⟩
    · exact .inl h
    · exact .inr (.inl h)
    · have hm := par_mem hg hp
      rcases ih p.toNat hm.2.2 b (by omega) h with h | h | h
      · exact .inl h
      · right; right; omega
      · right; right; omega
theorem above_trans {g : Gr} (hg : goodB g = true) : ∀ (a : Nat), a < 3 + g.length → ∀ (c b : Nat), aboveB g a c = true → aboveB g c b = true → aboveB g a b = true := by
  intro a
  induction a using Nat.strongRecOn with
  | _ a ih =>
    intro ha c b h1 h2
    rcases (above_iff hg ha).1 h1 with h | h | ⟨p, hp, h⟩
    · subst h
      rcases above_le hg 0 b (by omega) h2 with h | h | h
      · exact (above_iff hg ha).2 (.inl h)
      · exact (above_iff hg ha).2 (.inl h)
      · omega
    · subst h; exact h2
    · have hm := par_mem hg hp
      exact (above_iff hg ha).2 (.inr (.inr ⟨p, hp, ih p.toNat hm.2.2 (by omega) c b h h2⟩))
/-- the specification's marks: one class -/
def mk1 (g : Gr) (n c : Nat) : Nat := if n.testBit c then (par g c).foldl (fun s p => s ||| 2 ^ p.toNat) n else n
/-- .. and so many classes downwards from a -/
def mkD (g : Gr) (a : Nat) : Nat → Nat
  | 0 => 2 ^ a
  | k + 1 => mk1 g (mkD g a k) (a - k)
theorem mk1_bit (g : Gr) (n c x : Nat) : (mk1 g n c).testBit x = (n.testBit x || (n.testBit c && (par g c).any (fun p => decide (p.toNat = x)))) := by
  unfold mk1
  cases n.testBit c with
  | false => simp
  | true =>
    simp only [if_true, Bool.true_and]
    rw [foldl_or_bit]; simp [Nat.testBit_two_pow]
theorem mkD_inv {g : Gr} (hg : goodB g = true) (a : Nat) (ha : a < 3 + g.length) : ∀ k, k ≤ a →
    (∀ x, (mkD g a k).testBit x = true → aboveB g a x = true) ∧ (∀ x, x ≠ 0 → aboveB g a x = true → (mkD g a k).testBit x = true ∨ ∃ y, y ≤ a - k ∧ (mkD g a k).testBit y = true ∧ aboveB g y x = true)
  | 0, _ => by
    constructor
    · intro x hx
      have : a = x := by simpa [mkD, Nat.testBit_two_pow] using hx
      subst this
      exact (above_iff hg ha).2 (.inr (.inl rfl))
    · intro x _ hx
      exact .inr ⟨a, by omega, by simp [mkD], hx⟩
  | k + 1, hk => by
    obtain ⟨i1, i2⟩ := mkD_inv hg a ha k (by omega)
    constructor
    · intro x hx
      simp only [mkD, mk1_bit, Bool.or_eq_true, Bool.and_eq_true, List.any_eq_true, decide_eq_true_eq] at hx
      rcases hx with hx | ⟨hc, p, hp, rfl⟩
      · exact i1 x hx
      · exact above_trans hg a ha _ _ (i1 _ hc) ((above_iff hg (by omega)).2 (.inr (.inr ⟨p, hp, (above_iff hg (by have := par_mem hg hp; omega)).2 (.inr (.inl rfl))⟩)))
    · intro x hx0 hx
      rcases i2 x hx0 hx with h | ⟨y, hy, hby, hyx⟩
      · left; simp only [mkD, mk1_bit, h, Bool.true_or]
      · by_cases hyc : y = a - k
        · subst hyc
          rcases (above_iff hg (by omega)).1 hyx with h | h | ⟨p, hp, h⟩
          · exact absurd h hx0
          · left; subst h; simp only [mkD, mk1_bit, hby, Bool.true_or]
          · right
            have hm := par_mem hg hp
            exact ⟨p.toNat, by omega, by simp only [mkD, mk1_bit, hby, Bool.true_and, Bool.or_eq_true, List.any_eq_true, decide_eq_true_eq]; exact .inr ⟨p, hp, rfl⟩, h⟩
        · exact .inr ⟨y, by omega, by simp only [mkD, mk1_bit, hby, Bool.true_or], hyx⟩
/-- what the specification says of two classes -/
def belowR (g : Gr) (a b : Nat) : Bool := if a = b ∨ b = 0 then true else if a < 3 ∨ b < 3 then false else (mkD g a (a - b)).testBit b
theorem belowR_eq {g : Gr} (hg : goodB g = true) (a b : Nat) (ha : a < 3 + g.length) : belowR g a b = aboveB g a b := by
  unfold belowR
  by_cases h1 : a = b ∨ b = 0
  · rw [if_pos h1]
    exact ((above_iff hg ha).2 (by omega)).symm
  · rw [if_neg h1]
    by_cases h2 : a < 3 ∨ b < 3
    · rw [if_pos h2]
      symm
      rw [Bool.eq_false_iff]
      intro h
      have := above_le hg a b ha h
      omega
    · rw [if_neg h2]
      rw [Bool.eq_iff_iff]
      by_cases hab : a < b
      · have e : a - b = 0 := by omega
        rw [e]
        constructor
        · intro h
          exact (mkD_inv hg a ha 0 (by omega)).1 b h
        · intro h
          have := above_le hg a b ha h
          omega
      · constructor
        · exact (mkD_inv hg a ha (a - b) (by omega)).1 b
        · intro h
          rcases (mkD_inv hg a ha (a - b) (by omega)).2 b (by omega) h with h | ⟨y, hy, h3, h4⟩
          · exact h
          · have := above_le hg y b (by omega) h4
            obtain rfl : y = b := by omega
            exact h3
end Go.Ln
namespace Go.Ln
/-- the classes of a list as a set -/
def maskL (l : List Int) : Nat := l.foldl (fun s p => s ||| 2 ^ p.toNat) 0
theorem maskL_snoc (l : List Int) (p : Int) : maskL (l ++ [p]) = maskL l ||| 2 ^ p.toNat := by simp [maskL]
theorem maskL_bit (l : List Int) (b : Nat) : (maskL l).testBit b = l.any (fun p => decide (p.toNat = b)) := by
  unfold maskL
  rw [foldl_or_bit]; simp [Nat.testBit_two_pow]
/-- every one is a class that can be a parent, and none stands twice -/
def okP (c : Int) (l : List Int) : Bool := l.all (fun p => decide (3 ≤ p) && decide (p < c)) && decide l.Nodup
theorem canB_okP (l : List Int) (c : Int) : canB l c = (decide (l.length ≤ 3) && okP c l) := by
  unfold canB okP; rw [Bool.and_assoc]
theorem take_snocI {α : Type} (l : List α) (k : Nat) (x : α) (h : l[k]? = some x) : l.take (k + 1) = l.take k ++ [x] := by
  obtain ⟨hk, rfl⟩ := List.getElem?_eq_some_iff.1 h
  exact List.take_succ_eq_append_getElem hk
theorem take_splitI {α : Type} (l : List α) (k : Nat) (x : α) (h : l[k]? = some x) : l = l.take k ++ x :: l.drop (k + 1) := by
  obtain ⟨hk, rfl⟩ := List.getElem?_eq_some_iff.1 h
  rw [← List.drop_eq_getElem_cons hk, List.take_append_drop]
theorem okP_stop (c : Int) (l : List Int) (k : Nat) (x : Int) (h : l[k]? = some x) (hb : x < 3 ∨ c ≤ x ∨ x ∈ l.take k) : okP c l = false := by
  rw [Bool.eq_false_iff]
  intro ho
  simp only [okP, Bool.and_eq_true, List.all_eq_true, decide_eq_true_eq] at ho
  have hm : x ∈ l := List.mem_of_getElem? h
  rcases hb with hb | hb | hb
  · have := (ho.1 x hm).1; omega
  · have := (ho.1 x hm).2; omega
  · have hn := ho.2
    rw [take_splitI l k x h, List.nodup_append] at hn
    exact hn.2.2 x hb x (List.mem_cons_self) rfl
theorem okP_next (c : Int) (l : List Int) (k : Nat) (x : Int) (h : l[k]? = some x) (ho : okP c (l.take k) = true) (h3 : 3 ≤ x) (hc : x < c) (hm : x ∉ l.take k) : okP c (l.take (k + 1)) = true := by
  simp only [okP, Bool.and_eq_true, List.all_eq_true, decide_eq_true_eq] at ho ⊢
  rw [take_snocI l k x h]
  refine ⟨?_, ?_⟩
  · intro p hp
    rcases List.mem_append.1 hp with hp | hp
    · exact ho.1 p hp
    · rw [List.mem_singleton.1 hp]; exact ⟨h3, hc⟩
  · rw [List.nodup_append]
    refine ⟨ho.2, by simp, ?_⟩
    intro a ha b hb
    rw [List.mem_singleton.1 hb]
    exact fun e => hm (e ▸ ha)
theorem mask_has (c : Int) (l : List Int) (ho : okP c l = true) (x : Int) (hx : 0 ≤ x) : (maskL l).testBit x.toNat = decide (x ∈ l) := by
  rw [maskL_bit, Bool.eq_iff_iff, List.any_eq_true, decide_eq_true_eq]
  simp only [okP, Bool.and_eq_true, List.all_eq_true, decide_eq_true_eq] at ho
  constructor
  · rintro ⟨p, hp, he⟩
    have he : p.toNat = x.toNat := of_decide_eq_true he
    have := (ho.1 p hp).1
    obtain rfl : p = x := by omega
    exact hp
  · intro h
    exact ⟨x, h, by simp⟩
theorem mask_small (c : Int) (hc : c ≤ 19) : ∀ (l : List Int), okP c l = true → maskL l < 524288 := by
  have key : ∀ (l : List Int) (s : Nat), s < 524288 → (∀ p ∈ l, p.toNat < 19) → l.foldl (fun s p => s ||| 2 ^ p.toNat) s < 524288 := by
    intro l
    induction l with
    | nil => intro s hs _; exact hs
    | cons p l ih =>
      intro s hs hp
      refine ih _ (Nat.or_lt_two_pow (n := 19) hs (Nat.pow_lt_pow_right (m := p.toNat) (n := 19) (by omega) (hp p List.mem_cons_self))) (fun q hq => hp q (List.mem_cons_of_mem _ hq))
  intro l ho
  simp only [okP, Bool.and_eq_true, List.all_eq_true, decide_eq_true_eq] at ho
  exact key l 0 (by omega) (fun p hp => by have := ho.1 p hp; omega)
end Go.Ln
namespace Go.Ln
theorem mask_small' (l : List Int) (h : ∀ p ∈ l, 0 ≤ p ∧ p < 19) : maskL l < 524288 := by
  have key : ∀ (l : List Int) (s : Nat), s < 524288 → (∀ p ∈ l, p.toNat < 19) → l.foldl (fun s p => s ||| 2 ^ p.toNat) s < 524288 := by
    intro l
    induction l with
    | nil => intro s hs _; exact hs
    | cons p l ih =>
      intro s hs hp
      refine ih _ (Nat.or_lt_two_pow (n := 19) hs (Nat.pow_lt_pow_right (m := p.toNat) (n := 19) (by omega) (hp p List.mem_cons_self))) (fun q hq => hp q (List.mem_cons_of_mem _ hq))
  exact key l 0 (by omega) (fun p hp => by have := h p hp; omega)
/-- the classes of a set, increasing -/
def listM (n : Nat) : List Int := ((List.range 19).filter (fun k => n.testBit k)).map (fun k : Nat => (k : Int))
def listTo (n k : Nat) : List Int := ((List.range k).filter (fun k => n.testBit k)).map (fun k : Nat => (k : Int))
theorem listTo_zero (n : Nat) : listTo n 0 = [] := rfl
theorem listTo_succ (n k : Nat) : listTo n (k + 1) = if n.testBit k = true then listTo n k ++ [(k : Int)] else listTo n k := by
  unfold listTo
  rw [List.range_succ, List.filter_append, List.map_append]
  cases h : n.testBit k <;> simp [h]
theorem listTo_length (n k : Nat) : (listTo n k).length ≤ k := by
  unfold listTo
  rw [List.length_map]
  exact Nat.le_trans (List.length_filter_le _ _) (by simp)
end Go.Ln
namespace Go.Ln
/-- the numbers below k with a property, increasing -/
def listF (f : Nat → Bool) (k : Nat) : List Int := ((List.range k).filter f).map (fun k : Nat => (k : Int))
theorem listF_succ (f : Nat → Bool) (k : Nat) : listF f (k + 1) = if f k = true then listF f k ++ [(k : Int)] else listF f k := by
  unfold listF
  rw [List.range_succ, List.filter_append, List.map_append]
  cases h : f k <;> simp [h]
theorem listF_length (f : Nat → Bool) (k : Nat) : (listF f k).length ≤ k := by
  unfold listF
  rw [List.length_map]
  exact Nat.le_trans (List.length_filter_le _ _) (by simp)
theorem listF_more (f : Nat → Bool) (N : Nat) : ∀ k, N ≤ k → (∀ i, N ≤ i → i < k → f i = false) → listF f k = listF f N
  | 0, h, _ => by have : N = 0 := by omega
                  rw [this]
  | k + 1, h, hf => by
    by_cases e : N = k + 1
    · rw [e]
    · rw [listF_succ, hf k (by omega) (by omega)]
      simpa using listF_more f N k (by omega) (fun i h1 h2 => hf i h1 (by omega))
theorem listF_congr {f h : Nat → Bool} (k : Nat) (he : ∀ i, i < k → f i = h i) : listF f k = listF h k := by
  unfold listF
  congr 1
  exact List.filter_congr fun i hi => he i (List.mem_range.1 hi)
theorem listM_eq (n : Nat) : listM n = listF n.testBit 19 := rfl
/-- the classes above a class, both ways -/
theorem list_above {g : Gr} (hg : goodB g = true) (c : Nat) (hc : c < 3 + g.length) : listM (abM g c) = listF (fun b => belowR g c b) (3 + g.length) := by
  have hlen : g.length ≤ 16 := by
    simp only [goodB, Bool.and_eq_true, decide_eq_true_eq] at hg; exact hg.1
  rw [listM_eq, listF_more _ (3 + g.length) 19 (by omega) (fun i h1 h2 => by
    rw [Bool.eq_false_iff]
    intro h
    have := above_le hg c i hc h
    omega)]
  exact listF_congr _ fun i _ => (belowR_eq hg c i hc).symm
end Go.Ln
namespace Go.Ln
theorem foldl_or_small (f : Int → Nat) : ∀ (l : List Int) (s : Nat), s < 524288 → (∀ p ∈ l, f p < 524288) → l.foldl (fun s p => s ||| f p) s < 524288
  | [], _, hs, _ => hs
  | p :: l, _, hs, h => foldl_or_small f l _ (Nat.or_lt_two_pow (n := 19) hs (h p List.mem_cons_self)) (fun q hq => h q (List.mem_cons_of_mem _ hq))
theorem getD_small {acc : List Nat} (h : ∀ x ∈ acc, x < 524288) (i : Nat) : acc.getD i 0 < 524288 := by
  rw [List.getD]
  cases hx : acc[i]? with
  | none => simp
  | some x => exact h x (List.mem_of_getElem? hx)
theorem start_small (k : Nat) (hk : k < 19) : 1 ||| 2 ^ k < 524288 := Nat.or_lt_two_pow (n := 19) (by omega) (Nat.pow_lt_pow_right (m := k) (n := 19) (by omega) hk)
theorem stepA_small {acc : List Nat} (h : ∀ x ∈ acc, x < 524288) (hl : acc.length < 19) (l : List Int) : stepA acc l < 524288 :=
  foldl_or_small _ l _ (start_small _ hl) (fun _ _ => getD_small h _)
theorem absF_small : ∀ (n : Nat) (ps : List (List Int)), ps.length = n → n ≤ 19 → ∀ x ∈ absF ps, x < 524288
  | 0, ps, h, _ => by
    rw [List.length_eq_zero_iff.1 h]
    intro x hx; cases hx
  | n + 1, ps, h, hn => by
    have hk : ps[n]? = some (ps[n]'(by omega)) := List.getElem?_eq_getElem (by omega)
    have e : ps = ps.take (n + 1) := (List.take_of_length_le (by omega)).symm
    rw [e, absF_take ps n _ hk]
    have ih := absF_small n (ps.take n) (by rw [List.length_take]; omega) (by omega)
    intro x hx
    rcases List.mem_append.1 hx with hx | hx
    · exact ih x hx
    · rw [List.mem_singleton.1 hx]
      exact stepA_small ih (by rw [absF_length, List.length_take]; omega) _
/-- the parents of a class come ahead of it -/
def aheadP (ps : List (List Int)) : Prop := ∀ (k : Nat) (l : List Int), ps[k]? = some l → ∀ p ∈ l, 3 ≤ p ∧ p < (k : Int)
theorem ahead_pars {g : Gr} (hg : goodB g = true) : aheadP (pars g) := fun k l hl p hp => by
  have : p ∈ par g k := by rw [par, List.getD, hl]; exact hp
  have := par_mem hg this
  omega
end Go.Ln
namespace Go.Ln
/-- what is below a class, by what is above the first k -/
def blN (abs : List Nat) : Nat → Nat → Nat
  | 0, _ => 0
  | k + 1, c => if (abs.getD k 0).testBit c then blN abs k c ||| 2 ^ k else blN abs k c
theorem blN_bit (abs : List Nat) (c a : Nat) : ∀ k, (blN abs k c).testBit a = (decide (a < k) && (abs.getD a 0).testBit c)
  | 0 => by simp [blN]
  | k + 1 => by
    have ih := blN_bit abs c a k
    unfold blN
    by_cases e : a = k
    · subst e
      cases h : (abs.getD a 0).testBit c <;> simp [ih]
    · have h1 : decide (a < k + 1) = decide (a < k) := by
        rw [Bool.eq_iff_iff]; simp; omega
      rw [h1, ← ih]
      split
      · rw [Nat.testBit_or, Nat.testBit_two_pow, decide_eq_false (by omega), Bool.or_false]
      · rfl
theorem blN_small (abs : List Nat) (c : Nat) : ∀ k, k ≤ 19 → blN abs k c < 524288
  | 0, _ => by simp [blN]
  | k + 1, h => by
    have ih := blN_small abs c k (by omega)
    unfold blN
    split
    · exact Nat.or_lt_two_pow (n := 19) ih (Nat.pow_lt_pow_right (m := k) (n := 19) (by omega) (by omega))
    · exact ih
theorem mem_listM (n c : Nat) (hc : c < 19) : ((c : Int) ∈ listM n) ↔ n.testBit c = true := by
  rw [listM_eq, listF]
  simp only [List.mem_map, List.mem_filter, List.mem_range]
  constructor
  · rintro ⟨k, ⟨h1, h2⟩, h3⟩
    obtain rfl : k = c := by omega
    exact h2
  · intro h
    exact ⟨c, ⟨hc, h⟩, rfl⟩
theorem listM_nat {n : Nat} {x : Int} (h : x ∈ listM n) : ∃ c : Nat, x = (c : Int) ∧ c < 19 ∧ n.testBit c = true := by
  rw [listM_eq, listF] at h
  simp only [List.mem_map, List.mem_filter, List.mem_range] at h
  obtain ⟨k, ⟨h1, h2⟩, h3⟩ := h
  exact ⟨k, h3.symm, h1, h2⟩
theorem listM_length (n : Nat) : (listM n).length ≤ 19 := listF_length _ 19
/-- in the middle of one class's list -/
def midN (abs : List Nat) (k : Nat) (L : List Int) (c : Nat) : Nat := if (c : Int) ∈ L then blN abs k c ||| 2 ^ k else blN abs k c
theorem midN_end (abs : List Nat) (k c : Nat) (hc : c < 19) : midN abs k (listM (abs.getD k 0)) c = blN abs (k + 1) c := by
  unfold midN
  rw [show blN abs (k + 1) c = if (abs.getD k 0).testBit c then blN abs k c ||| 2 ^ k else blN abs k c by rfl]
  by_cases h : (abs.getD k 0).testBit c = true
  · rw [if_pos ((mem_listM _ _ hc).2 h), if_pos h]
  · rw [if_neg (fun e => h ((mem_listM _ _ hc).1 e)), if_neg h]
theorem midN_small (abs : List Nat) (k : Nat) (L : List Int) (c : Nat) (hk : k < 19) : midN abs k L c < 524288 := by
  have ih := blN_small abs c k (by omega)
  unfold midN
  split
  · exact Nat.or_lt_two_pow (n := 19) ih (Nat.pow_lt_pow_right (m := k) (n := 19) (by omega) hk)
  · exact ih
theorem or_idem (a k : Nat) : (a ||| 2 ^ k) ||| 2 ^ k = a ||| 2 ^ k := by rw [Nat.or_assoc, Nat.or_self]
theorem midN_same (abs : List Nat) (k : Nat) (L : List Int) (c : Nat) : midN abs k (L ++ [(c : Int)]) c = midN abs k L c ||| 2 ^ k := by
  unfold midN
  rw [if_pos (by simp)]
  split
  · exact (or_idem _ _).symm
  · rfl
theorem midN_other (abs : List Nat) (k : Nat) (L : List Int) (c d : Nat) (h : c ≠ d) : midN abs k (L ++ [(d : Int)]) c = midN abs k L c := by
  unfold midN
  have : ((c : Int) ∈ L ++ [(d : Int)]) ↔ (c : Int) ∈ L := by simp; omega
  simp only [this]
/-- the classes below a class, both ways -/
theorem list_under {g : Gr} (hg : goodB g = true) (c : Nat) (_hc : c < 3 + g.length) : listM (blN (absF (pars g)) (3 + g.length) c) = listF (fun i => belowR g i c) (3 + g.length) := by
  have hlen : g.length ≤ 16 := by
    simp only [goodB, Bool.and_eq_true, decide_eq_true_eq] at hg; exact hg.1
  rw [listM_eq, listF_more _ (3 + g.length) 19 (by omega) (fun i h1 h2 => by rw [blN_bit, decide_eq_false (by omega)]; rfl)]
  exact listF_congr _ fun i hi => by
    rw [blN_bit, decide_eq_true hi, Bool.true_and, belowR_eq hg i c hi]; rfl
end Go.Ln
namespace Go.Ln
/-- a class is below all of some -/
def heirB (g : Gr) (l : List Int) (a : Nat) : Bool := l.all fun c => belowR g a c.toNat
/-- a class is above all of some -/
def overB (g : Gr) (l : List Int) (b : Nat) : Bool := l.all fun c => belowR g c.toNat b
/-- what is in the sets of all of some, of a row of sets -/
def meetN (s : Nat) (f : Nat → Nat) (l : List Int) : Nat := l.foldl (fun s c => s &&& f c.toNat) s
theorem meetN_snoc (s : Nat) (f : Nat → Nat) (l : List Int) (c : Int) : meetN s f (l ++ [c]) = meetN s f l &&& f c.toNat := by simp [meetN]
theorem meetN_bit (f : Nat → Nat) (b : Nat) : ∀ (l : List Int) (s : Nat), (meetN s f l).testBit b = (s.testBit b && l.all fun c => (f c.toNat).testBit b)
  | [], s => by simp [meetN]
  | c :: l, s => by
    have := meetN_bit f b l (s &&& f c.toNat)
    unfold meetN at this ⊢
    rw [List.foldl_cons, this, Nat.testBit_and, List.all_cons, Bool.and_assoc]
theorem meetN_small (f : Nat → Nat) : ∀ (l : List Int) (s : Nat), s < 524288 → meetN s f l < 524288
  | [], s, h => h
  | c :: l, s, h => by
    have := meetN_small f l (s &&& f c.toNat) (Nat.lt_of_le_of_lt Nat.and_le_left h)
    unfold meetN at this ⊢
    rw [List.foldl_cons]; exact this
/-- all classes of a graph -/
theorem all_bit {g : Gr} (hg : goodB g = true) (a : Nat) : (blN (absF (pars g)) (3 + g.length) 0).testBit a = decide (a < 3 + g.length) := by
  rw [blN_bit]
  by_cases h : a < 3 + g.length
  · rw [decide_eq_true h, Bool.true_and]
    exact (above_iff hg h).2 (.inl rfl)
  · rw [decide_eq_false h, Bool.false_and]
theorem heirs_list {g : Gr} (hg : goodB g = true) (l : List Int) (hl : ∀ c ∈ l, ∃ n : Nat, c = (n : Int) ∧ n < 3 + g.length) :
    listM (meetN (blN (absF (pars g)) (3 + g.length) 0) (fun c => blN (absF (pars g)) (3 + g.length) c) l) = listF (heirB g l) (3 + g.length) := by
  have hlen : g.length ≤ 16 := by
    simp only [goodB, Bool.and_eq_true, decide_eq_true_eq] at hg; exact hg.1
  rw [listM_eq, listF_more _ (3 + g.length) 19 (by omega) (fun i h1 h2 => by rw [meetN_bit, all_bit hg, decide_eq_false (by omega)]; rfl)]
  refine listF_congr _ fun i hi => ?_
  rw [meetN_bit, all_bit hg, decide_eq_true hi, Bool.true_and]
  unfold heirB
  rw [Bool.eq_iff_iff, List.all_eq_true, List.all_eq_true]
  refine forall_congr' fun c => forall_congr' fun hc => ?_
  obtain ⟨n, rfl, hn⟩ := hl c hc
  rw [Int.toNat_natCast, blN_bit, decide_eq_true hi, Bool.true_and, belowR_eq hg i n hi]
  rfl
theorem over_bit {g : Gr} (hg : goodB g = true) (l : List Int) (hl : ∀ c ∈ l, ∃ n : Nat, c = (n : Int) ∧ n < 3 + g.length) (b : Nat) :
    (meetN (blN (absF (pars g)) (3 + g.length) 0) (fun c => abM g c) l).testBit b = (decide (b < 3 + g.length) && overB g l b) := by
  rw [meetN_bit, all_bit hg]
  congr 1
  unfold overB
  rw [Bool.eq_iff_iff, List.all_eq_true, List.all_eq_true]
  refine forall_congr' fun c => forall_congr' fun hc => ?_
  obtain ⟨n, rfl, hn⟩ := hl c hc
  rw [Int.toNat_natCast, belowR_eq hg n b hn]
  rfl
/-- a class is a least one of those above all of some -/
def leastB (g : Gr) (l : List Int) (c : Nat) : Bool := overB g l c && (List.range (3 + g.length)).all fun x => decide (x = c) || !(overB g l x && belowR g x c)
theorem meet_one {g : Gr} (hg : goodB g = true) (s : Nat) (_hs : ∀ b, s.testBit b = true → b < 3 + g.length) (c : Nat) (hc : c < 3 + g.length) (hsc : s.testBit c = true) :
    decide (s &&& blN (absF (pars g)) (3 + g.length) c = 2 ^ c) = (List.range (3 + g.length)).all fun x => decide (x = c) || !(s.testBit x && belowR g x c) := by
  rw [Bool.eq_iff_iff, decide_eq_true_eq, List.all_eq_true]
  constructor
  · intro h x hx
    have hx' := List.mem_range.1 hx
    have h1 : (s &&& blN (absF (pars g)) (3 + g.length) c).testBit x = (2 ^ c).testBit x := by rw [h]
    rw [Nat.testBit_and, blN_bit, decide_eq_true hx', Bool.true_and, Nat.testBit_two_pow] at h1
    rw [belowR_eq hg x c hx']
    by_cases e : x = c
    · simp [e]
    · have e' : ¬ c = x := fun h => e h.symm
      rw [decide_eq_false e'] at h1
      have h2 : ((absF (pars g)).getD x 0).testBit c = aboveB g x c := rfl
      rw [h2] at h1
      simp [e, h1]
  · intro h
    apply Nat.eq_of_testBit_eq
    intro x
    rw [Nat.testBit_and, blN_bit, Nat.testBit_two_pow]
    by_cases hx : x < 3 + g.length
    · rw [decide_eq_true hx, Bool.true_and]
      have h1 := h x (List.mem_range.2 hx)
      rw [belowR_eq hg x c hx] at h1
      have h2 : ((absF (pars g)).getD x 0).testBit c = aboveB g x c := rfl
      rw [h2]
      by_cases e : x = c
      · subst e
        have : aboveB g x x = true := (above_iff hg hx).2 (.inr (.inl rfl))
        simp [hsc, this]
      · have e' : ¬ c = x := fun h => e h.symm
        rw [decide_eq_false e']
        cases hsx : s.testBit x <;> cases hax : aboveB g x c <;> simp_all
    · rw [decide_eq_false hx, Bool.false_and, Bool.and_false]
      symm
      exact decide_eq_false (by omega)
end Go.Ln
namespace Go.Ln
/-- those of some classes with a property, as a set -/
def outN (p : Nat → Bool) (l : List Int) : Nat := l.foldl (fun o c => if p c.toNat then o ||| 2 ^ c.toNat else o) 0
theorem outN_snoc (p : Nat → Bool) (l : List Int) (c : Int) : outN p (l ++ [c]) = if p c.toNat then outN p l ||| 2 ^ c.toNat else outN p l := by simp [outN]
theorem outN_small (p : Nat → Bool) (l : List Int) (h : ∀ c ∈ l, c.toNat < 19) : outN p l < 524288 := by
  have key : ∀ (l : List Int) (s : Nat), s < 524288 → (∀ c ∈ l, c.toNat < 19) → l.foldl (fun o c => if p c.toNat then o ||| 2 ^ c.toNat else o) s < 524288 := by
    intro l
    induction l with
    | nil => intro s hs _; exact hs
    | cons c l ih =>
      intro s hs hc
      rw [List.foldl_cons]
      refine ih _ ?_ (fun d hd => hc d (List.mem_cons_of_mem _ hd))
      split
      · exact Nat.or_lt_two_pow (n := 19) hs (Nat.pow_lt_pow_right (m := c.toNat) (n := 19) (by omega) (hc c List.mem_cons_self))
      · exact hs
  exact key l 0 (by omega) h
theorem outN_bit (p : Nat → Bool) (b : Nat) (l : List Int) : (outN p l).testBit b = l.any (fun c => decide (c.toNat = b) && p c.toNat) := by
  have key : ∀ (l : List Int) (s : Nat), (l.foldl (fun o c => if p c.toNat then o ||| 2 ^ c.toNat else o) s).testBit b = (s.testBit b || l.any (fun c => decide (c.toNat = b) && p c.toNat)) := by
    intro l
    induction l with
    | nil => intro s; simp
    | cons c l ih =>
      intro s
      rw [List.foldl_cons, ih, List.any_cons]
      cases hp : p c.toNat with
      | true => simp [Nat.testBit_or, Nat.testBit_two_pow, Bool.or_assoc]
      | false => simp
  unfold outN
  rw [key]; simp
/-- the least ones of a set, both ways -/
theorem least_list {g : Gr} (hg : goodB g = true) (l : List Int) (hl : ∀ c ∈ l, ∃ n : Nat, c = (n : Int) ∧ n < 3 + g.length) (s : Nat) (hs : s = meetN (blN (absF (pars g)) (3 + g.length) 0) (fun c => abM g c) l) :
    listM (outN (fun c => decide (s &&& blN (absF (pars g)) (3 + g.length) c = 2 ^ c)) (listM s)) = listF (leastB g l) (3 + g.length) := by
  have hlen : g.length ≤ 16 := by
    simp only [goodB, Bool.and_eq_true, decide_eq_true_eq] at hg; exact hg.1
  have hsb : ∀ b, s.testBit b = (decide (b < 3 + g.length) && overB g l b) := fun b => by rw [hs]; exact over_bit hg l hl b
  have hb : ∀ b, (outN (fun c => decide (s &&& blN (absF (pars g)) (3 + g.length) c = 2 ^ c)) (listM s)).testBit b = (s.testBit b && decide (s &&& blN (absF (pars g)) (3 + g.length) b = 2 ^ b)) := fun b => by
    rw [outN_bit, Bool.eq_iff_iff, List.any_eq_true, Bool.and_eq_true]
    constructor
    · rintro ⟨c, hc, h⟩
      obtain ⟨n, rfl, hn, hsn⟩ := listM_nat hc
      simp only [Int.toNat_natCast, Bool.and_eq_true, decide_eq_true_eq] at h
      obtain ⟨rfl, h2⟩ := h
      exact ⟨hsn, decide_eq_true h2⟩
    · rintro ⟨h1, h2⟩
      have hb3 : b < 3 + g.length := by
        rw [hsb] at h1
        simp only [Bool.and_eq_true, decide_eq_true_eq] at h1
        exact h1.1
      exact ⟨(b : Int), (mem_listM s b (by omega)).2 h1, by simpa using of_decide_eq_true h2⟩
  rw [listM_eq, listF_more _ (3 + g.length) 19 (by omega) (fun i h1 h2 => by rw [hb, hsb, decide_eq_false (by omega)]; rfl)]
  refine listF_congr _ fun i hi => ?_
  rw [hb]
  unfold leastB
  cases hsi : s.testBit i with
  | false =>
    rw [hsb, decide_eq_true hi, Bool.true_and] at hsi
    rw [hsi]; rfl
  | true =>
    rw [meet_one hg s (fun b hb => by rw [hsb] at hb; simp only [Bool.and_eq_true, decide_eq_true_eq] at hb; exact hb.1) i hi hsi]
    have h1 := hsi
    rw [hsb, decide_eq_true hi, Bool.true_and] at h1
    rw [h1]
    congr 1
    rw [Bool.eq_iff_iff, List.all_eq_true, List.all_eq_true]
    refine forall_congr' fun x => forall_congr' fun hx => ?_
    rw [hsb, decide_eq_true (List.mem_range.1 hx), Bool.true_and]
end Go.Ln
namespace Go.Ln
/-- nothing of a list, but for it itself, is below a class -/
def minB (g : Gr) (C : List Int) (c : Int) : Bool := C.all fun x => decide (x = c) || !(belowR g x.toNat c.toNat)
theorem minB_snoc (g : Gr) (C : List Int) (x c : Int) : minB g (C ++ [x]) c = (minB g C c && (decide (x = c) || !(belowR g x.toNat c.toNat))) := by
  simp [minB]
theorem listF_nodup (p : Nat → Bool) (n : Nat) : (listF p n).Nodup := by
  unfold listF
  exact List.Pairwise.map _ (fun a b h e => h (by have : (a : Int) = (b : Int) := e; omega)) (List.Pairwise.filter _ List.nodup_range)
theorem listF_mem {p : Nat → Bool} {n : Nat} {x : Int} (h : x ∈ listF p n) : ∃ c : Nat, x = (c : Int) ∧ c < n ∧ p c = true := by
  rw [listF] at h
  simp only [List.mem_map, List.mem_filter, List.mem_range] at h
  obtain ⟨k, ⟨h1, h2⟩, h3⟩ := h
  exact ⟨k, h3.symm, h1, h2⟩
theorem nodup_idx {C : List Int} (hn : C.Nodup) {m i : Nat} {x c : Int} (h1 : C[m]? = some x) (h2 : C[i]? = some c) : decide ((m : Int) = (i : Int)) = decide (x = c) := by
  rw [Bool.eq_iff_iff, decide_eq_true_eq, decide_eq_true_eq]
  obtain ⟨h3, rfl⟩ := List.getElem?_eq_some_iff.1 h1
  obtain ⟨h4, rfl⟩ := List.getElem?_eq_some_iff.1 h2
  constructor
  · intro h
    have : m = i := by omega
    subst this; rfl
  · intro h
    rcases Nat.lt_trichotomy m i with hlt | heq | hlt
    · exact absurd h (List.pairwise_iff_getElem.1 hn m i h3 h4 hlt)
    · omega
    · exact absurd h.symm (List.pairwise_iff_getElem.1 hn i m h4 h3 hlt)
theorem filter_snoc (p : Int → Bool) (C : List Int) (i : Nat) (c : Int) (h : C[i]? = some c) : (C.take (i + 1)).filter p = (C.take i).filter p ++ (if p c = true then [c] else []) := by
  obtain ⟨h4, rfl⟩ := List.getElem?_eq_some_iff.1 h
  rw [List.take_succ_eq_append_getElem h4, List.filter_append]
  congr 1
  cases hp : p C[i] <;> simp [hp]
theorem least_filter (g : Gr) (l : List Int) : (listF (overB g l) (3 + g.length)).filter (minB g (listF (overB g l) (3 + g.length))) = listF (leastB g l) (3 + g.length) := by
  have key : ∀ a, a < 3 + g.length → (minB g (listF (overB g l) (3 + g.length)) (a : Int) && overB g l a) = leastB g l a := by
    intro a ha
    unfold leastB
    rw [Bool.and_comm]
    cases ho : overB g l a with
    | false => rfl
    | true =>
      rw [Bool.true_and, Bool.true_and, Bool.eq_iff_iff]
      unfold minB
      rw [List.all_eq_true, List.all_eq_true]
      constructor
      · intro h x hx
        have hx' := List.mem_range.1 hx
        cases hox : overB g l x with
        | false => simp
        | true =>
          have := h (x : Int) (by rw [listF]; simp only [List.mem_map, List.mem_filter, List.mem_range]; exact ⟨x, ⟨hx', hox⟩, rfl⟩)
          have e : decide ((x : Int) = (a : Int)) = decide (x = a) := by rw [Bool.eq_iff_iff, decide_eq_true_eq, decide_eq_true_eq]; omega
          rw [e, Int.toNat_natCast, Int.toNat_natCast] at this
          rw [Bool.true_and]; exact this
      · intro h x hx
        obtain ⟨c, rfl, hc, hp⟩ := listF_mem hx
        have := h c (List.mem_range.2 hc)
        rw [hp, Bool.true_and] at this
        have e : decide ((c : Int) = (a : Int)) = decide (c = a) := by rw [Bool.eq_iff_iff, decide_eq_true_eq, decide_eq_true_eq]; omega
        rw [e, Int.toNat_natCast, Int.toNat_natCast]; exact this
  conv => lhs; rw [listF]
  conv => rhs; rw [listF]
  rw [List.filter_map, List.filter_filter]
  congr 1
  refine List.filter_congr fun a ha => ?_
  exact key a (List.mem_range.1 ha)
end Go.Ln
