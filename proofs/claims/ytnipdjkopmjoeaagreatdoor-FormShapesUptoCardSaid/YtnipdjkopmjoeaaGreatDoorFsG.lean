/-
  The specification on facts: the lists that it makes of them, CheckFact, and that both answers are one; what is read is as large as its bulk says. Condition: bulk at most 2^40.
-/
import Derived.Test.YtnipdjkopmjoeaaGreatDoorFsF
import Derived.Maps.AppendAt
import Derived.OwnWalk
import Derived.Deep.RegionHeld3
import Derived.Deep.RegionLaw
import Derived.Test.YtnipdjkopmjoeaaGreatDoorFsD
import Derived.Test.YtnipdjkopmjoeaaGreatDoorRows
namespace Go.Proofs.YtnipdjkopmjoeaaGreatDoor
open Go.ChangeShapes Go.WideShapes Go.ChangeAt Go.RowKit Go.Fs
def Dis (x y : Value) : Prop := x.ownBlock = none ∨ x.ownBlock ≠ y.ownBlock
def SRow (W w : World) (v : Value) (l : List ByteArray) : Prop := w.ownsRow W.heap.size 9 1 v l.length (l.map Value.string)
theorem SRow.apart {W w : World} {v : Value} {l : List ByteArray} (h : SRow W w v l) {b : Nat} {cs : Array Value} {t : TypeId} (hb : w.heap[b]? = some (.cells cs t (0, 0))) (ht : t ≠ 9) : v.ownBlock = none ∨ v.ownBlock ≠ some b := by
  rcases h.2 with ⟨rfl, _⟩ | ⟨g, cap, cur, rfl, _, hg, _⟩
  · exact .inl rfl
  · refine .inr fun e => ?_
    have e : g = b := by simpa [Value.ownBlock] using e
    subst e
    rw [hg] at hb
    exact ht (by injection hb with hb; injection hb with _ h2 _; exact h2.symm)
theorem SRow.of_block {W w w' : World} {v : Value} {l : List ByteArray} (h : SRow W w v l) (he : ∀ k, v.ownBlock = some k → w'.heap[k]? = w.heap[k]?) : SRow W w' v l := by
  refine ⟨h.1, ?_⟩
  rcases h.2 with h1 | ⟨g, cap, cur, rfl, h1, hg, h2⟩
  · exact .inl h1
  · exact .inr ⟨g, cap, cur, rfl, h1, (he g rfl).trans hg, h2⟩
theorem set_other {w : World} {b k o : Nat} {v : Value} (h : k ≠ b) : (w.setCell ⟨b, o, none⟩ v).heap[k]? = w.heap[k]? := by
  simp only [World.setCell]
  rw [Array.getElem?_modify]
  simp [Ne.symm h]
/-- what spoken keeps -/
structure Spk (W : World) (L B : Nat) (w : World) (pv sv cv : Value) (lps lss lcs : List ByteArray) (left : Int) : Prop where
  below : Below W.heap.size W w
  wl : W.heap.size ≤ L
  wb : W.heap.size ≤ B
  l : w.heap[L]? = some (.cells #[.int .i64 left] 3 (0, 0))
  b : w.heap[B]? = some (.cells #[pv, sv, cv] 93 (0, 0))
  p : SRow W w pv lps
  s : SRow W w sv lss
  c : SRow W w cv lcs
  d1 : Dis pv sv
  d2 : Dis pv cv
  d3 : Dis sv cv
section
variable {W : World} {L B : Nat} {w : World} {pv sv cv : Value} {lps lss lcs : List ByteArray} {left : Int}
theorem Spk.ne (h : Spk W L B w pv sv cv lps lss lcs left) : L ≠ B := by
  intro e
  subst e
  have := h.l.symm.trans h.b
  simp at this
theorem Spk.tick (h : Spk W L B w pv sv cv lps lss lcs left) (x : Int) : Spk W L B (w.setCell ⟨L, 0, none⟩ (.int .i64 x)) pv sv cv lps lss lcs x := by
  have hr : ∀ {v l}, SRow W w v l → SRow W (w.setCell ⟨L, 0, none⟩ (.int .i64 x)) v l := fun {v l} hv => hv.of_block fun k hk => by
    rcases hv.apart h.l (by decide) with e | e
    · rw [e] at hk; cases hk
    · exact set_other (fun e' => e (by rw [hk, e']))
  exact ⟨h.below.setCell (by simpa using h.wl) _, h.wl, h.wb, one_setCell h.l, (set_other (fun e => h.ne e.symm)).trans h.b, hr h.p, hr h.s, hr h.c, h.d1, h.d2, h.d3⟩
theorem Spk.alloc (h : Spk W L B w pv sv cv lps lss lcs left) (o : Obj) : Spk W L B (w.alloc o) pv sv cv lps lss lcs left :=
  ⟨h.below.alloc (h.below.size) _, h.wl, h.wb, (Below.heap_alloc _ _ _ (lt_of_block h.l)).trans h.l, (Below.heap_alloc _ _ _ (lt_of_block h.b)).trans h.b, World.ownsRow.alloc h.p _, World.ownsRow.alloc h.s _, World.ownsRow.alloc h.c _, h.d1, h.d2, h.d3⟩
theorem Spk.drew (h : Spk W L B w pv sv cv lps lss lcs left) : Spk W L B w.drew pv sv cv lps lss lcs left :=
  ⟨h.below.drew, h.wl, h.wb, h.l, h.b, h.p, h.s, h.c, h.d1, h.d2, h.d3⟩
end
theorem Dis.symm {x y : Value} (h : Dis x y) : Dis y x := by
  cases hy : y.ownBlock with
  | none => exact .inl hy
  | some k =>
    refine .inr ?_
    rw [hy]
    rcases h with h | h
    · rw [h]; simp
    · rw [hy] at h; exact fun e => h e.symm
/-- a row that an append has turned -/
structure Grow (W w w1 : World) (x x' : Value) (l' : List ByteArray) : Prop where
  own : SRow W w1 x' l'
  grow : w.grownBy w1 x.ownBlock
  loc : x'.ownBlock = x.ownBlock ∨ x'.ownBlock = some w.heap.size
section
variable {W : World} {L B : Nat} {w w1 : World} {x x' : Value} {l l' : List ByteArray}
theorem SRow.lt {v : Value} (h : SRow W w v l) : ∀ k, v.ownBlock = some k → W.heap.size ≤ k ∧ k < w.heap.size := World.ownsRow.lt h
theorem Grow.row (g : Grow W w w1 x x' l') {y : Value} {m : List ByteArray} (h : SRow W w y m) (hd : Dis y x) : SRow W w1 y m :=
  h.of_block fun k hk => g.grow.block k (h.lt k hk).2 (by rcases hd with e | e; · rw [e] at hk; cases hk
                                                          · rw [hk] at e; exact e)
theorem Grow.obj (g : Grow W w w1 x x' l') (h : SRow W w x l) {b : Nat} {cs : Array Value} {t : TypeId} (hb : w.heap[b]? = some (.cells cs t (0, 0))) (ht : t ≠ 9) : w1.heap[b]? = some (.cells cs t (0, 0)) :=
  (g.grow.block b (lt_of_block hb) (by rcases h.apart hb ht with e | e; · rw [e]; simp
                                       · exact fun e' => e e'.symm)).trans hb
theorem Grow.dis (g : Grow W w w1 x x' l') {y : Value} {m : List ByteArray} (h : SRow W w y m) (hd : Dis y x) : Dis y x' := by
  cases hy : y.ownBlock with
  | none => exact .inl hy
  | some k =>
    refine .inr ?_
    rw [hy]
    rcases g.loc with e | e
    · rw [e]; rcases hd with h1 | h1
      · rw [h1] at hy; cases hy
      · rw [hy] at h1; exact h1
    · rw [e]; intro e'; have := (h.lt k hy).2; injection e' with e'; omega
theorem Grow.below (g : Grow W w w1 x x' l') (h : SRow W w x l) (hb : Below W.heap.size W w) : Below W.heap.size W w1 :=
  hb.grown g.grow hb.size fun k hk => (h.lt k hk).1
theorem SRow.set {v : Value} (h : SRow W w v l) {b o : Nat} {cs : Array Value} {t : TypeId} {u : Value} (hb : w.heap[b]? = some (.cells cs t (0, 0))) (ht : t ≠ 9) : SRow W (w.setCell ⟨b, o, none⟩ u) v l := h.of_block fun k hk => by
  rcases h.apart hb ht with e | e
  · rw [e] at hk; cases hk
  · exact set_other (fun e' => e (by rw [hk, e']))
theorem three_set {b : Nat} {p q r u : Value} {t : TypeId} (h : w.heap[b]? = some (.cells #[p, q, r] t (0, 0))) : (w.setCell ⟨b, 0, none⟩ u).heap[b]? = some (.cells #[u, q, r] t (0, 0)) ∧ (w.setCell ⟨b, 1, none⟩ u).heap[b]? = some (.cells #[p, u, r] t (0, 0)) ∧ (w.setCell ⟨b, 2, none⟩ u).heap[b]? = some (.cells #[p, q, u] t (0, 0)) := by
  refine ⟨?_, ?_, ?_⟩ <;> (simp only [World.setCell]; rw [Array.getElem?_modify]; simp [h])
end
section
variable {W : World} {L B : Nat} {w w1 : World} {pv sv cv x' : Value} {lps lss lcs l' : List ByteArray} {left : Int}
theorem Spk.push0 (h : Spk W L B w pv sv cv lps lss lcs left) (g : Grow W w w1 pv x' l') : Spk W L B (w1.setCell ⟨B, 0, none⟩ x') x' sv cv l' lss lcs left := by
  have hb := g.obj h.p h.b (by decide)
  exact ⟨(g.below h.p h.below).setCell (by simpa using h.wb) _, h.wl, h.wb, (set_other h.ne).trans (g.obj h.p h.l (by decide)), (three_set hb).1, g.own.set hb (by decide), (g.row h.s h.d1.symm).set hb (by decide), (g.row h.c h.d2.symm).set hb (by decide), (g.dis h.s h.d1.symm).symm, (g.dis h.c h.d2.symm).symm, h.d3⟩
theorem Spk.push1 (h : Spk W L B w pv sv cv lps lss lcs left) (g : Grow W w w1 sv x' l') : Spk W L B (w1.setCell ⟨B, 1, none⟩ x') pv x' cv lps l' lcs left := by
  have hb := g.obj h.s h.b (by decide)
  exact ⟨(g.below h.s h.below).setCell (by simpa using h.wb) _, h.wl, h.wb, (set_other h.ne).trans (g.obj h.s h.l (by decide)), (three_set hb).2.1, (g.row h.p h.d1).set hb (by decide), g.own.set hb (by decide), (g.row h.c h.d3.symm).set hb (by decide), g.dis h.p h.d1, h.d2, (g.dis h.c h.d3.symm).symm⟩
theorem Spk.push2 (h : Spk W L B w pv sv cv lps lss lcs left) (g : Grow W w w1 cv x' l') : Spk W L B (w1.setCell ⟨B, 2, none⟩ x') pv sv x' lps lss l' left := by
  have hb := g.obj h.c h.b (by decide)
  exact ⟨(g.below h.c h.below).setCell (by simpa using h.wb) _, h.wl, h.wb, (set_other h.ne).trans (g.obj h.c h.l (by decide)), (three_set hb).2.2, (g.row h.p h.d2).set hb (by decide), (g.row h.s h.d3).set hb (by decide), g.own.set hb (by decide), h.d1, g.dis h.p h.d2, g.dis h.s h.d3⟩
end
end Go.Proofs.YtnipdjkopmjoeaaGreatDoor
namespace Go.Proofs.YtnipdjkopmjoeaaGreatDoor
open Go.ChangeShapes Go.WideShapes Go.ChangeAt Go.RowKit Go.Fs
theorem infoS : (Tryz.prog.info? 9).map (fun i => (i.zero, i.size, i.bytes)) = some (some (.string ⟨#[]⟩), 1, 16) := by kernel_rfl
theorem underS : Tryz.prog.underlying 27 = some (.slice 9) := by kernel_rfl
theorem run_append_nil_any {P : Program} {w : World} {base t ty e size : Nat} {i : TypeInfo} (ht : P.underlying t = some (.slice e)) (hi : P.info? e = some i) {v : Value} {n : Nat} {xs : List Value} (hown : w.ownsRow base e size v n xs) (c : Nat) :
    (Builtin.append_ #[t, t] ty #[v, .slice none 0 c]).run P w = .ok v w := by
  rcases hown.2 with ⟨rfl, rfl⟩ | ⟨g, cap, cur, rfl, _, _, hle, _⟩
  · simp [Builtin.append_, run_underlying ht, sizeOf, typeInfo, hi, Builtin.lenOf, Builtin.firstCells]
  · simp [Builtin.append_, run_underlying ht, sizeOf, typeInfo, hi, Builtin.lenOf, Builtin.firstCells, hle, storeCells]
set_option maxRecDepth 100000 in
theorem run_append_str {W w : World} {v : Value} {l : List ByteArray} (hr : SRow W w v l) (hW : W.heap.size ≤ w.heap.size) (A : Option Addr) (c : Nat) (path : List ByteArray)
    (hA : ∀ (i : Nat) y, path[i]? = some y → ∃ b off, A = some ⟨b, off, none⟩ ∧ w.cell? ⟨b, off + i, none⟩ = some (.string y)) (hb : l.length + path.length ≤ 8796093022208) :
    ∃ v' w', (Builtin.append_ #[27, 27] 27 #[v, .slice A path.length c]).run Tryz.prog w = .ok v' w' ∧ Grow W w w' v v' (l ++ path) := by
  obtain ⟨i, hi, hz0, hz1, hz2⟩ := info_parts infoS
  rcases A with _ | ad
  · have : path = [] := by
      cases path with
      | nil => rfl
      | cons y ys => obtain ⟨b, off, h, _⟩ := hA 0 y rfl; cases h
    subst this
    exact ⟨v, w, run_append_nil_any underS hi hr c, by simpa using hr, World.grownBy.refl w _, .inl rfl⟩
  · have hcells : ∀ j u, (path.map Value.string)[j]? = some u → w.cell? (ad.add j) = some u := by
      intro j u hu
      rw [List.getElem?_map] at hu
      cases hp : path[j]? with
      | none => rw [hp] at hu; cases hu
      | some y =>
        rw [hp] at hu
        obtain ⟨b, off, h, hc⟩ := hA j y hp
        injection h with h
        subst h
        cases hu
        by_cases hj : j = 0
        · subst hj; simpa [Addr.add] using hc
        · simpa [Addr.add, hj] using hc
    obtain ⟨v', w', hrun, h2, h3, _, h5⟩ := run_append_own_at (P := Tryz.prog) w W.heap.size 27 27 9 i _ 1 16 underS hi hz0 hz1 hz2 rfl (by decide) v l.length (l.map Value.string) hr ad path.length c (path.map Value.string) (by simp) hcells (by intro u hu; simp at hu; obtain ⟨y, _, rfl⟩ := hu; rfl) (by unfold maxLen; omega) (by omega) hW
    exact ⟨v', w', hrun, ⟨by unfold SRow; simpa using h2, h3, h5⟩⟩
theorem wpList_append_str {W w : World} {ops : Array Oper} {rest : List Oper} {o : Oper} {a : Act} {Q : Exit → Act → World → Prop} (hgd : o.guard = none) (s x : Operand)
    (ho : o.op = .call { callee := .builtin .append, args := #[s, x], argTypes := #[27, 27] }) (hty : o.type = 27)
    {v : Value} {l : List ByteArray} (hs : a.eval s = v) (hr : SRow W w v l) (hW : W.heap.size ≤ w.heap.size) (A : Option Addr) (c : Nat) (path : List ByteArray) (hx : a.eval x = .slice A path.length c)
    (hA : ∀ (i : Nat) y, path[i]? = some y → ∃ b off, A = some ⟨b, off, none⟩ ∧ w.cell? ⟨b, off + i, none⟩ = some (.string y)) (hb : l.length + path.length ≤ 8796093022208)
    (h : ∀ v' w', Grow W w w' v v' (l ++ path) → wpList Tryz.prog ops Q rest (a.put o.dst v') w') : wpList Tryz.prog ops Q (o :: rest) a w := by
  refine wpList_plain hgd fun K hK => ?_
  obtain ⟨v', w', hrun, hg⟩ := run_append_str hr hW A c path hA hb
  unfold Oper.wp execOp
  simp only [ho, hty, resolve, invoke, builtin, Sem.run_bind, Sem.run_pure, Result.andThen_ok, List.map_toArray, List.map_cons, List.map_nil, hs, hx, hrun]
  exact hK _ _ (h v' w' hg)
theorem step_append_str {W w : World} {ops : Array Oper} {o : Oper} {a : Act} {K : Act → World → Prop} {Q : Exit → Act → World → Prop} {E : Prop} (hgd : o.guard = none) (s x : Operand)
    (ho : o.op = .call { callee := .builtin .append, args := #[s, x], argTypes := #[27, 27] }) (hty : o.type = 27)
    (v : Value) (l : List ByteArray) (hs : a.eval s = v) (hr : SRow W w v l) (hW : W.heap.size ≤ w.heap.size) (A : Option Addr) (c : Nat) (path : List ByteArray) (hx : a.eval x = .slice A path.length c)
    (hA : ∀ (i : Nat) y, path[i]? = some y → ∃ b off, A = some ⟨b, off, none⟩ ∧ w.cell? ⟨b, off + i, none⟩ = some (.string y)) (hb : l.length + path.length ≤ 8796093022208)
    (h : ∀ v' w', Grow W w w' v v' (l ++ path) → K (a.put o.dst v') w') : if Region.wanted o (yielded ops a.tmps) = true then Oper.wp Tryz.prog o a w K Q else E := by
  have hw : Region.wanted o (yielded ops a.tmps) = true := by simp [Region.wanted, hgd]
  rw [if_pos hw]
  obtain ⟨v', w', hrun, hg⟩ := run_append_str hr hW A c path hA hb
  unfold Oper.wp execOp
  simp only [ho, hty, resolve, invoke, builtin, Sem.run_bind, Sem.run_pure, Result.andThen_ok, List.map_toArray, List.map_cons, List.map_nil, hs, hx, hrun]
  exact h v' w' hg
end Go.Proofs.YtnipdjkopmjoeaaGreatDoor
namespace Go.Proofs.YtnipdjkopmjoeaaGreatDoor
open Go.ChangeShapes Go.WideShapes Go.ChangeAt Go.RowKit Go.Fs
mutual
/-- the nodes that spoken visits, and what is left then -/
def spk : FT → Int → List FT × Int
  | .mk o s p c n ks, left => if left - 1 < 0 then ([], left - 1) else (.mk o s p c n ks :: (spkL ks (left - 1)).1, (spkL ks (left - 1)).2)
def spkL : List FT → Int → List FT × Int
  | [], left => ([], left)
  | k :: ks, left => ((spk k left).1 ++ (spkL ks (spk k left).2).1, (spkL ks (spk k left).2).2)
end
mutual
def bulkF : FT → Nat | .mk _ _ p _ _ ks => 1 + p.length + bulkFL ks
def bulkFL : List FT → Nat | [] => 0 | k :: ks => bulkF k + bulkFL ks
end
mutual
theorem spk_bounds : ∀ (f : FT) (left : Int), (spk f left).2 ≤ left ∧ left - bulkF f ≤ (spk f left).2 ∧ (spk f left).1.length ≤ bulkF f ∧ ((spk f left).1.flatMap FT.path).length ≤ bulkF f
  | .mk o s p c n ks, left => by
    unfold spk bulkF
    have h := spkL_bounds ks (left - 1)
    split
    · refine ⟨by show left - 1 ≤ left; omega, by show _ ≤ left - 1; omega, by simp, by simp⟩
    · obtain ⟨h1, h2, h3, h4⟩ := h
      refine ⟨by show (spkL ks (left - 1)).2 ≤ left; omega, by show _ ≤ (spkL ks (left - 1)).2; omega, by simp only [List.length_cons]; omega, by simp only [List.flatMap_cons, List.length_append, FT.path]; omega⟩
theorem spkL_bounds : ∀ (ks : List FT) (left : Int), (spkL ks left).2 ≤ left ∧ left - bulkFL ks ≤ (spkL ks left).2 ∧ (spkL ks left).1.length ≤ bulkFL ks ∧ ((spkL ks left).1.flatMap FT.path).length ≤ bulkFL ks
  | [], left => by simp [spkL, bulkFL]
  | k :: ks, left => by
    unfold spkL bulkFL
    obtain ⟨a1, a2, a3, a4⟩ := spk_bounds k left
    obtain ⟨b1, b2, b3, b4⟩ := spkL_bounds ks (spk k left).2
    refine ⟨by show (spkL ks (spk k left).2).2 ≤ left; omega, by show _ ≤ (spkL ks (spk k left).2).2; omega, by simp only [List.length_append]; omega, by simp only [List.flatMap_append, List.length_append]; omega⟩
end
theorem spkL_snoc : ∀ (l : List FT) (k : Nat) (x : FT) (left : Int), l[k]? = some x → spkL (l.take (k + 1)) left = ((spkL (l.take k) left).1 ++ (spk x (spkL (l.take k) left).2).1, (spk x (spkL (l.take k) left).2).2)
  | [], _, _, _, h => by simp at h
  | y :: ys, 0, x, left, h => by
    obtain rfl : y = x := by simpa using h
    simp [spkL]
  | y :: ys, k + 1, x, left, h => by
    have h : ys[k]? = some x := by simpa using h
    have := spkL_snoc ys k x (spk y left).2 h
    simp only [List.take_succ_cons, spkL]
    rw [this]
    simp
theorem bulkFL_snoc : ∀ (l : List FT) (k : Nat) (x : FT), l[k]? = some x → bulkFL (l.take (k + 1)) = bulkFL (l.take k) + bulkF x
  | [], _, _, h => by simp at h
  | y :: ys, 0, x, h => by
    obtain rfl : y = x := by simpa using h
    simp [bulkFL]
  | y :: ys, k + 1, x, h => by
    have h : ys[k]? = some x := by simpa using h
    have := bulkFL_snoc ys k x h
    simp only [List.take_succ_cons, bulkFL]
    omega
theorem bulkFL_take : ∀ (l : List FT) (k : Nat), bulkFL (l.take k) ≤ bulkFL l
  | [], _ => by simp
  | y :: ys, 0 => by simp [bulkFL]
  | y :: ys, k + 1 => by
    have := bulkFL_take ys k
    simp only [List.take_succ_cons, bulkFL]
    omega
/-- boxes of facts stay -/
def Keeps (w w' : World) : Prop := ∀ (b : Nat) (cs : Array Value), w.heap[b]? = some (.cells cs 30 (0, 0)) → w'.heap[b]? = some (.cells cs 30 (0, 0))
theorem Keeps.refl (w : World) : Keeps w w := fun _ _ h => h
theorem Keeps.trans {a b c : World} (h : Keeps a b) (k : Keeps b c) : Keeps a c := fun x cs hx => k x cs (h x cs hx)
theorem Keeps.alloc (w : World) (o : Obj) : Keeps w (w.alloc o) := fun _ _ hx => (Below.heap_alloc _ _ _ (lt_of_block hx)).trans hx
theorem Keeps.drew (w : World) : Keeps w w.drew := fun _ _ h => h
theorem Keeps.set {w : World} {b o : Nat} {cs : Array Value} {t : TypeId} (u : Value) (hb : w.heap[b]? = some (.cells cs t (0, 0))) (ht : t ≠ 30) : Keeps w (w.setCell ⟨b, o, none⟩ u) := fun x xs hx =>
  (set_other (fun e => by subst e; rw [hb] at hx; injection hx with hx; injection hx with _ h2 _; exact ht h2)).trans hx
theorem Grow.keeps {W w w1 : World} {x x' : Value} {l l' : List ByteArray} (g : Grow W w w1 x x' l') (h : SRow W w x l) : Keeps w w1 := fun _ _ hb => g.obj h hb (by decide)
def Spk3 (W : World) (L B : Nat) (w0 w : World) (lps lss lcs : List ByteArray) (left : Int) : Prop := ∃ pv sv cv, Spk W L B w pv sv cv lps lss lcs left ∧ Keeps w0 w
def SpkP (W : World) (L B : Nat) (w : World) (lps lss lcs : List ByteArray) (r : List FT × Int) (e : Ending) (w' : World) : Prop :=
  e = rn ∧ Spk3 W L B w w' (lps ++ r.1.map FT.name) (lss ++ r.1.flatMap FT.path) (lcs ++ r.1.map FT.cls) r.2
def SpkC (f : FT) (cs : List Value) (W : World) : Prop := ∀ (L B : Nat) (w : World) (pv sv cv : Value) (lps lss lcs : List ByteArray) (left : Int), Spk W L B w pv sv cv lps lss lcs left →
    lps.length + bulkF f ≤ 1099511627776 → lss.length + bulkF f ≤ 1099511627776 → lcs.length + bulkF f ≤ 1099511627776 → -4398046511104 ≤ left - bulkF f → left ≤ 120 →
    Calls Tryz.prog 42 #[.pointer (some ⟨B, 0, none⟩), .agg cs.toArray, .pointer (some ⟨L, 0, none⟩)] w (SpkP W L B w lps lss lcs (spk f left))
set_option maxRecDepth 100000 in
set_option maxHeartbeats 1000000 in
theorem spoken_end (W : World) (op n : Int) (nm c : ByteArray) (path : List ByteArray) (ks : List FT) (pa a : Option Addr) (pc cap L B : Nat) (w : World) (pv sv cv : Value) (lps lss lcs : List ByteArray) (left : Int) (hs : Spk W L B w pv sv cv lps lss lcs left) (hl : left < 1) (hlow : -4398046511104 ≤ left - 1) :
    Calls Tryz.prog 42 #[.pointer (some ⟨B, 0, none⟩), .agg #[.int .i64 op, .string nm, .slice pa path.length pc, .string c, .int .i64 n, .slice a ks.length cap], .pointer (some ⟨L, 0, none⟩)] w (SpkP W L B w lps lss lcs (spk (.mk op nm path c n ks) left)) := by
  have hLz := lt_of_block hs.l
  have hc := cell_of_one hs.l
  have hf := free_of_one hs.l
  have HS := Lib.hid hs; clear hs
  have k1 : left - 1 < 0 := by omega
  go_enter Tryz.func42, Tryz.ntmps42
  go_wp2_with fail
  refine bodyPost_ret (results_none rfl _ _ _) rfl ?_
  refine ⟨rfl, ?_⟩
  simp only [spk, if_pos k1, List.map_nil, List.flatMap_nil, List.append_nil]
  exact ⟨pv, sv, cv, (HS.out.tick _).alloc _, (Keeps.set _ HS.out.l (by decide)).trans (Keeps.alloc _ _)⟩
theorem SRow.slice {W w : World} {v : Value} {l : List ByteArray} (h : SRow W w v l) : ∃ a n c, v = .slice a n c := by
  rcases h.2 with ⟨rfl, _⟩ | ⟨g, cap, cur, rfl, _⟩ <;> exact ⟨_, _, _, rfl⟩
theorem SlO.up {W w : World} {a : Option Addr} {path : List ByteArray} (h : SlO W a path) (hb : Below W.heap.size W w) : ∀ (i : Nat) y, path[i]? = some y → ∃ b off, a = some ⟨b, off, none⟩ ∧ w.cell? ⟨b, off + i, none⟩ = some (.string y) := by
  intro i y hy
  obtain ⟨b, off, e, hlt, hc⟩ := h.at_ i y hy
  exact ⟨b, off, e, (hb.cell (p := ⟨b, off + i, none⟩) hlt).trans hc⟩
def RegM (S : Value → World → Prop) (F : Option Addr → Nat → Nat → Act) : Exit → Act → World → Prop
  | .normal, a, w => ∃ z1 z2 z3, a = F z1 z2 z3 ∧ S (.slice z1 z2 z3) w
  | _, _, _ => False
theorem RegM.out {S : Value → World → Prop} {F : Option Addr → Nat → Nat → Act} {Q : Exit → Act → World → Prop} (h : ∀ z1 z2 z3 w, S (.slice z1 z2 z3) w → Q .normal (F z1 z2 z3) w) (e : Exit) (a : Act) (w : World) (hm : RegM S F e a w) : Q e a w := by
  cases e <;> first | exact hm.elim | (obtain ⟨z1, z2, z3, rfl, hs⟩ := hm; exact h z1 z2 z3 w hs)
theorem one_src (w : World) (nm : ByteArray) (t : TypeId) (z : Nat) (hz : z = w.heap.size) : ∀ (i : Nat) y, [nm][i]? = some y → ∃ b off, some (⟨z, 0, none⟩ : Addr) = some ⟨b, off, none⟩ ∧ (w.alloc (.cells #[.string nm] t)).drew.cell? ⟨b, off + i, none⟩ = some (.string y) := by
  subst hz
  intro i y hy
  match i, hy with
  | 0, hy =>
    obtain rfl : nm = y := by simpa using hy
    exact ⟨_, _, rfl, by first | exact cell_one_new w (.string nm) t 0 _ rfl | (simp [Addr.add]; done)⟩
theorem box_cells {w : World} {b : Nat} {v0 v1 v2 v3 v4 v5 : Value} {t : TypeId} (h : w.heap[b]? = some (.cells #[v0, v1, v2, v3, v4, v5] t (0, 0))) :
    w.cell? ⟨b, 1, none⟩ = some v1 ∧ w.cell? ⟨b, 2, none⟩ = some v2 ∧ w.cell? ⟨b, 3, none⟩ = some v3 ∧ w.cell? ⟨b, 5, none⟩ = some v5 := by
  simp [World.cell?, h]
theorem row_cells {w : World} {b : Nat} {v0 v1 v2 : Value} {t : TypeId} (h : w.heap[b]? = some (.cells #[v0, v1, v2] t (0, 0))) :
    (w.cell? ⟨b, 0, none⟩ = some v0 ∧ w.cell? ⟨b, 1, none⟩ = some v1 ∧ w.cell? ⟨b, 2, none⟩ = some v2) ∧ (w.frozen? ⟨b, 0, none⟩ = false ∧ w.frozen? ⟨b, 1, none⟩ = false ∧ w.frozen? ⟨b, 2, none⟩ = false) := by
  simp [World.cell?, World.frozen?, h]
set_option maxRecDepth 100000 in
set_option maxHeartbeats 4000000 in
theorem spoken_step (W : World) (op n : Int) (nm c : ByteArray) (path : List ByteArray) (ks : List FT) (pa a : Option Addr) (pc cap : Nat) (hq1 : (path.length : Int) ≤ 9223372036854775807) (hq2 : (ks.length : Int) ≤ 9223372036854775807) (ho : SlO W pa path)
    (hk : ∀ k x, ks[k]? = some x → KidF W a SpkC k x) : SpkC (.mk op nm path c n ks) [.int .i64 op, .string nm, .slice pa path.length pc, .string c, .int .i64 n, .slice a ks.length cap] W := by
  intro L B w pv sv cv lps lss lcs left hs hb1 hb2 hb3 hlow hup
  by_cases hl : left < 1
  · exact spoken_end W op n nm c path ks pa a pc cap L B w pv sv cv lps lss lcs left hs hl (by simp [bulkF] at hlow; omega)
  · have k1 : ¬ left - 1 < 0 := by omega
    have hLz := lt_of_block hs.l
    have hBz := lt_of_block hs.b
    have hLB := hs.ne
    have hc := cell_of_one hs.l
    have hf := free_of_one hs.l
    have b0 : w.cell? ⟨B, 0, none⟩ = some pv := by simp [World.cell?, hs.b]
    have b1 : w.cell? ⟨B, 1, none⟩ = some sv := by simp [World.cell?, hs.b]
    have b2 : w.cell? ⟨B, 2, none⟩ = some cv := by simp [World.cell?, hs.b]
    have HS := Lib.hid hs; clear hs
    have HK := Lib.hid hk; clear hk
    have HO := Lib.hid ho; clear ho
    have HS0 := Lib.hid ((HS.out.tick (left - 1)).alloc (.cells #[.int .i64 op, .string nm, .slice pa path.length pc, .string c, .int .i64 n, .slice a ks.length cap] 30 (0, 0)))
    have hsz : (w.setCell ⟨L, 0, none⟩ (.int .i64 (left - 1))).heap.size = w.heap.size := by simp [World.setCell]
    have hx1 := heap_alloc_new (w.setCell ⟨L, 0, none⟩ (.int .i64 (left - 1))) (.cells #[.int .i64 op, .string nm, .slice pa path.length pc, .string c, .int .i64 n, .slice a ks.length cap] 30 (0, 0))
    rw [hsz] at hx1
    have HX0 := Lib.hid hx1; clear hx1 hsz
    have HK0 := Lib.hid ((Keeps.set (.int .i64 (left - 1)) HS.out.l (by decide) : Keeps w (w.setCell ⟨L, 0, none⟩ _)).trans (Keeps.alloc _ (.cells #[.int .i64 op, .string nm, .slice pa path.length pc, .string c, .int .i64 n, .slice a ks.length cap] 30 (0, 0))))
    go_enter Tryz.func42, Tryz.ntmps42
    go_wp2_with fail
    apply Code.wp_mono (Q := RegM (fun v w2 => Spk W L B w2 v sv cv (lps ++ [nm]) lss lcs (left - 1) ∧ Keeps w w2 ∧ w2.heap[w.heap.size]? = some (.cells #[.int .i64 op, .string nm, .slice pa path.length pc, .string c, .int .i64 n, .slice a ks.length cap] 30 (0, 0))) _)
    rotate_left
    · go_region_law ((refine step_append_str (W := W) (by rfl) _ _ (by rfl) (by rfl) pv lps (by rfl) ((HS0.out.alloc _).drew.p) ((HS0.out.alloc _).drew.below.size) (some ⟨_, 0, none⟩) 1 [nm] (by rfl) (one_src _ _ _ _ (by simp)) (by simp [bulkF] at hb1; simp; omega) ?_; intro v1 w1 hg1; obtain ⟨z1, z2, z3, hz⟩ := hg1.own.slice; subst hz; have hN := Lib.hid ((HS0.out.alloc _).drew.push0 hg1); have hob := hg1.obj (HS0.out.alloc _).drew.p (HS0.out.alloc _).drew.b (by decide); have hkk := (((Keeps.alloc _ _).trans (Keeps.drew _)).trans (hg1.keeps (HS0.out.alloc _).drew.p)); obtain ⟨⟨q0, q1, q2⟩, f0, f1, f2⟩ := row_cells hob; have HB1 := Lib.hid hob; have HKK := Lib.hid hkk; clear hob hkk))
      all_goals exact ⟨z1, z2, z3, rfl, hN.out, (HK0.out.trans HKK.out).trans (Keeps.set _ HB1.out (by decide)), Keeps.set _ HB1.out (by decide) _ _ (HKK.out _ _ HX0.out)⟩
    refine RegM.out ?_
    rintro a0 n0 c0 w10 ⟨hs, hkp, hxx⟩
    have HS1 := Lib.hid hs
    have HK1 := Lib.hid hkp
    have HX1 := Lib.hid hxx
    obtain ⟨⟨b0, b1, b2⟩, g0, g1, g2⟩ := row_cells hs.b
    obtain ⟨x1, x2, x3, x5⟩ := box_cells hxx
    have zb := lt_of_block hs.b
    have zx := lt_of_block hxx
    have zl := lt_of_block hs.l
    clear hs hkp hxx HS0 HK0 HX0
    go_wp2_with fail
    apply Code.wp_mono (Q := RegM (fun v w2 => Spk W L B w2 (.slice a0 n0 c0) v cv (lps ++ [nm]) (lss ++ path) lcs (left - 1) ∧ Keeps w w2 ∧ w2.heap[w.heap.size]? = some (.cells #[.int .i64 op, .string nm, .slice pa path.length pc, .string c, .int .i64 n, .slice a ks.length cap] 30 (0, 0))) _)
    rotate_left
    · go_region_law ((refine step_append_str (W := W) (by rfl) _ _ (by rfl) (by rfl) sv lss (by rfl) (HS1.out.drew.s) (HS1.out.drew.below.size) pa pc path (by rfl) (HO.out.up HS1.out.drew.below) (by simp [bulkF] at hb2; omega) ?_; intro v1 w1 hg1; obtain ⟨z1, z2, z3, hz⟩ := hg1.own.slice; subst hz; have hN := Lib.hid (HS1.out.drew.push1 hg1); have hob := hg1.obj HS1.out.drew.s HS1.out.drew.b (by decide); have hkk := ((Keeps.drew _).trans (hg1.keeps HS1.out.drew.s)); obtain ⟨⟨q0, q1, q2⟩, f0, f1, f2⟩ := row_cells hob; have HB1 := Lib.hid hob; have HKK := Lib.hid hkk; clear hob hkk))
      all_goals exact ⟨z1, z2, z3, rfl, hN.out, (HK1.out.trans HKK.out).trans (Keeps.set _ HB1.out (by decide)), Keeps.set _ HB1.out (by decide) _ _ (HKK.out _ _ HX1.out)⟩
    refine RegM.out ?_
    rintro a1 n1 c1 w11 ⟨hs, hkp, hxx⟩
    have HS2 := Lib.hid hs
    have HK2 := Lib.hid hkp
    have HX2 := Lib.hid hxx
    obtain ⟨⟨b0, b1, b2⟩, g0, g1, g2⟩ := row_cells hs.b
    obtain ⟨x1, x2, x3, x5⟩ := box_cells hxx
    have zb := lt_of_block hs.b
    have zx := lt_of_block hxx
    have zl := lt_of_block hs.l
    clear hs hkp hxx HS1 HK1 HX1
    go_wp2_with fail
    apply Code.wp_mono (Q := RegM (fun v w2 => Spk W L B w2 (.slice a0 n0 c0) (.slice a1 n1 c1) v (lps ++ [nm]) (lss ++ path) (lcs ++ [c]) (left - 1) ∧ Keeps w w2 ∧ w2.heap[w.heap.size]? = some (.cells #[.int .i64 op, .string nm, .slice pa path.length pc, .string c, .int .i64 n, .slice a ks.length cap] 30 (0, 0))) _)
    rotate_left
    · go_region_law ((refine step_append_str (W := W) (by rfl) _ _ (by rfl) (by rfl) cv lcs (by rfl) ((HS2.out.alloc _).drew.c) ((HS2.out.alloc _).drew.below.size) (some ⟨_, 0, none⟩) 1 [c] (by rfl) (one_src _ _ _ _ (by simp)) (by simp [bulkF] at hb3; simp; omega) ?_; intro v1 w1 hg1; obtain ⟨z1, z2, z3, hz⟩ := hg1.own.slice; subst hz; have hN := Lib.hid ((HS2.out.alloc _).drew.push2 hg1); have hob := hg1.obj (HS2.out.alloc _).drew.c (HS2.out.alloc _).drew.b (by decide); have hkk := (((Keeps.alloc _ _).trans (Keeps.drew _)).trans (hg1.keeps (HS2.out.alloc _).drew.c)); obtain ⟨⟨q0, q1, q2⟩, f0, f1, f2⟩ := row_cells hob; have HB1 := Lib.hid hob; have HKK := Lib.hid hkk; clear hob hkk))
      all_goals exact ⟨z1, z2, z3, rfl, hN.out, (HK2.out.trans HKK.out).trans (Keeps.set _ HB1.out (by decide)), Keeps.set _ HB1.out (by decide) _ _ (HKK.out _ _ HX2.out)⟩
    refine RegM.out ?_
    rintro a2 n2 c2 w12 ⟨hs, hkp, hxx⟩
    have HS3 := Lib.hid hs
    have HK3 := Lib.hid hkp
    have HX3 := Lib.hid hxx
    obtain ⟨⟨b0, b1, b2⟩, g0, g1, g2⟩ := row_cells hs.b
    obtain ⟨x1, x2, x3, x5⟩ := box_cells hxx
    have zb := lt_of_block hs.b
    have zx := lt_of_block hxx
    have zl := lt_of_block hs.l
    clear hs hkp hxx HS2 HK2 HX2
    go_wp2_with fail
    go_loopw [6] (fun i wr => ∃ k : Nat, k ≤ ks.length ∧ i = .int .i64 k ∧ Spk3 W L B w wr (lps ++ [nm] ++ (spkL (ks.take k) (left - 1)).1.map FT.name) (lss ++ path ++ (spkL (ks.take k) (left - 1)).1.flatMap FT.path) (lcs ++ [c] ++ (spkL (ks.take k) (left - 1)).1.map FT.cls) (spkL (ks.take k) (left - 1)).2 ∧ wr.heap[w.heap.size]? = some (.cells #[.int .i64 op, .string nm, .slice pa path.length pc, .string c, .int .i64 n, .slice a ks.length cap] 30 (0, 0))) (fun i _ => ks.length - (intOf i).toNat)
    case atStart => exact ⟨0, Nat.zero_le _, rfl, ⟨_, _, _, by simpa [spkL] using HS3.out, HK3.out⟩, HX3.out⟩
    case round =>
      obtain ⟨k, hkl, rfl, ⟨pv', sv', cv', hs, hkp⟩, hxx⟩ := hrel
      clear HS3 HK3 HX3 b0 b1 b2 g0 g1 g2 x1 x2 x3 x5
      have HKP := Lib.hid hkp; clear hkp
      have HXX := Lib.hid hxx
      obtain ⟨x1, x2, x3, x5⟩ := box_cells hxx
      clear hxx
      have HSS := Lib.hid hs; clear hs
      have z0 := spkL_bounds (ks.take k) (left - 1)
      have z1 := bulkFL_take ks k
      by_cases hlt : k < ks.length
      · obtain ⟨x, hx⟩ : ∃ x, ks[k]? = some x := ⟨ks[k], List.getElem?_eq_getElem hlt⟩
        have z2 := bulkFL_snoc ks k x hx
        have z3 := bulkFL_take ks (k + 1)
        obtain ⟨b, off, cs, ha, hb, hat, hxr, ih⟩ := HK.out k x hx
        subst ha
        obtain ⟨pvx, v, rfl, own, a', cap', rfl⟩ := hxr.six
        have hbW := HSS.out.below
        have q0 := (hbW.cell (p := ⟨b, off + k * 6, none⟩) hb).trans (by simpa using hat 0 _ rfl)
        have q1 := (hbW.cell (p := ⟨b, off + k * 6 + 1, none⟩) hb).trans (by simpa using hat 1 _ rfl)
        have q2 := (hbW.cell (p := ⟨b, off + k * 6 + 2, none⟩) hb).trans (by simpa using hat 2 _ rfl)
        have q3 := (hbW.cell (p := ⟨b, off + k * 6 + 3, none⟩) hb).trans (by simpa using hat 3 _ rfl)
        have q4 := (hbW.cell (p := ⟨b, off + k * 6 + 4, none⟩) hb).trans (by simpa using hat 4 _ rfl)
        have q5 := (hbW.cell (p := ⟨b, off + k * 6 + 5, none⟩) hb).trans (by simpa using hat 5 _ rfl)
        have hcall := ih L B wr pv' sv' cv' _ _ _ _ HSS.out (by simp only [List.length_append, List.length_map, List.length_cons, List.length_nil]; simp only [bulkF] at hb1; omega) (by simp only [List.length_append]; simp only [bulkF] at hb2; omega) (by simp only [List.length_append, List.length_map, List.length_cons, List.length_nil]; simp only [bulkF] at hb3; omega) (by simp only [bulkF] at hlow; omega) (by omega)
        have HCALL := Lib.hid hcall; clear hcall
        have HX := Lib.hid hx; clear hx
        clear z0 z1 z2 z3 hbW hat hxr own ih
        go_wp2_with (go_at_call 42; refine HCALL.out.mono ?_; rintro e w2 ⟨rfl, p2, s2, c2, hs2, hk2⟩; have HS2 := Lib.hid hs2; have HK2 := Lib.hid hk2; clear hs2 hk2)
        refine ⟨⟨k + 1, by omega, by go_num, ⟨p2, s2, c2, ?_, HKP.out.trans HK2.out⟩, HK2.out _ _ HXX.out⟩, by simp [intOf]; omega⟩
        rw [spkL_snoc ks k x (left - 1) HX.out]
        simpa [List.append_assoc] using HS2.out
      · obtain rfl : k = ks.length := by omega
        go_wp2_with fail
        refine bodyPost_end (results_none rfl _ _ _) rfl ?_
        refine ⟨rfl, pv', sv', cv', ?_, HKP.out⟩
        have hs := HSS.out
        rw [List.take_length] at hs
        have k9 : ¬ left - 1 < 0 := by omega
        simpa only [spk, if_neg k9, List.map_cons, List.flatMap_cons, FT.name, FT.path, FT.cls, List.append_assoc, List.cons_append, List.nil_append, List.singleton_append] using hs
theorem spoken_tree (W : World) (e : FT) (cs : List Value) (hr : FctR W e cs) : SpkC e cs W := by
  induction hr with
  | none op n s c path qv a cap h1 h2 h3 h3' hp hl1 hl2 =>
    obtain ⟨pa, pc, rfl, ho⟩ := hp.opened
    exact spoken_step W op n s c path [] pa a pc cap (by unfold maxLen at hl1; omega) (by simp) ho (fun k x h => by simp at h)
  | some op n s c path qv ks b off cap cs h1 h2 h3 h3' hp hl1 hl2 h4 h5 hb hc hk ih =>
    obtain ⟨pa, pc, rfl, ho⟩ := hp.opened
    refine spoken_step W op n s c path ks pa (some ⟨b, off, none⟩) pc cap (by unfold maxLen at hl1; omega) (by unfold maxLen at h4; omega) ho (fun k x hx => ?_)
    have hlt : k < ks.length := (List.getElem?_eq_some_iff.1 hx).1
    exact ⟨b, off, cs k, rfl, hb, hc k hlt, hk k x hx, ih k x hx⟩
end Go.Proofs.YtnipdjkopmjoeaaGreatDoor
namespace Go.Proofs.YtnipdjkopmjoeaaGreatDoor
open Go.ChangeShapes Go.WideShapes Go.ChangeAt Go.RowKit Go.Fs
theorem SRow.below {W w w1 : World} {v : Value} {l : List ByteArray} (h : SRow W w v l) (hb : Below w.heap.size w w1) : SRow W w1 v l := h.of_block fun k hk => hb.block k (h.lt k hk).2
theorem one_src' (w : World) (nm : ByteArray) (t : TypeId) (z : Nat) (hz : z = w.heap.size) : ∀ (i : Nat) y, [nm][i]? = some y → ∃ b off, some (⟨z, 0, none⟩ : Addr) = some ⟨b, off, none⟩ ∧ (w.alloc (.cells #[.string nm] t)).cell? ⟨b, off + i, none⟩ = some (.string y) := one_src w nm t z hz
theorem filter_take (l : List ByteArray) (k : Nat) (x : ByteArray) (h : l[k]? = some x) : (l.take (k + 1)).filter nameB = (l.take k).filter nameB ++ (if nameB x = true then [x] else []) := by
  rw [take_snoc l k x h, List.filter_append]
  congr 1
  cases hx : nameB x <;> simp [hx]
def NamesP (w : World) (l : List ByteArray) (e : Ending) (w' : World) : Prop := ∃ u, e = .returned u ∧ Below w.heap.size w w' ∧ SRow w w' u l
set_option maxRecDepth 100000 in
set_option maxHeartbeats 1000000 in
theorem allNames_any (v mv : Value) (l more : List ByteArray) (w : World) (hv : SlR w v l) (hm : SlR w mv more) (hl : l.length + more.length ≤ 8796093022208) (hsz : ∀ x ∈ l, (x.size : Int) ≤ 9223372036854775807) :
    Calls Tryz.prog 43 #[v, mv] w (NamesP w (l.filter nameB ++ more)) := by
  obtain ⟨a, cap, rfl, ho⟩ := hv.opened
  obtain ⟨ma, mc, rfl, hmo⟩ := hm.opened
  have HO := Lib.hid ho; clear ho
  have HM := Lib.hid hmo; clear hmo
  have HZ := Lib.hid hsz; clear hsz hv hm
  have hll : (l.length : Int) ≤ 9223372036854775807 := by omega
  go_enter Tryz.func43, Tryz.ntmps43
  go_wp2_with fail
  go_loopw [5, 6] (fun o i wr => ∃ k : Nat, k ≤ l.length ∧ i = .int .i64 k ∧ SRow w wr o ((l.take k).filter nameB) ∧ Below w.heap.size w wr) (fun _ i _ => l.length - (intOf i).toNat)
  case atStart => exact ⟨0, Nat.zero_le _, rfl, World.ownsRow_nil _ _ _ _, Below.refl _ _⟩
  case round =>
    obtain ⟨k, hkl, rfl, hrow, hbel⟩ := hrel
    have HR := Lib.hid hrow; clear hrow
    have HB := Lib.hid hbel; clear hbel
    by_cases hlt : k < l.length
    · obtain ⟨x, hx⟩ : ∃ x, l[k]? = some x := ⟨l[k], List.getElem?_eq_getElem hlt⟩
      obtain ⟨b, off, ha, q⟩ := HO.out.up HB.out k x hx
      subst ha
      have hxs := HZ.out x (List.mem_of_getElem? hx)
      have HX := Lib.hid hx; clear hx
      have hln : ((l.take k).filter nameB).length ≤ k := Nat.le_trans (List.length_filter_le _ _) (by simp; omega)
      cases hn : nameB x with
      | false =>
        have HN := Lib.hid hn; clear hn
        go_wp2_with (go_at_call 70; refine (rname_any _ _ hxs).mono ?_; rintro e w1 ⟨rfl, hb1⟩; have HB1 := Lib.hid hb1; clear hb1; rw [HN.out])
        exact ⟨⟨k + 1, by omega, by go_num, by rw [filter_take l k x HX.out, HN.out]; simpa using HR.out.below HB1.out, HB.out.trans (HB1.out.mono HB.out.size)⟩, by simp [intOf]; omega⟩
      | true =>
        have HN := Lib.hid hn; clear hn
        go_wp2_with (first | (go_at_call 70; refine (rname_any _ _ hxs).mono ?_; rintro e w1 ⟨rfl, hb1⟩; have q1 := (hb1.cell (p := ⟨b, off + k, none⟩) (cell_lt q)).trans q; have HB1 := Lib.hid hb1; clear hb1; rw [HN.out]) | (at_builtin; apply wpList_append_str (W := w) (A := some ⟨_, 0, none⟩) (c := 1) (path := [x]) (ho := rfl) (hgd := rfl) (hty := rfl) (hs := rfl) (hx := rfl); (case hr => exact World.ownsRow.alloc (HR.out.below HB1.out) _); (case hW => exact ((HB.out.trans (HB1.out.mono HB.out.size)).alloc (HB.out.trans (HB1.out.mono HB.out.size)).size _).size); (case hA => exact one_src' _ _ _ _ (by simp)); (case hb => (simp; omega)); intro v2 w2 hg))
        have hbb := HB.out.trans (HB1.out.mono HB.out.size)
        exact ⟨⟨k + 1, by omega, by go_num, by rw [filter_take l k x HX.out, HN.out]; exact hg.own, hg.below (World.ownsRow.alloc (HR.out.below HB1.out) _) (hbb.alloc hbb.size _)⟩, by simp [intOf]; omega⟩
    · obtain rfl : k = l.length := by omega
      have hln : ((l.take l.length).filter nameB).length ≤ l.length := Nat.le_trans (List.length_filter_le _ _) (by simp)
      go_wp2_with (at_builtin; apply wpList_append_str (W := w) (A := ma) (c := mc) (path := more) (ho := rfl) (hgd := rfl) (hty := rfl) (hs := rfl) (hx := rfl); (case hr => exact HR.out); (case hW => exact HB.out.size); (case hA => exact HM.out.up HB.out); (case hb => omega); intro v2 w2 hg)
      go_ret
      have hr := HR.out
      have hg1 := hg.own
      rw [List.take_length] at hr hg1
      exact ⟨_, rfl, hg.below HR.out HB.out, hg1⟩
end Go.Proofs.YtnipdjkopmjoeaaGreatDoor
namespace Go.Proofs.YtnipdjkopmjoeaaGreatDoor
open Go.ChangeShapes Go.WideShapes Go.ChangeAt Go.RowKit Go.Fs
theorem At.below {W w : World} {b off : Nat} {cs : List Value} (h : At W b off cs) (hb : b < W.heap.size) (hB : Below W.heap.size W w) : At w b off cs := fun i v hi => (hB.cell (p := ⟨b, off + i, none⟩) hb).trans (h i v hi)
theorem SlR.below {W w : World} {v : Value} {l : List ByteArray} (h : SlR W v l) (hB : Below W.heap.size W w) : SlR w v l := by
  rcases h with ⟨a, cap, rfl, rfl⟩ | ⟨b, off, cap, rfl, hc⟩
  · exact .inl ⟨a, cap, rfl, rfl⟩
  · exact .inr ⟨b, off, cap, rfl, fun i s hi => (hB.cell (p := ⟨b, off + i, none⟩) (cell_lt (hc i s hi))).trans (hc i s hi)⟩
theorem SRow.slr {W w : World} {v : Value} {l : List ByteArray} (h : SRow W w v l) : SlR w v l := by
  rcases h.2 with ⟨rfl, hn⟩ | ⟨g, cap, cur, rfl, _, hg, hle, _, hcs, htake⟩
  · exact .inl ⟨_, _, rfl, List.length_eq_zero_iff.1 hn⟩
  · refine .inr ⟨g, 0, cap, rfl, fun i s hi => ?_⟩
    have hc := World.ownsRow.cells h (g := g) rfl i (.string s) (by rw [List.getElem?_map, hi]; rfl)
    by_cases h0 : i = 0
    · subst h0; simpa [Addr.add] using hc
    · simpa [Addr.add, h0] using hc
theorem spkL_mem : ∀ (ks : List FT) (left : Int) (y : FT), y ∈ (spkL ks left).1 → ∃ (i : Nat) (k : FT) (l : Int), ks[i]? = some k ∧ y ∈ (spk k l).1
  | [], left, y, h => by simp [spkL] at h
  | k :: ks, left, y, h => by
    simp only [spkL, List.mem_append] at h
    rcases h with h | h
    · exact ⟨0, k, left, rfl, h⟩
    · obtain ⟨i, x, l, h1, h2⟩ := spkL_mem ks _ y h
      exact ⟨i + 1, x, l, by simpa using h1, h2⟩
theorem spk_sizes {W : World} {e : FT} {cs : List Value} (hr : FctR W e cs) : ∀ (left : Int) (y : FT), y ∈ (spk e left).1 → (FT.name y).size ≤ maxLen ∧ (FT.cls y).size ≤ maxLen ∧ ∀ x ∈ FT.path y, x.size ≤ maxLen := by
  induction hr with
  | none op n s c path pv a cap h1 h2 h3 h3' hp hl1 hl2 =>
    intro left y hy
    unfold spk at hy
    split at hy
    · simp at hy
    · simp only [spkL, List.mem_singleton] at hy
      subst hy
      exact ⟨h3, h3', hl2⟩
  | some op n s c path pv ks b off cap cs h1 h2 h3 h3' hp hl1 hl2 h4 h5 hb hc hk ih =>
    intro left y hy
    unfold spk at hy
    split at hy
    · simp at hy
    · simp only [List.mem_cons] at hy
      rcases hy with hy | hy
      · subst hy; exact ⟨h3, h3', hl2⟩
      · obtain ⟨i, x, l, hx, hy⟩ := spkL_mem ks _ y hy
        exact ih i x hx l y hy
theorem spk_start (w : World) (o : Obj) : Spk w (w.heap.size + 1 + 1) (w.heap.size + 1) (((w.alloc o).alloc (.cells #[.slice none 0 0, .slice none 0 0, .slice none 0 0] 93 (0, 0))).alloc (.cells #[.int .i64 120] 3 (0, 0))) (.slice none 0 0) (.slice none 0 0) (.slice none 0 0) [] [] [] 120 := by
  refine ⟨(((Below.refl _ _).alloc (Nat.le_refl _) _).alloc (by simp) _).alloc (by simp; omega) _, by omega, by omega, ?_, ?_, World.ownsRow_nil _ _ _ _, World.ownsRow_nil _ _ _ _, World.ownsRow_nil _ _ _ _, .inl rfl, .inl rfl, .inl rfl⟩
  · have := heap_alloc_new ((w.alloc o).alloc (.cells #[.slice none 0 0, .slice none 0 0, .slice none 0 0] 93 (0, 0))) (.cells #[.int .i64 120] 3 (0, 0))
    simpa using this
  · rw [Below.heap_alloc _ _ _ (by simp)]
    have := heap_alloc_new (w.alloc o) (.cells #[.slice none 0 0, .slice none 0 0, .slice none 0 0] 93 (0, 0))
    simpa using this
/-- any, int, none -/
def mine0 : Unit := ()
def psO (e : FT) : List ByteArray := ((spk e 120).1.map FT.name).filter nameB ++ []
def ssO (e : FT) : List ByteArray := ((spk e 120).1.flatMap FT.path).filter nameB ++ []
def mine : List ByteArray := [⟨#[97, 110, 121]⟩, ⟨#[105, 110, 116]⟩, ⟨#[110, 111, 110, 101]⟩]
def clO (e : FT) : List ByteArray := ((spk e 120).1.map FT.cls).filter nameB ++ mine
/-- the specification's answer for a fact alone -/
def RfP (e : FT) (w : World) (x : Ending) (w' : World) : Prop := x = .returned (.bool (facB (psO e) (ssO e) (clO e) e 1 120)) ∧ Below w.heap.size w w'
theorem mine_slr {w : World} {z : Nat} (h : w.heap[z]? = some (.cells #[.string ⟨#[97, 110, 121]⟩, .string ⟨#[105, 110, 116]⟩, .string ⟨#[110, 111, 110, 101]⟩] 9 (0, 0))) : SlR w (.slice (some ⟨z, 0, none⟩) 3 3) mine := by
  refine .inr ⟨z, 0, 3, rfl, fun i s hi => ?_⟩
  match i, hi with
  | 0, hi => cases hi; simp [World.cell?, h]
  | 1, hi => cases hi; simp [World.cell?, h]
  | 2, hi => cases hi; simp [World.cell?, h]
theorem slx {W w5 w7 w4 : World} {v : Value} {l : List ByteArray} {L : Nat} (h : SRow W w5 v l) (hb : Below w5.heap.size w5 w7) (ho : ∀ b, v.ownBlock = some b → w4.heap.size ≤ b) (hL : L < w4.heap.size) : SlX L w7 v l :=
  ⟨(h.below hb).slr, fun b o n cap e => by subst e; have := ho b rfl; omega⟩
set_option maxRecDepth 100000 in
set_option maxHeartbeats 2000000 in
theorem rfact_any (e : FT) (cs : List Value) (w : World) (hr : FctR w e cs) (hbulk : bulkF e ≤ 1099511627776) :
    Calls Tryz.prog 19 #[.agg cs.toArray] w (RfP e w) := by
  have hspk := spoken_tree w e cs hr
  have hfct := fun ps ss cl pv sv cv h1 h2 h3 => fact_tree w ps ss cl pv sv cv h1 h2 h3 e cs hr
  have HSP := Lib.hid hspk; clear hspk
  obtain ⟨-, -, y1, y2⟩ := spk_bounds e 120
  have hy := spk_sizes hr 120
  have Hl1 := Lib.hid (show ((spk e 120).1.map FT.name).length + ([] : List ByteArray).length ≤ 8796093022208 by simp; omega)
  have Hl2 := Lib.hid (show ((spk e 120).1.flatMap FT.path).length + ([] : List ByteArray).length ≤ 8796093022208 by simp only [List.length_nil]; omega)
  have Hl3 := Lib.hid (show ((spk e 120).1.map FT.cls).length + mine.length ≤ 8796093022208 by simp [mine]; omega)
  have Hz1 := Lib.hid (show ∀ x ∈ (spk e 120).1.map FT.name, (x.size : Int) ≤ 9223372036854775807 by intro x hx; obtain ⟨y, h1, rfl⟩ := List.mem_map.1 hx; have := (hy y h1).1; unfold maxLen at this; omega)
  have Hz2 := Lib.hid (show ∀ x ∈ (spk e 120).1.flatMap FT.path, (x.size : Int) ≤ 9223372036854775807 by intro x hx; obtain ⟨y, h1, h2⟩ := List.mem_flatMap.1 hx; have := (hy y h1).2.2 x h2; unfold maxLen at this; omega)
  have Hz3 := Lib.hid (show ∀ x ∈ (spk e 120).1.map FT.cls, (x.size : Int) ≤ 9223372036854775807 by intro x hx; obtain ⟨y, h1, rfl⟩ := List.mem_map.1 hx; have := (hy y h1).2.1; unfold maxLen at this; omega)
  have Hm1 := Lib.hid (show ((psO e).length : Int) ≤ 9223372036854775807 by have := Hl1.out; have h2 := List.length_filter_le nameB ((spk e 120).1.map FT.name); unfold psO; simp only [List.length_append] at *; omega)
  have Hm2 := Lib.hid (show ((ssO e).length : Int) ≤ 9223372036854775807 by have := Hl2.out; have h2 := List.length_filter_le nameB ((spk e 120).1.flatMap FT.path); unfold ssO; simp only [List.length_append] at *; omega)
  have Hm3 := Lib.hid (show ((clO e).length : Int) ≤ 9223372036854775807 by have := Hl3.out; have h2 := List.length_filter_le nameB ((spk e 120).1.map FT.cls); unfold clO; simp only [List.length_append] at *; omega)
  clear hy y1 y2
  have HFC := Lib.hid hfct; clear hfct
  obtain ⟨pv, v, rfl, own, a, cap, rfl⟩ := hr.six
  clear own hr
  go_enter Tryz.func19, Tryz.ntmps19
  go_wp2_with (go_at_call 42; refine (HSP.out _ _ _ _ _ _ _ _ _ _ (spk_start w _) (by simp; omega) (by simp; omega) (by simp; omega) (by omega) (by omega)).mono ?_; rintro x w3 ⟨rfl, pv', sv', cv', hs, hkp⟩; have HS3 := Lib.hid hs; have HK3 := Lib.hid hkp; have hl3 := cell_of_one hs.l; have hf3 := free_of_one hs.l; clear hs hkp)
  have hb4 := (HS3.out.tick 120).b
  have hs4 := (HS3.out.tick 120)
  simp only [List.nil_append] at hs4
  have HS4 := Lib.hid hs4; clear hs4
  have hx4 := (HK3.out.trans (Keeps.set (o := 0) (.int .i64 120) HS3.out.l (by decide))) w.heap.size #[.int .i64 (FT.op e), .string (FT.name e), pv, .string (FT.cls e), .int .i64 (FT.n e), .slice a (FT.kids e).length cap] (by rw [Below.heap_alloc _ _ _ (by simp; omega), Below.heap_alloc _ _ _ (by simp)]; exact heap_alloc_new _ _)
  generalize hw4 : w3.setCell ⟨w.heap.size + 1 + 1, 0, none⟩ (.int .i64 120) = w4 at HS4 hb4 hx4 ⊢
  clear hw4 HS3 HK3 hl3 hf3
  obtain ⟨⟨b0, b1, b2⟩, -⟩ := row_cells hb4
  have x0 : w4.cell? ⟨w.heap.size, 0, none⟩ = some (.int .i64 (FT.op e)) := by simp [World.cell?, hx4]
  have x4 : w4.cell? ⟨w.heap.size, 4, none⟩ = some (.int .i64 (FT.n e)) := by simp [World.cell?, hx4]
  obtain ⟨x1, x2, x3, x5⟩ := box_cells hx4
  have zl := lt_of_block HS4.out.l
  clear hx4 hb4
  have KS := Lib.hid (show ∀ w', Below w4.heap.size w4 w' → (w'.cell? ⟨w.heap.size + 1, 0, none⟩ = some pv' ∧ w'.cell? ⟨w.heap.size + 1, 1, none⟩ = some sv' ∧ w'.cell? ⟨w.heap.size + 1, 2, none⟩ = some cv' ∧ w'.cell? ⟨w.heap.size, 0, none⟩ = some (.int .i64 (FT.op e)) ∧ w'.cell? ⟨w.heap.size, 1, none⟩ = some (.string (FT.name e)) ∧ w'.cell? ⟨w.heap.size, 2, none⟩ = some pv ∧ w'.cell? ⟨w.heap.size, 3, none⟩ = some (.string (FT.cls e)) ∧ w'.cell? ⟨w.heap.size, 4, none⟩ = some (.int .i64 (FT.n e)) ∧ w'.cell? ⟨w.heap.size, 5, none⟩ = some (.slice a (FT.kids e).length cap)) from fun w' hq => ⟨(hq.cell (p := ⟨w.heap.size + 1, 0, none⟩) (by simp; omega)).trans b0, (hq.cell (p := ⟨w.heap.size + 1, 1, none⟩) (by simp; omega)).trans b1, (hq.cell (p := ⟨w.heap.size + 1, 2, none⟩) (by simp; omega)).trans b2, (hq.cell (p := ⟨w.heap.size, 0, none⟩) (by simp; omega)).trans x0, (hq.cell (p := ⟨w.heap.size, 1, none⟩) (by simp; omega)).trans x1, (hq.cell (p := ⟨w.heap.size, 2, none⟩) (by simp; omega)).trans x2, (hq.cell (p := ⟨w.heap.size, 3, none⟩) (by simp; omega)).trans x3, (hq.cell (p := ⟨w.heap.size, 4, none⟩) (by simp; omega)).trans x4, (hq.cell (p := ⟨w.heap.size, 5, none⟩) (by simp; omega)).trans x5⟩)
  have KU := Lib.hid (show ∀ w0 w', Below w4.heap.size w4 w0 → Upd [w.heap.size + 1 + 1] w0 w' → (w'.cell? ⟨w.heap.size + 1, 0, none⟩ = some pv' ∧ w'.cell? ⟨w.heap.size + 1, 1, none⟩ = some sv' ∧ w'.cell? ⟨w.heap.size + 1, 2, none⟩ = some cv' ∧ w'.cell? ⟨w.heap.size, 0, none⟩ = some (.int .i64 (FT.op e)) ∧ w'.cell? ⟨w.heap.size, 1, none⟩ = some (.string (FT.name e)) ∧ w'.cell? ⟨w.heap.size, 2, none⟩ = some pv ∧ w'.cell? ⟨w.heap.size, 3, none⟩ = some (.string (FT.cls e)) ∧ w'.cell? ⟨w.heap.size, 4, none⟩ = some (.int .i64 (FT.n e)) ∧ w'.cell? ⟨w.heap.size, 5, none⟩ = some (.slice a (FT.kids e).length cap)) from fun w0 w' hb hu => by
    obtain ⟨k1, k2, k3, k4, k5, k6, k7, k8, k9⟩ := KS.out w0 hb
    have hz := hb.size
    exact ⟨(hu.cells _ _ (by omega) (by simp)).trans k1, (hu.cells _ _ (by omega) (by simp)).trans k2, (hu.cells _ _ (by omega) (by simp)).trans k3, (hu.cells _ _ (by omega) (by simp; omega)).trans k4, (hu.cells _ _ (by omega) (by simp; omega)).trans k5, (hu.cells _ _ (by omega) (by simp; omega)).trans k6, (hu.cells _ _ (by omega) (by simp; omega)).trans k7, (hu.cells _ _ (by omega) (by simp; omega)).trans k8, (hu.cells _ _ (by omega) (by simp; omega)).trans k9⟩)
  clear b0 b1 b2 x0 x1 x2 x3 x4 x5
  go_region_held3 (fun w' => w'.cell? ⟨w.heap.size + 1, 0, none⟩ = some pv' ∧ w'.cell? ⟨w.heap.size + 1, 1, none⟩ = some sv' ∧ w'.cell? ⟨w.heap.size + 1, 2, none⟩ = some cv' ∧ w'.cell? ⟨w.heap.size, 0, none⟩ = some (.int .i64 (FT.op e)) ∧ w'.cell? ⟨w.heap.size, 1, none⟩ = some (.string (FT.name e)) ∧ w'.cell? ⟨w.heap.size, 2, none⟩ = some pv ∧ w'.cell? ⟨w.heap.size, 3, none⟩ = some (.string (FT.cls e)) ∧ w'.cell? ⟨w.heap.size, 4, none⟩ = some (.int .i64 (FT.n e)) ∧ w'.cell? ⟨w.heap.size, 5, none⟩ = some (.slice a (FT.kids e).length cap)) (first | exact KU.out _ _ HB17.out HU.out | exact KS.out _ (HB17.out) | exact KS.out _ (HB13.out) | exact KS.out _ (HB13.out.alloc HB13.out.size _) | exact KS.out _ ((HB13.out.alloc HB13.out.size _).drew) | exact KS.out _ (HB10.out) | exact KS.out _ (HB10.out.alloc HB10.out.size _) | exact KS.out _ ((HB10.out.alloc HB10.out.size _).drew) | exact KS.out _ ((Below.refl _ _)) | exact KS.out _ ((Below.refl _ _).drew) | exact KS.out _ (((Below.refl _ _).drew).alloc (Nat.le_refl _) _) | exact KS.out _ (((Below.refl _ _).alloc (Nat.le_refl _) _)) | exact KS.out _ (((Below.refl _ _).alloc (Nat.le_refl _) _).drew)) (first | (go_at_call_of 43 pv'; refine (allNames_any pv' (.slice none 0 0) _ [] _ (HS4.out.p.slr.below (by first | exact (Below.refl _ _) | exact (Below.refl _ _).drew | exact ((Below.refl _ _).drew).alloc (Nat.le_refl _) _ | exact ((Below.refl _ _).alloc (Nat.le_refl _) _) | exact ((Below.refl _ _).alloc (Nat.le_refl _) _).drew)) (.inl ⟨_, _, rfl, rfl⟩) Hl1.out Hz1.out).mono ?_; rintro x w5 ⟨u1, rfl, hb, hr⟩; obtain ⟨p1a, p1b, p1c, hz⟩ := hr.slice; subst hz; have HB10 := Lib.hid (((by first | exact (Below.refl _ _) | exact (Below.refl _ _).drew | exact ((Below.refl _ _).drew).alloc (Nat.le_refl _) _ | exact ((Below.refl _ _).alloc (Nat.le_refl _) _) | exact ((Below.refl _ _).alloc (Nat.le_refl _) _).drew) : Below w4.heap.size w4 _).trans (hb.mono (Below.size ((by first | exact (Below.refl _ _) | exact (Below.refl _ _).drew | exact ((Below.refl _ _).drew).alloc (Nat.le_refl _) _ | exact ((Below.refl _ _).alloc (Nat.le_refl _) _) | exact ((Below.refl _ _).alloc (Nat.le_refl _) _).drew) : Below w4.heap.size w4 _)))); have HO10 := Lib.hid (show ∀ b, (Value.slice p1a p1b p1c).ownBlock = some b → w4.heap.size ≤ b from fun b hb' => Nat.le_trans (Below.size ((by first | exact (Below.refl _ _) | exact (Below.refl _ _).drew | exact ((Below.refl _ _).drew).alloc (Nat.le_refl _) _ | exact ((Below.refl _ _).alloc (Nat.le_refl _) _) | exact ((Below.refl _ _).alloc (Nat.le_refl _) _).drew) : Below w4.heap.size w4 _)) (hr.lt b hb').1); have HR10 := Lib.hid hr; have HQ10 := Lib.hid hb; clear hb hr) | (go_at_call_of 43 sv'; refine (allNames_any sv' (.slice none 0 0) _ [] _ (HS4.out.s.slr.below (by first | exact HB10.out | exact HB10.out.alloc HB10.out.size _ | exact (HB10.out.alloc HB10.out.size _).drew)) (.inl ⟨_, _, rfl, rfl⟩) Hl2.out Hz2.out).mono ?_; rintro x w6 ⟨u2, rfl, hb, hr⟩; obtain ⟨p2a, p2b, p2c, hz⟩ := hr.slice; subst hz; have HB13 := Lib.hid (((by first | exact HB10.out | exact HB10.out.alloc HB10.out.size _ | exact (HB10.out.alloc HB10.out.size _).drew) : Below w4.heap.size w4 _).trans (hb.mono (Below.size ((by first | exact HB10.out | exact HB10.out.alloc HB10.out.size _ | exact (HB10.out.alloc HB10.out.size _).drew) : Below w4.heap.size w4 _)))); have HD13 := Lib.hid (((by first | exact (Below.refl _ _) | exact ((Below.refl _ _).alloc (Nat.le_refl _) _)) : Below w5.heap.size w5 _).trans (hb.mono (Below.size ((by first | exact (Below.refl _ _) | exact ((Below.refl _ _).alloc (Nat.le_refl _) _)) : Below w5.heap.size w5 _)))); have HO13 := Lib.hid (show ∀ b, (Value.slice p2a p2b p2c).ownBlock = some b → w4.heap.size ≤ b from fun b hb' => Nat.le_trans (Below.size ((by first | exact HB10.out | exact HB10.out.alloc HB10.out.size _ | exact (HB10.out.alloc HB10.out.size _).drew) : Below w4.heap.size w4 _)) (hr.lt b hb').1); have HR13 := Lib.hid hr; have HQ13 := Lib.hid hb; clear hb hr) | (go_at_call_of 43 cv'; refine (allNames_any cv' (.slice (some ⟨_, 0, none⟩) 3 3) _ mine _ (HS4.out.c.slr.below (by first | exact HB13.out | exact HB13.out.alloc HB13.out.size _ | exact (HB13.out.alloc HB13.out.size _).drew)) (mine_slr (by first | exact heap_alloc_new _ _ | exact (HQ13.out.block _ (by simp)).trans (heap_alloc_new _ _) | exact (HQ13.out.block _ (by have := HQ10.out.size; simp at this ⊢; omega)).trans ((HQ10.out.block _ (by simp)).trans (heap_alloc_new _ _)))) Hl3.out Hz3.out).mono ?_; rintro x w7 ⟨u3, rfl, hb, hr⟩; obtain ⟨p3a, p3b, p3c, hz⟩ := hr.slice; subst hz; have HB17 := Lib.hid (((by first | exact HB13.out | exact HB13.out.alloc HB13.out.size _ | exact (HB13.out.alloc HB13.out.size _).drew) : Below w4.heap.size w4 _).trans (hb.mono (Below.size ((by first | exact HB13.out | exact HB13.out.alloc HB13.out.size _ | exact (HB13.out.alloc HB13.out.size _).drew) : Below w4.heap.size w4 _)))); have HE17 := Lib.hid (((by first | exact (Below.refl _ _) | exact ((Below.refl _ _).alloc (Nat.le_refl _) _)) : Below w6.heap.size w6 _).trans (hb.mono (Below.size ((by first | exact (Below.refl _ _) | exact ((Below.refl _ _).alloc (Nat.le_refl _) _)) : Below w6.heap.size w6 _)))); have HO17 := Lib.hid (show ∀ b, (Value.slice p3a p3b p3c).ownBlock = some b → w4.heap.size ≤ b from fun b hb' => Nat.le_trans (Below.size ((by first | exact HB13.out | exact HB13.out.alloc HB13.out.size _ | exact (HB13.out.alloc HB13.out.size _).drew) : Below w4.heap.size w4 _)) (hr.lt b hb').1); have HR17 := Lib.hid hr; clear hb hr) | (go_at_call 44; refine (HFC.out _ _ _ _ _ _ Hm1.out Hm2.out Hm3.out 1 120 (w.heap.size + 1 + 1) w7 (HS4.out.below.trans (HB17.out.mono HS4.out.below.size)) (by omega) ((HB17.out.block _ zl).trans HS4.out.l) (by omega) (by omega) (by omega) (by omega) (slx HR10.out (HD13.out.trans (HE17.out.mono HD13.out.size)) HO10.out zl) (slx HR13.out HE17.out HO13.out zl) (slx HR17.out (Below.refl _ _) HO17.out zl)).mono ?_; rintro x w8 ⟨rfl, hup, -⟩; have HU := Lib.hid hup; clear hup))
  all_goals go_wp2_with fail
  all_goals go_ret
  all_goals exact ⟨rfl, (HS4.out.below.trans (HB17.out.mono HS4.out.below.size)).trans (HU.out.below _ (HS4.out.below.trans (HB17.out.mono HS4.out.below.size)).size (by intro y hy; simp at hy; omega))⟩
end Go.Proofs.YtnipdjkopmjoeaaGreatDoor
namespace Go.Proofs.YtnipdjkopmjoeaaGreatDoor
open Go.ChangeShapes Go.WideShapes Go.ChangeAt Go.RowKit Go.Fs
theorem FctR.upB {W w : World} {e : FT} {cs : List Value} (hr : FctR W e cs) (hB : Below W.heap.size W w) : FctR w e cs := by
  induction hr with
  | none op n s c path pv a cap h1 h2 h3 h3' hp hl1 hl2 => exact .none op n s c path pv a cap h1 h2 h3 h3' (hp.below hB) hl1 hl2
  | some op n s c path pv ks b off cap cs h1 h2 h3 h3' hp hl1 hl2 h4 h5 hb hc hk ih =>
    exact .some op n s c path pv ks b off cap cs h1 h2 h3 h3' (hp.below hB) hl1 hl2 h4 h5 (Nat.lt_of_lt_of_le hb hB.size) (fun i hi => At.below (hc i hi) hb hB) ih
/-- the specification's answer for a fact -/
def rformF (e : FT) : Bool := facB (psO e) (ssO e) (clO e) e 1 120
set_option maxRecDepth 100000 in
set_option maxHeartbeats 1000000 in
theorem rcheckFact_any (e : FT) (cs : List Value) (w : World) (hr : FctR w e cs) (hbulk : bulkF e ≤ 1099511627776) :
    Calls Tryz.prog 9 #[.agg cs.toArray] w fun x w' => x = .returned (.int .i64 (if rformF e = true then 0 else 2)) ∧ Below w.heap.size w w' := by
  have hf := fun w1 (h : Below w.heap.size w w1) => rfact_any e cs w1 (hr.upB h) hbulk
  have HF := Lib.hid hf; clear hf
  obtain ⟨pv, v, rfl, own, a, cap, rfl⟩ := hr.six
  clear own hr
  cases hb : rformF e with
  | false =>
    have HB := Lib.hid hb; clear hb
    go_enter Tryz.func9, Tryz.ntmps9
    go_wp2_with (go_at_call 19; (refine (HF.out _ (by repeat (first | exact Below.refl _ _ | refine Below.alloc ?_ (by simp; try omega) _ | refine Below.setCell ?_ (by simp; try omega) _ | refine Below.drew ?_))).mono ?_; rintro x w2 ⟨rfl, hbl⟩; rw [show facB (psO e) (ssO e) (clO e) e 1 120 = false from HB.out]))
    go_ret
    exact ⟨rfl, Below.trans (by repeat (first | exact Below.refl _ _ | refine Below.alloc ?_ (by simp; try omega) _ | refine Below.setCell ?_ (by simp; try omega) _ | refine Below.drew ?_)) (hbl.mono (by simp))⟩
  | true =>
    have HB := Lib.hid hb; clear hb
    go_enter Tryz.func9, Tryz.ntmps9
    go_wp2_with (go_at_call 19; (refine (HF.out _ (by repeat (first | exact Below.refl _ _ | refine Below.alloc ?_ (by simp; try omega) _ | refine Below.setCell ?_ (by simp; try omega) _ | refine Below.drew ?_))).mono ?_; rintro x w2 ⟨rfl, hbl⟩; rw [show facB (psO e) (ssO e) (clO e) e 1 120 = true from HB.out]))
    go_ret
    exact ⟨rfl, Below.trans (by repeat (first | exact Below.refl _ _ | refine Below.alloc ?_ (by simp; try omega) _ | refine Below.setCell ?_ (by simp; try omega) _ | refine Below.drew ?_)) (hbl.mono (by simp))⟩
end Go.Proofs.YtnipdjkopmjoeaaGreatDoor
namespace Go.Proofs.YtnipdjkopmjoeaaGreatDoor
open Go.ChangeShapes Go.WideShapes Go.ChangeAt Go.RowKit Go.Fs
mutual
theorem spk_sz : ∀ (f : FT) (left : Int), (sizeF f : Int) ≤ left → (spk f left).2 = left - sizeF f
  | .mk o s p c n ks, left, h => by
    unfold sizeF at h ⊢
    unfold spk
    rw [if_neg (by omega)]
    have := spkL_sz ks (left - 1) (by omega)
    show (spkL ks (left - 1)).2 = _
    omega
theorem spkL_sz : ∀ (ks : List FT) (left : Int), (sizeFL ks : Int) ≤ left → (spkL ks left).2 = left - sizeFL ks
  | [], left, h => by simp [spkL, sizeFL]
  | k :: ks, left, h => by
    unfold sizeFL at h ⊢
    unfold spkL
    have h1 := spk_sz k left (by omega)
    have h2 := spkL_sz ks (spk k left).2 (by omega)
    show (spkL ks (spk k left).2).2 = _
    omega
end
abbrev ShT := Int → ByteArray → List ByteArray → ByteArray → Int → Nat → Bool
def shAt (sh : ShT) (y : FT) : Bool := sh (FT.op y) (FT.name y) (FT.path y) (FT.cls y) (FT.n y) (FT.kids y).length
mutual
theorem okF_spk (sh sh' : ShT) : ∀ (f : FT) (left d : Int), (sizeF f : Int) ≤ left → (∀ y ∈ (spk f left).1, shAt sh y = shAt sh' y) → okF sh d f = okF sh' d f
  | .mk o s p c n ks, left, d, h, hy => by
    unfold sizeF at h
    unfold spk at hy
    rw [if_neg (by omega)] at hy
    have h1 : sh o s p c n ks.length = sh' o s p c n ks.length := hy (.mk o s p c n ks) (by simp)
    have h2 := okFL_spk sh sh' ks (left - 1) (d + 1) (by omega) (fun y m => hy y (by simp [m]))
    simp only [okF]
    rw [h1, h2]
theorem okFL_spk (sh sh' : ShT) : ∀ (ks : List FT) (left d : Int), (sizeFL ks : Int) ≤ left → (∀ y ∈ (spkL ks left).1, shAt sh y = shAt sh' y) → okFL sh d ks = okFL sh' d ks
  | [], left, d, h, hy => by simp [okFL]
  | k :: ks, left, d, h, hy => by
    unfold sizeFL at h
    unfold spkL at hy
    have hz := spk_sz k left (by omega)
    have h1 := okF_spk sh sh' k left d (by omega) (fun y m => hy y (by simp [m]))
    have h2 := okFL_spk sh sh' ks (spk k left).2 d (by omega) (fun y m => hy y (by simp [m]))
    simp only [okFL]
    rw [h1, h2]
end
theorem toList_inj {x y : ByteArray} (h : x.toList = y.toList) : x = y := by
  rcases x with ⟨⟨l⟩⟩
  rcases y with ⟨⟨m⟩⟩
  have : l = m := by simpa using h
  rw [this]
theorem hasB_filter (l : List ByteArray) (x : ByteArray) (h : x ∈ l) : hasB (l.filter nameB) x = nameB x := by
  unfold hasB
  rw [Bool.eq_iff_iff, List.any_eq_true]
  constructor
  · rintro ⟨z, hz, he⟩
    have : z = x := toList_inj (by simpa using he)
    subst this
    exact (List.mem_filter.1 hz).2
  · intro hx
    exact ⟨x, List.mem_filter.2 ⟨h, hx⟩, by simp⟩
theorem psO_has (e y : FT) (h : y ∈ (spk e 120).1) : hasB (psO e) (FT.name y) = nameB (FT.name y) := by
  unfold psO; rw [List.append_nil]; exact hasB_filter _ _ (List.mem_map.2 ⟨y, h, rfl⟩)
theorem ssO_has (e y : FT) (h : y ∈ (spk e 120).1) (x : ByteArray) (hx : x ∈ FT.path y) : hasB (ssO e) x = nameB x := by
  unfold ssO; rw [List.append_nil]; exact hasB_filter _ _ (List.mem_flatMap.2 ⟨y, h, hx⟩)
theorem clO_has (e y : FT) (h : y ∈ (spk e 120).1) : hasB (clO e) (FT.cls y) = sortB (FT.cls y) := by
  unfold clO
  have : hasB (((spk e 120).1.map FT.cls).filter nameB ++ mine) (FT.cls y) = (hasB (((spk e 120).1.map FT.cls).filter nameB) (FT.cls y) || hasB mine (FT.cls y)) := by unfold hasB; rw [List.any_append]
  rw [this, hasB_filter _ _ (List.mem_map.2 ⟨y, h, rfl⟩)]
  have e : hasB mine (FT.cls y) = (eqB (FT.cls y) sAny || eqB (FT.cls y) sInt || eqB (FT.cls y) sNone) := by
    unfold hasB eqB
    show ((sAny.toList == (FT.cls y).toList) || ((sInt.toList == (FT.cls y).toList) || ((sNone.toList == (FT.cls y).toList) || false))) = _
    have hc : ∀ a b : List UInt8, (a == b) = (b == a) := fun a b => by rw [Bool.eq_iff_iff]; simp only [beq_iff_eq]; exact eq_comm
    rw [hc sAny.toList, hc sInt.toList, hc sNone.toList, Bool.or_false, Bool.or_assoc]
  rw [e]
  unfold sortB
  rw [Bool.or_comm]
theorem sh_same (e y : FT) (h : y ∈ (spk e 120).1) : shAt (rfS (psO e) (ssO e) (clO e)) y = shAt shFct y := by
  have h1 := psO_has e y h
  have h2 := ssO_has e y h
  have h3 := clO_has e y h
  have h4 : (FT.path y).all (hasB (ssO e)) = (FT.path y).all nameB := by
    rw [Bool.eq_iff_iff, List.all_eq_true, List.all_eq_true]
    exact ⟨fun q x hx => by rw [← h2 x hx]; exact q x hx, fun q x hx => by rw [h2 x hx]; exact q x hx⟩
  unfold shAt rfS headB shFct rowF clsB pthB pathB
  rw [h1, h3, h4]
  clear h1 h2 h3 h4 h
  have f1 : FT.n y = 0 → numB (FT.n y) = true := fun e => by rw [e]; rfl
  have f2 : sortB (FT.cls y) = true → (FT.cls y).toList.isEmpty = false := fun e => by
    cases hx : (FT.cls y).toList.isEmpty with
    | false => rfl
    | true =>
      have hx : (FT.cls y).toList = [] := by simpa using hx
      have hz : FT.cls y = ⟨#[]⟩ := toList_inj (by rw [hx]; simp)
      rw [hz] at e
      simp [sortB, eqB, sAny, sInt, sNone, nameB] at e
      exact absurd e.1.1.1 (by decide)
  have f3 : (((FT.path y).length : Nat) : Int) = 0 → (FT.path y).all nameB = true := fun e => by
    rw [List.length_eq_zero_iff.1 (by omega : (FT.path y).length = 0)]; rfl
  generalize (FT.path y).all nameB = b1 at *
  generalize sortB (FT.cls y) = b2 at *
  generalize (FT.cls y).toList.isEmpty = b3 at *
  generalize numB (FT.n y) = b4 at *
  generalize nameB (FT.name y) = b5 at *
  generalize (FT.name y).toList.isEmpty = b6 at *
  generalize fKid (FT.op y) = kk at *
  cases fPth (FT.op y) <;> cases fCls (FT.op y) <;> cases fNum (FT.op y) <;> simp only [if_true, if_false, Bool.false_eq_true, Bool.true_and, Bool.false_and, Bool.or_false] <;> rw [Bool.eq_iff_iff] <;> simp only [Bool.and_eq_true, Bool.or_eq_true, decide_eq_true_eq, Bool.not_eq_true'] <;> grind
theorem rformF_eq (e : FT) : rformF e = formF e := by
  unfold rformF formF facB
  by_cases hs : (sizeF e : Int) ≤ 120
  · rw [okF_spk (rfS (psO e) (ssO e) (clO e)) shFct e 120 1 hs (sh_same e)]
  · rw [decide_eq_false hs, Bool.and_false, Bool.and_false]
end Go.Proofs.YtnipdjkopmjoeaaGreatDoor
namespace Go.Proofs.YtnipdjkopmjoeaaGreatDoor
open Go.ChangeShapes Go.WideShapes Go.ChangeAt Go.RowKit Go.Fs
variable {H : Type} {enc : TypeId × Value → H} {W : World} {spare : Nat → Bool} {held : Bool}
theorem bulk_one (d : DataW H) : 1 ≤ Rows.uptoBulk d := by
  cases d with
  | lit l => cases l <;> simp [Rows.uptoBulk]
  | nil => simp [Rows.uptoBulk]
  | ptr d => simp [Rows.uptoBulk]
  | slice elems spare => simp [Rows.uptoBulk]
  | agg parts => simp [Rows.uptoBulk]
  | iface t d => simp [Rows.uptoBulk]
  | map entries => simp [Rows.uptoBulk]
  | held h => simp [Rows.uptoBulk]
theorem bulk_len : ∀ (l : List (DataW H)), l.length ≤ Rows.uptoBulkAll l
  | [] => by simp [Rows.uptoBulkAll]
  | x :: l => by have := bulk_one x; have := bulk_len l; simp only [Rows.uptoBulkAll, List.length_cons]; omega
/-- kids one by one: their bulk is at most that of what they read as -/
theorem bulk_kids : ∀ (ks : List FT) (xs : List (DataW H)), ks.length = xs.length → (∀ (i : Nat) (k : FT) (x : DataW H), ks[i]? = some k → xs[i]? = some x → bulkF k ≤ Rows.uptoBulk x) → bulkFL ks ≤ Rows.uptoBulkAll xs
  | [], _, _, _ => by simp [bulkFL]
  | k :: ks, [], h, _ => by simp at h
  | k :: ks, x :: xs, h, hh => by
    have h0 := hh 0 k x rfl rfl
    have h1 := bulk_kids ks xs (by simpa using h) (fun i k x h1 h2 => hh (i + 1) k x (by simpa using h1) (by simpa using h2))
    simp only [bulkFL, Rows.uptoBulkAll]; omega
set_option maxRecDepth 100000 in
theorem open_pathB {n : Nat} {cs : List Value} {x : DataW H × List MemPlace} (h : DataW.trod enc Tryz.prog W 0 spare held n 27 cs = some x) : ∃ v path, cs = [v] ∧ SlR W v path ∧ path.length ≤ maxLen ∧ (∀ s ∈ path, s.size ≤ maxLen) ∧ path.length + 1 ≤ Rows.uptoBulk x.1 := by
  rcases open_strings Tryz.underlying27 Tryz.underlying9 cellsOf_str h with ⟨hcs, hx⟩ | ⟨a, len, cap, ss, hcs, _, hl, hm, hz, hx, hcell, hws⟩
  · exact ⟨_, [], hcs, .inl ⟨_, _, rfl, rfl⟩, Nat.zero_le _, fun _ h => (by cases h), (by rw [hx]; simp [Rows.uptoBulk])⟩
  · have hlen' : len ≤ ss.length := by rw [hz]; split <;> omega
    have hlen : (ss.take len).length = len := by rw [List.length_take]; omega
    by_cases hl0 : len = 0
    · subst hl0
      exact ⟨_, [], hcs, .inl ⟨_, _, rfl, rfl⟩, Nat.zero_le _, fun _ h => (by cases h), (by rw [hx]; simp only [Rows.uptoBulk, List.length_nil]; omega)⟩
    · obtain ⟨b, off, spot⟩ := a
      have hspot : spot = none := by simpa [Addr.add] using World.cell?_spot (hcell 0 (by omega))
      subst hspot
      have hbk : (ss.take len).length + 1 ≤ Rows.uptoBulk x.1 := by
        have := bulk_len (strs (H := H) (ss.take len))
        simp only [strs, List.length_map] at this
        rw [hx]; simp only [Rows.uptoBulk, strs]; omega
      refine ⟨_, ss.take len, hcs, .inr ⟨b, off, cap, by rw [hlen], fun i s hi => ?_⟩, by rw [hlen]; omega, fun s hs => hws s (List.mem_of_mem_take hs), hbk⟩
      have hi' : i < len := by
        rcases Nat.lt_or_ge i len with h | h
        · exact h
        · rw [List.getElem?_eq_none (by rw [hlen]; exact h)] at hi; cases hi
      have hx : ss[i]? = some s := by rw [List.getElem?_take, if_pos hi'] at hi; exact hi
      have := hcell i (by omega)
      rw [WideShapes.add_plain] at this
      rw [this, List.getD, hx]; rfl
set_option maxRecDepth 100000 in
theorem open_factB : ∀ (fuel : Nat) (cs : List Value) (x : DataW H × List MemPlace), DataW.trod enc Tryz.prog W 0 spare held fuel 30 cs = some x → ∃ e, FctR W e cs ∧ bulkF e ≤ Rows.uptoBulk x.1 := by
  intro fuel
  induction fuel using Nat.strongRecOn with
  | _ fuel ih =>
    intro cs x h
    obtain ⟨xs, n, rfl, rfl, hl, hxl, hm⟩ := DataW.trod_struct Tryz.underlying30 h
    rw [cellsOf_fact] at hl
    have hxl : xs.length = 6 := hxl
    match cs, hl with
    | [c0, c1, c2, c3, c4, c5], _ =>
      have m0 : DataW.trod enc Tryz.prog W 0 spare held n 26 [c0] = xs[0]? := by
        have h : DataW.trod enc Tryz.prog W 0 spare held n 26 (List.take (Tryz.prog.cellsOf 26) (List.drop 0 [c0, c1, c2, c3, c4, c5])) = xs[0]? := hm 0 _ rfl
        rw [cellsOf_fop] at h; exact h
      have m1 : DataW.trod enc Tryz.prog W 0 spare held n 9 [c1] = xs[1]? := by
        have h : DataW.trod enc Tryz.prog W 0 spare held n 9 (List.take (Tryz.prog.cellsOf 9) (List.drop 1 [c0, c1, c2, c3, c4, c5])) = xs[1]? := hm 1 _ rfl
        rw [cellsOf_str] at h; exact h
      have m2 : DataW.trod enc Tryz.prog W 0 spare held n 27 [c2] = xs[2]? := by
        have h : DataW.trod enc Tryz.prog W 0 spare held n 27 (List.take (Tryz.prog.cellsOf 27) (List.drop 2 [c0, c1, c2, c3, c4, c5])) = xs[2]? := hm 2 _ rfl
        rw [cellsOf_strs] at h; exact h
      have m3 : DataW.trod enc Tryz.prog W 0 spare held n 9 [c3] = xs[3]? := by
        have h : DataW.trod enc Tryz.prog W 0 spare held n 9 (List.take (Tryz.prog.cellsOf 9) (List.drop 3 [c0, c1, c2, c3, c4, c5])) = xs[3]? := hm 3 _ rfl
        rw [cellsOf_str] at h; exact h
      have m4 : DataW.trod enc Tryz.prog W 0 spare held n 3 [c4] = xs[4]? := by
        have h : DataW.trod enc Tryz.prog W 0 spare held n 3 (List.take (Tryz.prog.cellsOf 3) (List.drop 4 [c0, c1, c2, c3, c4, c5])) = xs[4]? := hm 4 _ rfl
        rw [cellsOf_int] at h; exact h
      have m5 : DataW.trod enc Tryz.prog W 0 spare held n 28 [c5] = xs[5]? := by
        have h : DataW.trod enc Tryz.prog W 0 spare held n 28 (List.take (Tryz.prog.cellsOf 28) (List.drop 5 [c0, c1, c2, c3, c4, c5])) = xs[5]? := hm 5 _ rfl
        rw [cellsOf_facts] at h; exact h
      obtain ⟨y0, m0⟩ := one_of m0 (by omega)
      obtain ⟨y1, m1⟩ := one_of m1 (by omega)
      have r2 : xs[2]? = some (xs[2]'(by omega)) := List.getElem?_eq_getElem _
      generalize xs[2]'(by omega) = y2 at r2
      have m2 := m2.trans r2
      obtain ⟨y3, m3⟩ := one_of m3 (by omega)
      obtain ⟨y4, m4⟩ := one_of m4 (by omega)
      have r5 : xs[5]? = some (xs[5]'(by omega)) := List.getElem?_eq_getElem _
      generalize xs[5]'(by omega) = y5 at r5
      have m5 := m5.trans r5
      obtain ⟨op, h0, _, w0⟩ := DataW.trod_int Tryz.underlying26 m0
      obtain ⟨s, h1, _, w1⟩ := DataW.trod_string Tryz.underlying9 m1
      obtain ⟨pv, path, h2, hp, hp1, hp2, hb2⟩ := open_pathB m2
      obtain ⟨c, h3, _, w3⟩ := DataW.trod_string Tryz.underlying9 m3
      obtain ⟨nn, h4, _, w4⟩ := DataW.trod_int Tryz.underlying3 m4
      cases h0; cases h1; cases h2; cases h3; cases h4
      have hsum : ∀ ks : List FT, bulkFL ks + 1 ≤ Rows.uptoBulk y5.1 → bulkF (.mk op s path c nn ks) ≤ Rows.uptoBulk (DataW.agg (xs.map (·.1))) := by
        intro ks hk5
        match xs, hxl, r2, r5 with
        | [a0, a1, a2, a3, a4, a5], _, r2, r5 =>
          have e2 : a2 = y2 := Option.some.inj r2
          have e5 : a5 = y5 := Option.some.inj r5
          subst e2; subst e5
          simp only [List.map_cons, List.map_nil, Rows.uptoBulk, Rows.uptoBulkAll, bulkF]; omega
      rcases DataW.trod_slice Tryz.underlying28 m5 with ⟨h5, hy5⟩ | ⟨a, len, cap, elems, rest, k, hk, h5, hy5, _, hlc, hcm, hel, he, _, _⟩
      · cases h5
        exact ⟨_, .none op nn s c path c2 none 0 (bounds_i64 w0) (bounds_i64 w4) w1 w3 hp hp1 hp2, hsum [] (by rw [hy5]; simp [Rows.uptoBulk, bulkFL])⟩
      · cases h5
        rw [cellsOf_fact] at he
        by_cases hz : len = 0
        · subst hz
          exact ⟨_, .none op nn s c path c2 (some a) cap (bounds_i64 w0) (bounds_i64 w4) w1 w3 hp hp1 hp2, hsum [] (by rw [hy5]; simp only [Rows.uptoBulk, bulkFL]; omega)⟩
        · have hex : ∀ i, ∃ (cs : List Value) (e : FT), i < len → W.cells? 0 (a.add (i * 6)) 6 = some cs ∧ FctR W e cs ∧ ∀ y, elems[i]? = some y → bulkF e ≤ Rows.uptoBulk y.1 := by
            intro i
            by_cases hi : i < len
            · have hb := he i hi
              rw [List.getElem?_eq_getElem (by omega)] at hb
              obtain ⟨cs, hc1, hc2⟩ := Option.bind_eq_some_iff.1 hb
              obtain ⟨e, hee, hbe⟩ := ih k (by omega) cs _ hc2
              exact ⟨cs, e, fun _ => ⟨hc1, hee, fun y hy => by rw [List.getElem?_eq_getElem (by omega)] at hy; obtain rfl := Option.some.inj hy; exact hbe⟩⟩
            · exact ⟨[], .mk 0 ⟨#[]⟩ [] ⟨#[]⟩ 0 [], fun h => absurd h hi⟩
          obtain ⟨f, hf⟩ := Classical.axiomOfChoice hex
          obtain ⟨g, hg⟩ := Classical.axiomOfChoice hf
          obtain ⟨b, o, sp⟩ := a
          have hA := fun i hi => cells_at (hg i hi).1 (by omega)
          have hsp : sp = none := by
            have := (hA 0 (by omega)).1
            simpa [Addr.add] using this
          subst hsp
          have hlen : ((List.range len).map g).length = len := by simp
          have := FctR.some (W := W) op nn s c path c2 ((List.range len).map g) b o cap f (bounds_i64 w0) (bounds_i64 w4) w1 w3 hp hp1 hp2 (by rw [hlen]; omega) (by rw [hlen]; omega) (by have := (hA 0 (by omega)).2.1; rw [WideShapes.add_plain] at this; exact this) (fun i hi => by
            rw [hlen] at hi
            have := (hA i hi).2.2.2
            rw [WideShapes.add_plain] at this; exact this) (fun i k hk => by
            have hi : i < len := by rw [← hlen]; exact (List.getElem?_eq_some_iff.1 hk).1
            have : g i = k := by simpa [hi] using hk
            rw [← this]; exact (hg i hi).2.1)
          rw [hlen] at this
          refine ⟨_, this, hsum _ ?_⟩
          rw [hy5]
          have := bulk_kids ((List.range len).map g) (elems.map (·.1)) (by simp [hel]) (fun i k x h1 h2 => by
            have hi : i < len := by rw [← hlen]; exact (List.getElem?_eq_some_iff.1 h1).1
            have hgk : g i = k := by simpa [hi] using h1
            rw [List.getElem?_map] at h2
            obtain ⟨y, hy, rfl⟩ := Option.map_eq_some_iff.1 h2
            rw [← hgk]; exact (hg i hi).2.2 y hy)
          simp only [Rows.uptoBulk]; omega
end Go.Proofs.YtnipdjkopmjoeaaGreatDoor
