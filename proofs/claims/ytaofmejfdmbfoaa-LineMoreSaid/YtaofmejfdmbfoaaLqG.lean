/-
  Merges of lists, and the linear orders of a class graph, as lists of numbers. No condition.
-/
import Derived.Test.YtaofmejfdmbfoaaLhG
namespace Go.Ln
/-- the law's marks: so many classes downwards from c, and any is marked -/
def mkE (g : Gr) (c : Nat) : Nat → Nat
  | 0 => 1 ||| 2 ^ c
  | k + 1 => mk1 g (mkE g c k) (c - k)
theorem mkE_bit (g : Gr) (c x : Nat) : ∀ k, k ≤ c - 2 → (mkE g c k).testBit x = (decide (x = 0) || (mkD g c k).testBit x)
  | 0, _ => by
    unfold mkE mkD
    rw [Nat.testBit_or]
    congr 1
    rw [show (1 : Nat) = 2 ^ 0 by rfl, Nat.testBit_two_pow]; simp [eq_comm]
  | k + 1, hk => by
    unfold mkE mkD
    rw [mk1_bit, mk1_bit, mkE_bit g c x k (by omega), mkE_bit g c (c - k) k (by omega), decide_eq_false (show ¬ c - k = 0 by omega), Bool.false_or, Bool.or_assoc]
theorem mkE_end {g : Gr} (hg : goodB g = true) (c : Nat) (hc : c < 3 + g.length) (x : Nat) : (mkE g c (c - 2)).testBit x = aboveB g c x := by
  rw [mkE_bit g c x _ (Nat.le_refl _)]
  obtain ⟨i1, i2⟩ := mkD_inv hg c hc (c - 2) (by omega)
  rw [Bool.eq_iff_iff, Bool.or_eq_true, decide_eq_true_eq]
  constructor
  · rintro (h | h)
    · exact (above_iff hg hc).2 (.inl h)
    · exact i1 x h
  · intro h
    by_cases hx : x = 0
    · exact .inl hx
    · rcases i2 x hx h with h1 | ⟨y, hy, h1, h2⟩
      · exact .inr h1
      · rcases (above_iff hg (by omega)).1 h2 with h3 | h3 | ⟨p, hp, _⟩
        · exact absurd h3 hx
        · subst h3; exact .inr h1
        · rw [par_small g y (by omega)] at hp; cases hp
end Go.Ln
namespace Go.Ln
theorem bel_refl {g : Gr} (hg : goodB g = true) (c : Nat) (hc : c < 3 + g.length) : belowR g c c = true := by
  rw [belowR_eq hg c c hc]; exact (above_iff hg hc).2 (.inr (.inl rfl))
theorem bel_trans {g : Gr} (hg : goodB g = true) {a b c : Nat} (ha : a < 3 + g.length) (hb : b < 3 + g.length) (h1 : belowR g a b = true) (h2 : belowR g b c = true) : belowR g a c = true := by
  rw [belowR_eq hg a b ha] at h1
  rw [belowR_eq hg b c hb] at h2
  rw [belowR_eq hg a c ha]
  exact above_trans hg a ha b c h1 h2
theorem over_up {g : Gr} (hg : goodB g = true) {l : List Int} (hl : ∀ c ∈ l, ∃ n : Nat, c = (n : Int) ∧ n < 3 + g.length) {b c : Nat} (hb : b < 3 + g.length) (ho : overB g l b = true) (h : belowR g b c = true) : overB g l c = true := by
  unfold overB at ho ⊢
  rw [List.all_eq_true] at ho ⊢
  intro x hx
  obtain ⟨n, rfl, hn⟩ := hl x hx
  have := ho _ hx
  rw [Int.toNat_natCast] at this ⊢
  exact bel_trans hg hn hb this h
theorem least_ex {g : Gr} (hg : goodB g = true) (l : List Int) : ∀ (m x : Nat), x < 3 + g.length → (if x = 0 then 4 + g.length else 3 + g.length - x) ≤ m → overB g l x = true → ∃ c, c < 3 + g.length ∧ leastB g l c = true ∧ belowR g c x = true
  | 0, x, hx, hm, _ => by
    exfalso
    split at hm <;> omega
  | m + 1, x, hx, hm, ho => by
    cases hl : leastB g l x with
    | true => exact ⟨x, hx, hl, bel_refl hg x hx⟩
    | false =>
      unfold leastB at hl
      rw [ho, Bool.true_and] at hl
      obtain ⟨y, hy, hyf⟩ : ∃ y, y ∈ List.range (3 + g.length) ∧ (decide (y = x) || !(overB g l y && belowR g y x)) = false := by
        by_cases h : ∀ y ∈ List.range (3 + g.length), (decide (y = x) || !(overB g l y && belowR g y x)) = true
        · rw [List.all_eq_true.2 h] at hl; cases hl
        · obtain ⟨y, h1⟩ := Classical.not_forall.1 h
          obtain ⟨h2, h3⟩ := Classical.not_imp.1 h1
          exact ⟨y, h2, by simpa using h3⟩
      have hyn := List.mem_range.1 hy
      simp only [Bool.or_eq_false_iff, decide_eq_false_iff_not, Bool.not_eq_false', Bool.and_eq_true] at hyf
      obtain ⟨hne, hoy, hyx⟩ := hyf
      have hle := hyx
      rw [belowR_eq hg y x hyn] at hle
      have hcase := above_le hg y x hyn hle
      obtain ⟨c, h1, h2, h3⟩ := least_ex hg l m y hyn (by
        split at hm
        · rename_i h0; subst h0; rw [if_neg (by omega)]; omega
        · rename_i h0
          rw [if_neg (by omega)]; omega) hoy
      exact ⟨c, h1, h2, bel_trans hg h1 hyn h3 hyx⟩
theorem least_over {g : Gr} {l : List Int} {c : Nat} (h : leastB g l c = true) : overB g l c = true := by
  unfold leastB at h
  simp only [Bool.and_eq_true] at h
  exact h.1
theorem over_any {g : Gr} (hg : goodB g = true) {l : List Int} (hl : ∀ c ∈ l, ∃ n : Nat, c = (n : Int) ∧ n < 3 + g.length) (b : Nat) (hb : b < 3 + g.length) : (listF (leastB g l) (3 + g.length)).any (fun c => belowR g c.toNat b) = overB g l b := by
  rw [Bool.eq_iff_iff, List.any_eq_true]
  constructor
  · rintro ⟨x, hx, h⟩
    obtain ⟨c, rfl, hc, hp⟩ := listF_mem hx
    rw [Int.toNat_natCast] at h
    exact over_up hg hl hc (least_over hp) h
  · intro h
    obtain ⟨c, h1, h2, h3⟩ := least_ex hg l (4 + g.length) b hb (by split <;> omega) h
    exact ⟨(c : Int), by rw [listF]; simp only [List.mem_map, List.mem_filter, List.mem_range]; exact ⟨c, ⟨h1, h2⟩, rfl⟩, by simpa using h3⟩
theorem none_below {g : Gr} {l : List Int} (b : Nat) (h : leastB g l b = true) : (listF (leastB g l) (3 + g.length)).any (fun c => decide (c.toNat ≠ b) && belowR g c.toNat b) = false := by
  rw [Bool.eq_false_iff]
  intro hh
  obtain ⟨x, hx, h1⟩ := List.any_eq_true.1 hh
  obtain ⟨c, rfl, hc, hp⟩ := listF_mem hx
  simp only [Int.toNat_natCast, Bool.and_eq_true, decide_eq_true_eq] at h1
  unfold leastB at h
  simp only [Bool.and_eq_true, List.all_eq_true] at h
  have := h.2 c (List.mem_range.2 hc)
  rw [least_over hp, h1.2, decide_eq_false h1.1] at this
  cases this
theorem memF (p : Nat → Bool) (n b : Nat) (hb : b < n) : decide ((b : Int) ∈ listF p n) = p b := by
  rw [Bool.eq_iff_iff, decide_eq_true_eq]
  constructor
  · intro h
    obtain ⟨c, h1, _, h3⟩ := listF_mem h
    have : b = c := by omega
    rw [this]; exact h3
  · intro h
    rw [listF]; simp only [List.mem_map, List.mem_filter, List.mem_range]
    exact ⟨b, ⟨hb, h⟩, rfl⟩
theorem listF_up (p : Nat → Bool) (n : Nat) : ∀ (k : Nat) (x y : Int), (listF p n)[k]? = some x → (listF p n)[k + 1]? = some y → x ≤ y := by
  intro k x y hx hy
  have hs : (listF p n).Pairwise (· ≤ ·) := by
    unfold listF
    exact List.Pairwise.map _ (fun a b h => by have : a < b := h; omega) (List.Pairwise.filter _ List.pairwise_lt_range)
  obtain ⟨h1, rfl⟩ := List.getElem?_eq_some_iff.1 hx
  obtain ⟨h2, rfl⟩ := List.getElem?_eq_some_iff.1 hy
  exact List.pairwise_iff_getElem.1 hs k (k + 1) h1 h2 (by omega)
theorem any_not (l : List Int) (p : Int → Bool) : (l.any fun c => !p c) = !(l.all p) := by
  induction l with
  | nil => rfl
  | cons x l ih => rw [List.any_cons, List.all_cons, ih, Bool.not_and]
end Go.Ln
namespace Go.Ln
/-- where a number stands first in a list; -1: nowhere -/
def placeI (l : List Int) (n : Int) : Int := if n ∈ l then (l.idxOf n : Int) else -1
theorem placeI_at {l : List Int} {n : Int} {k : Nat} (h : l[k]? = some n) (hn : n ∉ l.take k) : placeI l n = k := by
  unfold placeI
  rw [if_pos (List.mem_of_getElem? h)]
  have hs := take_splitI l k n h
  have hk : (l.take k).length = k := by
    obtain ⟨h1, _⟩ := List.getElem?_eq_some_iff.1 h
    rw [List.length_take]; omega
  have : l.idxOf n = k := by
    conv => lhs; rw [hs]
    rw [List.idxOf_append, if_neg hn, List.idxOf_cons_self, hk]; simp
  rw [this]
theorem placeI_none {l : List Int} {n : Int} (hn : n ∉ l) : placeI l n = -1 := by
  unfold placeI; rw [if_neg hn]
/-- a list without a number -/
def withoutL (l : List Int) (n : Int) : List Int := l.filter fun x => decide (x ≠ n)
theorem withoutL_snoc (l : List Int) (n : Int) (k : Nat) (x : Int) (h : l[k]? = some x) : withoutL (l.take (k + 1)) n = withoutL (l.take k) n ++ (if x = n then [] else [x]) := by
  unfold withoutL
  rw [take_snocI l k x h, List.filter_append]
  congr 1
  by_cases e : x = n <;> simp [e]
end Go.Ln
namespace Go.Ln
/-- a class stands in no list behind its head -/
def freeB (all : Gr) (c : Int) : Bool := all.all fun l => decide (c ∉ l.tail)
/-- the first head that is free -/
def nextO (all : Gr) : Option Int := (all.filterMap List.head?).find? (freeB all)
def wipe (all : Gr) (c : Int) : Gr := all.map fun l => withoutL l c
def emptyAll (all : Gr) : Bool := all.all List.isEmpty
def tot (all : Gr) : Nat := (all.map List.length).foldr (· + ·) 0
theorem tot_cons (l : List Int) (all : Gr) : tot (l :: all) = l.length + tot all := rfl
theorem tot_mem {all : Gr} {l : List Int} (h : l ∈ all) : l.length ≤ tot all := by
  induction all with
  | nil => cases h
  | cons x all ih =>
    rw [tot_cons]
    rcases List.mem_cons.1 h with rfl | h
    · omega
    · have := ih h; omega
theorem withoutL_le (l : List Int) (c : Int) : (withoutL l c).length ≤ l.length := List.length_filter_le _ _
theorem withoutL_lt {l : List Int} {c : Int} (h : c ∈ l) : (withoutL l c).length < l.length := by
  induction l with
  | nil => cases h
  | cons x l ih =>
    unfold withoutL
    by_cases e : x = c
    · subst e
      rw [List.filter_cons_of_neg (by simp)]
      have := withoutL_le l x
      unfold withoutL at this
      rw [List.length_cons]; omega
    · rw [List.filter_cons_of_pos (by simp [e])]
      have := ih (by rcases List.mem_cons.1 h with h | h; exact absurd h.symm e; exact h)
      unfold withoutL at this
      rw [List.length_cons, List.length_cons]; omega
theorem tot_wipe_le (all : Gr) (c : Int) : tot (wipe all c) ≤ tot all := by
  induction all with
  | nil => exact Nat.le_refl _
  | cons x all ih =>
    have := withoutL_le x c
    show (withoutL x c).length + tot (wipe all c) ≤ x.length + tot all
    omega
theorem tot_wipe_lt {all : Gr} {c : Int} (h : ∃ l ∈ all, c ∈ l) : tot (wipe all c) < tot all := by
  induction all with
  | nil => obtain ⟨_, h, _⟩ := h; cases h
  | cons x all ih =>
    show (withoutL x c).length + tot (wipe all c) < x.length + tot all
    by_cases e : c ∈ x
    · have := withoutL_lt e
      have := tot_wipe_le all c
      omega
    · have := ih (by
        obtain ⟨l, hl, hc⟩ := h
        rcases List.mem_cons.1 hl with rfl | hl
        · exact absurd hc e
        · exact ⟨l, hl, hc⟩)
      have := withoutL_le x c
      omega
theorem nextO_mem {all : Gr} {c : Int} (h : nextO all = some c) : freeB all c = true ∧ ∃ l ∈ all, c ∈ l := by
  unfold nextO at h
  have h1 := List.find?_some h
  have h2 := List.mem_of_find?_eq_some h
  obtain ⟨l, hl, hc⟩ := List.mem_filterMap.1 h2
  exact ⟨h1, l, hl, List.mem_of_mem_head? hc⟩
def mergeF : Nat → Gr → Option (List Int)
  | 0, _ => none
  | n + 1, all => match nextO all with
    | none => if emptyAll all = true then some [] else none
    | some c => (mergeF n (wipe all c)).map (c :: ·)
def mergeL (all : Gr) : Option (List Int) := mergeF (tot all + 1) all
theorem mergeF_more : ∀ (n m : Nat) (all : Gr), tot all < n → tot all < m → mergeF n all = mergeF m all
  | 0, _, _, h, _ => absurd h (by omega)
  | _, 0, _, _, h => absurd h (by omega)
  | n + 1, m + 1, all, hn, hm => by
    unfold mergeF
    cases h : nextO all with
    | none => rfl
    | some c =>
      have := tot_wipe_lt (nextO_mem h).2
      simp only
      rw [mergeF_more n m (wipe all c) (by omega) (by omega)]
theorem mergeL_none {all : Gr} (h : nextO all = none) : mergeL all = if emptyAll all = true then some [] else none := by
  unfold mergeL mergeF; rw [h]
theorem mergeL_some {all : Gr} {c : Int} (h : nextO all = some c) : mergeL all = (mergeL (wipe all c)).map (c :: ·) := by
  have := tot_wipe_lt (nextO_mem h).2
  conv => lhs; unfold mergeL mergeF
  rw [h]
  simp only
  rw [mergeF_more (tot all) (tot (wipe all c) + 1) (wipe all c) (by omega) (by omega)]
  rfl
theorem wipe_mem {all : Gr} {c x : Int} : (∃ l ∈ wipe all c, x ∈ l) ↔ x ≠ c ∧ ∃ l ∈ all, x ∈ l := by
  unfold wipe withoutL
  constructor
  · rintro ⟨l, hl, hx⟩
    obtain ⟨k, hk, rfl⟩ := List.mem_map.1 hl
    rw [List.mem_filter] at hx
    exact ⟨by simpa using hx.2, k, hk, hx.1⟩
  · rintro ⟨h1, k, hk, hx⟩
    exact ⟨_, List.mem_map.2 ⟨k, hk, rfl⟩, List.mem_filter.2 ⟨hx, by simpa using h1⟩⟩
theorem mergeF_mem : ∀ (n : Nat) (all : Gr) (m : List Int), mergeF n all = some m → m.Nodup ∧ ∀ x, x ∈ m ↔ ∃ l ∈ all, x ∈ l
  | 0, _, _, h => by cases h
  | n + 1, all, m, h => by
    unfold mergeF at h
    cases hn : nextO all with
    | none =>
      rw [hn] at h
      simp only at h
      by_cases he : emptyAll all = true
      · rw [if_pos he] at h
        cases h
        refine ⟨List.nodup_nil, fun x => ⟨fun h => by simp at h, fun ⟨l, hl, hx⟩ => ?_⟩⟩
        have := List.all_eq_true.1 he l hl
        rw [List.isEmpty_iff] at this
        subst this
        cases hx
      · rw [if_neg he] at h; cases h
    | some c =>
      rw [hn] at h
      simp only at h
      obtain ⟨m', hm', rfl⟩ := Option.map_eq_some_iff.1 h
      obtain ⟨i1, i2⟩ := mergeF_mem n _ _ hm'
      refine ⟨List.nodup_cons.2 ⟨fun h => ((wipe_mem.1 ((i2 c).1 h)).1 rfl), i1⟩, fun x => ?_⟩
      rw [List.mem_cons, i2 x, wipe_mem]
      constructor
      · rintro (rfl | ⟨_, h⟩)
        · exact (nextO_mem hn).2
        · exact h
      · intro h
        by_cases e : x = c
        · exact .inl e
        · exact .inr ⟨e, h⟩
theorem mergeL_mem {all : Gr} {m : List Int} (h : mergeL all = some m) : m.Nodup ∧ ∀ x, x ∈ m ↔ ∃ l ∈ all, x ∈ l := mergeF_mem _ _ _ h
theorem nodup_len {m : List Int} {n : Nat} (h : m.Nodup) (hm : ∀ x ∈ m, 0 ≤ x ∧ x < (n : Int)) : m.length ≤ n := by
  have := h.length_le_of_subset (l₂ := (List.range n).map (fun k : Nat => (k : Int))) (fun x hx => by
    have := hm x hx
    exact List.mem_map.2 ⟨x.toNat, List.mem_range.2 (by omega), by omega⟩)
  simpa using this
/-- the linear order of a class, by those ahead of it; empty: it has none -/
def stepO (acc : Gr) (l : List Int) : List Int :=
  if acc.length = 0 then [0] else
  if l.any (fun p => (acc.getD p.toNat []).isEmpty) = true then [] else
  match mergeL (l.map (fun p => (acc.getD p.toNat []).dropLast) ++ [l]) with
  | some m => (acc.length : Int) :: (m ++ [0])
  | none => []
def ordF (ps : Gr) : Gr := ps.foldl (fun acc l => acc ++ [stepO acc l]) []
theorem ordF_snoc (ps : Gr) (l : List Int) : ordF (ps ++ [l]) = ordF ps ++ [stepO (ordF ps) l] := by simp [ordF]
theorem ordF_length (ps : Gr) : (ordF ps).length = ps.length := by
  have : ∀ (ps : Gr) (acc : Gr), (ps.foldl (fun acc l => acc ++ [stepO acc l]) acc).length = acc.length + ps.length := by
    intro ps
    induction ps with
    | nil => intro acc; simp
    | cons l ps ih => intro acc; rw [List.foldl_cons, ih]; simp; omega
  simpa [ordF] using this ps []
theorem ordF_take (ps : Gr) (k : Nat) (l : List Int) (h : ps[k]? = some l) : ordF (ps.take (k + 1)) = ordF (ps.take k) ++ [stepO (ordF (ps.take k)) l] := by
  obtain ⟨hk, rfl⟩ := List.getElem?_eq_some_iff.1 h
  rw [List.take_succ_eq_append_getElem hk, ordF_snoc]
theorem ordF_prefix : ∀ (ps : Gr) (acc : Gr), ∃ t, ps.foldl (fun acc l => acc ++ [stepO acc l]) acc = acc ++ t
  | [], acc => ⟨[], by simp⟩
  | l :: ps, acc => by
    obtain ⟨t, ht⟩ := ordF_prefix ps (acc ++ [stepO acc l])
    exact ⟨[stepO acc l] ++ t, by rw [List.foldl_cons, ht]; simp⟩
theorem ordF_getD_take (ps : Gr) (k j : Nat) (hj : j < k) (hk : k ≤ ps.length) : (ordF (ps.take k)).getD j [] = (ordF ps).getD j [] := by
  obtain ⟨t, ht⟩ := ordF_prefix (ps.drop k) (ordF (ps.take k))
  have e : ordF ps = ordF (ps.take k) ++ t := by
    rw [← ht]
    show ordF ps = (ps.drop k).foldl (fun acc l => acc ++ [stepO acc l]) ((ps.take k).foldl (fun acc l => acc ++ [stepO acc l]) [])
    rw [← List.foldl_append, List.take_append_drop]; rfl
  have hl : j < (ordF (ps.take k)).length := by rw [ordF_length, List.length_take]; omega
  rw [e, List.getD, List.getD, List.getElem?_append_left hl]
def linO (g : Gr) (c : Nat) : List Int := (ordF (pars g)).getD c []
/-- the lists of a class -/
def listsO (g : Gr) (c : Nat) : Gr := (par g c).map (fun p => (linO g p.toNat).dropLast) ++ [par g c]
/-- a parent has no order -/
def lackB (g : Gr) (c : Nat) : Bool := (par g c).any fun p => (linO g p.toNat).isEmpty
theorem pars_len (g : Gr) : (pars g).length = 3 + g.length := by simp [pars]; omega
theorem any_congrI {f h : Int → Bool} {l : List Int} (he : ∀ p ∈ l, f p = h p) : l.any f = l.any h := by
  induction l with
  | nil => rfl
  | cons x l ih => rw [List.any_cons, List.any_cons, he x (by simp), ih fun p hp => he p (by simp [hp])]
theorem linO_eq {g : Gr} (hg : goodB g = true) {c : Nat} (hc : c < 3 + g.length) : linO g c = if c = 0 then [0] else if lackB g c = true then [] else match mergeL (listsO g c) with | some m => (c : Int) :: (m ++ [0]) | none => [] := by
  have hlen := pars_len g
  have hget : (pars g)[c]? = some (par g c) := by
    rw [par, List.getD, List.getElem?_eq_getElem (by omega)]; rfl
  have hcl : (ordF ((pars g).take c)).length = c := by rw [ordF_length, List.length_take]; omega
  have h1 : linO g c = stepO (ordF ((pars g).take c)) (par g c) := by
    unfold linO
    rw [← ordF_getD_take (pars g) (c + 1) c (by omega) (by omega), ordF_take _ _ _ hget, List.getD]
    rw [List.getElem?_append_right (by omega)]; simp [hcl]
  have h2 : ∀ p ∈ par g c, (ordF ((pars g).take c)).getD p.toNat [] = linO g p.toNat := fun p hp => by
    have := par_mem hg hp
    exact ordF_getD_take (pars g) c p.toNat (by omega) (by omega)
  rw [h1]
  unfold stepO lackB listsO
  rw [hcl, any_congrI (fun p hp => by rw [h2 p hp]), List.map_congr_left (fun p hp => by rw [h2 p hp])]
theorem linO_shape {g : Gr} (hg : goodB g = true) : ∀ (c : Nat), c < 3 + g.length → c ≠ 0 → linO g c ≠ [] → ∃ m, linO g c = (c : Int) :: (m ++ [0]) ∧ m.Nodup ∧ (∀ x : Int, x ∈ m → 3 ≤ x ∧ x < c) ∧ mergeL (listsO g c) = some m ∧ lackB g c = false := by
  intro c
  induction c using Nat.strongRecOn with
  | _ c ih =>
    intro hc h0 hne
    have he := linO_eq hg hc
    rw [if_neg h0] at he
    cases hl : lackB g c with
    | true => rw [hl, if_pos rfl] at he; exact absurd he hne
    | false =>
      rw [hl, if_neg (by simp)] at he
      cases hm : mergeL (listsO g c) with
      | none => rw [hm] at he; exact absurd he hne
      | some m =>
        rw [hm] at he
        obtain ⟨h1, h2⟩ := mergeL_mem hm
        refine ⟨m, he, h1, fun x hx => ?_, rfl, rfl⟩
        obtain ⟨l, hl2, hxl⟩ := (h2 x).1 hx
        unfold listsO at hl2
        rcases List.mem_append.1 hl2 with hl2 | hl2
        · obtain ⟨p, hp, rfl⟩ := List.mem_map.1 hl2
          have hpm := par_mem hg hp
          have hpne : linO g p.toNat ≠ [] := fun e => by
            have : lackB g c = true := List.any_eq_true.2 ⟨p, hp, by rw [e]; rfl⟩
            rw [hl] at this; cases this
          obtain ⟨mp, hmp, _, hmb, _⟩ := ih p.toNat hpm.2.2 (by omega) (by omega) hpne
          rw [hmp, ← List.cons_append, List.dropLast_concat] at hxl
          rcases List.mem_cons.1 hxl with rfl | hxl
          · omega
          · have := hmb x hxl; omega
        · rw [List.mem_singleton] at hl2
          subst hl2
          have := par_mem hg hxl
          omega
theorem linO_zero (g : Gr) (hg : goodB g = true) : linO g 0 = [0] := by rw [linO_eq hg (by omega), if_pos rfl]
theorem linO_small {g : Gr} (hg : goodB g = true) {c : Nat} (hc : c < 3 + g.length) : (linO g c).length ≤ 20 := by
  have hlen : g.length ≤ 16 := by simp only [goodB, Bool.and_eq_true, decide_eq_true_eq] at hg; exact hg.1
  by_cases h0 : c = 0
  · subst h0; rw [linO_zero g hg]; simp
  · by_cases hne : linO g c = []
    · rw [hne]; simp
    · obtain ⟨m, hm, hn, hb, _⟩ := linO_shape hg c hc h0 hne
      have := nodup_len (n := 19) hn (fun x hx => by have := hb x hx; omega)
      rw [hm]; simp
      have hb2 := nodup_len (n := c) hn (fun x hx => by have := hb x hx; omega)
      omega
/-- what stands in the lists of a class -/
theorem listsO_mem {g : Gr} (hg : goodB g = true) {c : Nat} (hc : c < 3 + g.length) (hl : lackB g c = false) {l : List Int} (h : l ∈ listsO g c) : (∀ x : Int, x ∈ l → 3 ≤ x ∧ x < c) ∧ l.length ≤ 20 := by
  unfold listsO at h
  have hlen : g.length ≤ 16 := by simp only [goodB, Bool.and_eq_true, decide_eq_true_eq] at hg; exact hg.1
  rcases List.mem_append.1 h with h | h
  · obtain ⟨p, hp, rfl⟩ := List.mem_map.1 h
    have hpm := par_mem hg hp
    have hpne : linO g p.toNat ≠ [] := fun e => by
      have : lackB g c = true := List.any_eq_true.2 ⟨p, hp, by rw [e]; rfl⟩
      rw [hl] at this; cases this
    obtain ⟨mp, hmp, _, hmb, _⟩ := linO_shape hg p.toNat (by omega) (by omega) hpne
    have hs := linO_small hg (c := p.toNat) (by omega)
    constructor
    · intro x hx
      rw [hmp, ← List.cons_append, List.dropLast_concat] at hx
      rcases List.mem_cons.1 hx with rfl | hx
      · omega
      · have := hmb x hx; omega
    · rw [List.length_dropLast]; omega
  · rw [List.mem_singleton] at h
    subst h
    refine ⟨fun x hx => ?_, ?_⟩
    · have := par_mem hg hx; omega
    · by_cases h3 : c < 3
      · rw [par_small g c h3]; simp
      · rw [par_big g c (by omega)]
        have hk : (g.getD (c - 3) []).length ≤ 3 := by
          rw [List.getD, List.getElem?_eq_getElem (by omega)]
          simp only [goodB, Bool.and_eq_true] at hg
          have := goodFrom_get g 0 (c - 3) _ hg.2 (List.getElem?_eq_getElem (by omega))
          simp only [canB, Bool.and_eq_true, decide_eq_true_eq] at this
          exact this.1.1
        omega
end Go.Ln
namespace Go.Ln
def nextK (all : Gr) (k : Nat) : Option Int := ((all.take k).filterMap List.head?).find? (freeB all)
theorem nextK_all (all : Gr) : nextK all all.length = nextO all := by unfold nextK nextO; rw [List.take_length]
theorem nextK_snoc {all : Gr} {k : Nat} {l : List Int} (h : all[k]? = some l) : nextK all (k + 1) = (nextK all k).or ((l.head?.toList).find? (freeB all)) := by
  unfold nextK
  rw [take_snocI all k l h, List.filterMap_append, List.find?_append]
  cases l <;> rfl
theorem nextK_stop {all : Gr} {k : Nat} {x : Int} {t : List Int} (h : all[k]? = some (x :: t)) (hn : nextK all k = none) (hf : freeB all x = true) : nextO all = some x := by
  have h1 : nextK all (k + 1) = some x := by
    rw [nextK_snoc h, hn]; simp [hf]
  have h2 : (nextO all) = (nextK all (k + 1)).or (((all.drop (k + 1)).filterMap List.head?).find? (freeB all)) := by
    unfold nextO nextK
    conv => lhs; rw [← List.take_append_drop (k + 1) all]
    rw [List.filterMap_append, List.find?_append]
    simp only [List.take_append_drop]
  rw [h2, h1]; rfl
theorem nextK_next {all : Gr} {k : Nat} {l : List Int} (h : all[k]? = some l) (hn : nextK all k = none) (hf : ∀ x, l.head? = some x → freeB all x = false) : nextK all (k + 1) = none := by
  rw [nextK_snoc h, hn]
  cases l with
  | nil => rfl
  | cons x t => simp [hf x rfl]
theorem emptyAll_snoc {all : Gr} {k : Nat} {l : List Int} (h : all[k]? = some l) : emptyAll (all.take (k + 1)) = (emptyAll (all.take k) && l.isEmpty) := by
  unfold emptyAll; rw [take_snocI all k l h, List.all_append]; simp
theorem wipe_snoc {all : Gr} {k : Nat} {l : List Int} (c : Int) (h : all[k]? = some l) : wipe (all.take (k + 1)) c = wipe (all.take k) c ++ [withoutL l c] := by
  unfold wipe; rw [take_snocI all k l h, List.map_append]; rfl
theorem wipe_length (all : Gr) (c : Int) : (wipe all c).length = all.length := by simp [wipe]
theorem wipe_pos {all : Gr} {c : Int} (h : ∀ l ∈ all, ∀ x ∈ l, (0 : Int) ≤ x) : ∀ l ∈ wipe all c, ∀ x ∈ l, (0 : Int) ≤ x := fun l hl x hx => by
  obtain ⟨_, k, hk, hxk⟩ := wipe_mem.1 ⟨l, hl, hx⟩
  exact h k hk x hxk
/-- one step of a merge -/
theorem merge_step {all rest : Gr} {m : List Int} {c : Int} (hm : mergeL all = (mergeL rest).map (m ++ ·)) (hn : nextO rest = some c) (ht : m.length + tot rest ≤ tot all) : mergeL all = (mergeL (wipe rest c)).map ((m ++ [c]) ++ ·) ∧ (m ++ [c]).length + tot (wipe rest c) ≤ tot all := by
  constructor
  · rw [hm, mergeL_some hn, Option.map_map]
    congr 1
    funext l
    simp
  · have := tot_wipe_lt (nextO_mem hn).2
    simp; omega
theorem next_pos {rest : Gr} {c : Int} (h : ∀ l ∈ rest, ∀ x ∈ l, (0 : Int) ≤ x) (hn : nextO rest = some c) : 0 ≤ c := by
  obtain ⟨l, hl, hc⟩ := (nextO_mem hn).2
  exact h l hl c hc
theorem ord_next {g : Gr} (_hg : goodB g = true) {c : Nat} (hc : c < 3 + g.length) : ordF ((pars g).take (c + 1)) = ordF ((pars g).take c) ++ [linO g c] := by
  have hlen := pars_len g
  have hget : (pars g)[c]? = some (par g c) := by
    rw [par, List.getD, List.getElem?_eq_getElem (by omega)]; rfl
  have hcl : (ordF ((pars g).take c)).length = c := by rw [ordF_length, List.length_take]; omega
  rw [ordF_take _ _ _ hget]
  congr 2
  unfold linO
  rw [← ordF_getD_take (pars g) (c + 1) c (by omega) (by omega), ordF_take _ _ _ hget, List.getD]
  rw [List.getElem?_append_right (by omega)]; simp [hcl]
theorem ord_get {g : Gr} {k p : Nat} (hk : k ≤ 3 + g.length) (hp : p < k) : (ordF ((pars g).take k))[p]? = some (linO g p) := by
  have hlen := pars_len g
  have hl : p < (ordF ((pars g).take k)).length := by rw [ordF_length, List.length_take]; omega
  have h1 := ordF_getD_take (pars g) k p hp (by omega)
  rw [List.getD, List.getElem?_eq_getElem hl] at h1
  rw [List.getElem?_eq_getElem hl]
  exact congrArg some h1
theorem tot_le {all : Gr} {n : Nat} (h : ∀ l ∈ all, l.length ≤ n) : tot all ≤ n * all.length := by
  induction all with
  | nil => exact Nat.zero_le _
  | cons x all ih =>
    have h1 := h x (by simp)
    have h2 := ih fun l hl => h l (by simp [hl])
    rw [tot_cons, List.length_cons, Nat.mul_succ]; omega
/-- the order of a parent, without its last class -/
theorem wo_drop {g : Gr} (hg : goodB g = true) {c : Nat} (hc : c < 3 + g.length) {p : Int} (hp : p ∈ par g c) (hne : linO g p.toNat ≠ []) : withoutL (linO g p.toNat) 0 = (linO g p.toNat).dropLast := by
  have hm := par_mem hg hp
  obtain ⟨m, h1, _, h3, _⟩ := linO_shape hg p.toNat (by omega) (by omega) hne
  rw [h1, ← List.cons_append, List.dropLast_concat]
  unfold withoutL
  have e0 : List.filter (fun x => decide (x ≠ (0 : Int))) [0] = [] := rfl
  rw [List.filter_append, e0, List.append_nil, List.filter_eq_self]
  intro x hx
  have : x ≠ 0 := by
    rcases List.mem_cons.1 hx with rfl | hx
    · omega
    · have := h3 x hx; omega
  simpa using this
/-- the lists of the first k parents -/
def listsK (g : Gr) (c k : Nat) : Gr := ((par g c).take k).map fun p => (linO g p.toNat).dropLast
theorem listsK_snoc {g : Gr} {c k : Nat} {p : Int} (h : (par g c)[k]? = some p) : listsK g c (k + 1) = listsK g c k ++ [(linO g p.toNat).dropLast] := by
  unfold listsK; rw [take_snocI _ k p h, List.map_append]; rfl
theorem listsK_all (g : Gr) (c : Nat) : listsK g c (par g c).length ++ [par g c] = listsO g c := by
  unfold listsK listsO; rw [List.take_length]
theorem listsK_length (g : Gr) (c k : Nat) : (listsK g c k).length ≤ k := by unfold listsK; rw [List.length_map]; exact List.length_take_le _ _
def lackK (g : Gr) (c k : Nat) : Bool := ((par g c).take k).any fun p => (linO g p.toNat).isEmpty
theorem lackK_snoc {g : Gr} {c k : Nat} {p : Int} (h : (par g c)[k]? = some p) : lackK g c (k + 1) = (lackK g c k || (linO g p.toNat).isEmpty) := by
  unfold lackK; rw [take_snocI _ k p h, List.any_append]; simp
theorem lackK_all (g : Gr) (c : Nat) : lackK g c (par g c).length = lackB g c := by unfold lackK lackB; rw [List.take_length]
theorem par_len {g : Gr} (hg : goodB g = true) (c : Nat) : (par g c).length ≤ 3 := by
  by_cases h3 : c < 3
  · rw [par_small g c h3]; simp
  · rw [par_big g c (by omega), List.getD]
    cases hk : g[c - 3]? with
    | none => simp
    | some l =>
      simp only [goodB, Bool.and_eq_true] at hg
      have := goodFrom_get g 0 (c - 3) l hg.2 hk
      simp only [canB, Bool.and_eq_true, decide_eq_true_eq] at this
      exact this.1.1
theorem lists_fit {g : Gr} (hg : goodB g = true) {c : Nat} (hc : c < 3 + g.length) (hl : lackB g c = false) : (listsO g c).length ≤ 4 ∧ tot (listsO g c) ≤ 80 ∧ ∀ l ∈ listsO g c, ∀ x ∈ l, (0 : Int) ≤ x := by
  have h1 : (listsO g c).length ≤ 4 := by
    unfold listsO
    have := par_len hg c
    simp; omega
  refine ⟨h1, ?_, fun l hl2 x hx => ?_⟩
  · have := tot_le (n := 20) fun l hl2 => (listsO_mem hg hc hl hl2).2
    omega
  · have := (listsO_mem hg hc hl hl2).1 x hx; omega
end Go.Ln
namespace Go.Ln
theorem tailsM_free {all : Gr} (h : ∀ l ∈ all, ∀ p ∈ l, (0 : Int) ≤ p ∧ p < 19) {x : Int} (h0 : 0 ≤ x) (f : Nat) (hf : ∀ b, f.testBit b = all.any fun l => l.tail.any fun p => decide (p.toNat = b)) : f.testBit x.toNat = !freeB all x := by
  rw [hf, Bool.eq_iff_iff]
  unfold freeB
  simp only [List.any_eq_true, decide_eq_true_eq, Bool.not_eq_true', Bool.eq_false_iff, ne_eq, List.all_eq_true]
  constructor
  · rintro ⟨l, hl, p, hp, he⟩ h2
    have h3 := h2 l hl
    have hb := h l hl p (List.mem_of_mem_tail hp)
    have : p = x := by omega
    subst this
    exact h3 hp
  · intro h2
    by_cases hc : ∃ l ∈ all, x ∈ l.tail
    · obtain ⟨l, hl, hx⟩ := hc
      exact ⟨l, hl, x, hx, rfl⟩
    · exact absurd (fun l hl hx => hc ⟨l, hl, hx⟩) h2
/-- to take a free class out is to wipe it -/
theorem takeW_wipe {all : Gr} {c : Int} (hf : freeB all c = true) : (all.map fun l => if l.head? = some c then l.tail else l) = wipe all c := by
  unfold wipe
  refine List.map_congr_left fun l hl => ?_
  have h := List.all_eq_true.1 hf l hl
  simp only [decide_eq_true_eq] at h
  unfold withoutL
  cases l with
  | nil => rfl
  | cons x t =>
    simp only [List.tail_cons] at h
    have ht : t.filter (fun y => decide (y ≠ c)) = t := List.filter_eq_self.2 fun y hy => by
      have : y ≠ c := fun e => h (e ▸ hy)
      simpa using this
    by_cases e : x = c
    · subst e
      rw [List.filter_cons_of_neg (by simp), ht]; simp
    · rw [List.filter_cons_of_pos (by simpa using e), ht]; simp [e]
theorem wipe_rng {all : Gr} {c : Int} {P : Int → Prop} (h : ∀ l ∈ all, ∀ x ∈ l, P x) : ∀ l ∈ wipe all c, ∀ x ∈ l, P x := fun l hl x hx => by
  obtain ⟨_, k, hk, hxk⟩ := wipe_mem.1 ⟨l, hl, hx⟩
  exact h k hk x hxk
theorem wipe_lens {all : Gr} {c : Int} {n : Nat} (h : ∀ l ∈ all, l.length ≤ n) : ∀ l ∈ wipe all c, l.length ≤ n := fun l hl => by
  obtain ⟨k, hk, rfl⟩ := List.mem_map.1 hl
  exact Nat.le_trans (withoutL_le k c) (h k hk)
end Go.Ln
