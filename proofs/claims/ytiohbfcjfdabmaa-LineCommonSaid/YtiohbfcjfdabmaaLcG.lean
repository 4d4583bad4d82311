/-
  What is above a class by the law itself, and that above each common class there is a least one. No condition.
-/
import Derived.Test.YtiohbfcjfdabmaaLhG
namespace Go.Ln
/-- the law's marks: so many classes downwards from c, and any is marked -/
def mkE (g : Gr) (c : Nat) : Nat → Nat
  | 0 => 1 ||| 2 ^ c
  | k + 1 => mk1 g (mkE g c k) (c - k)
theorem mkE_bit (g : Gr) (c x : Nat) : ∀ k, k ≤ c - 2 → (mkE g c k).testBit x = (decide (x = 0) || (mkD g c k).testBit x)
  | 0, _ => by
    unfold mkE mkD
    rw [Nat.testBit_or]
    congr 1
    rw [show (1 : Nat) = 2 ^ 0 by rfl, Nat.testBit_two_pow]; simp [eq_comm]
  | k + 1, hk => by
    unfold mkE mkD
    rw [mk1_bit, mk1_bit, mkE_bit g c x k (by omega), mkE_bit g c (c - k) k (by omega), decide_eq_false (show ¬ c - k = 0 by omega), Bool.false_or, Bool.or_assoc]
theorem mkE_end {g : Gr} (hg : goodB g = true) (c : Nat) (hc : c < 3 + g.length) (x : Nat) : (mkE g c (c - 2)).testBit x = aboveB g c x := by
  rw [mkE_bit g c x _ (Nat.le_refl _)]
  obtain ⟨i1, i2⟩ := mkD_inv hg c hc (c - 2) (by omega)
  rw [Bool.eq_iff_iff, Bool.or_eq_true, decide_eq_true_eq]
  constructor
  · rintro (h | h)
    · exact (above_iff hg hc).2 (.inl h)
    · exact i1 x h
  · intro h
    by_cases hx : x = 0
    · exact .inl hx
    · rcases i2 x hx h with h1 | ⟨y, hy, h1, h2⟩
      · exact .inr h1
      · rcases (above_iff hg (by omega)).1 h2 with h3 | h3 | ⟨p, hp, _⟩
        · exact absurd h3 hx
        · subst h3; exact .inr h1
        · rw [par_small g y (by omega)] at hp; cases hp
end Go.Ln
namespace Go.Ln
theorem bel_refl {g : Gr} (hg : goodB g = true) (c : Nat) (hc : c < 3 + g.length) : belowR g c c = true := by
  rw [belowR_eq hg c c hc]; exact (above_iff hg hc).2 (.inr (.inl rfl))
theorem bel_trans {g : Gr} (hg : goodB g = true) {a b c : Nat} (ha : a < 3 + g.length) (hb : b < 3 + g.length) (h1 : belowR g a b = true) (h2 : belowR g b c = true) : belowR g a c = true := by
  rw [belowR_eq hg a b ha] at h1
  rw [belowR_eq hg b c hb] at h2
  rw [belowR_eq hg a c ha]
  exact above_trans hg a ha b c h1 h2
theorem over_up {g : Gr} (hg : goodB g = true) {l : List Int} (hl : ∀ c ∈ l, ∃ n : Nat, c = (n : Int) ∧ n < 3 + g.length) {b c : Nat} (hb : b < 3 + g.length) (ho : overB g l b = true) (h : belowR g b c = true) : overB g l c = true := by
  unfold overB at ho ⊢
  rw [List.all_eq_true] at ho ⊢
  intro x hx
  obtain ⟨n, rfl, hn⟩ := hl x hx
  have := ho _ hx
  rw [Int.toNat_natCast] at this ⊢
  exact bel_trans hg hn hb this h
theorem least_ex {g : Gr} (hg : goodB g = true) (l : List Int) : ∀ (m x : Nat), x < 3 + g.length → (if x = 0 then 4 + g.length else 3 + g.length - x) ≤ m → overB g l x = true → ∃ c, c < 3 + g.length ∧ leastB g l c = true ∧ belowR g c x = true
  | 0, x, hx, hm, _ => by
    exfalso
    split at hm <;> omega
  | m + 1, x, hx, hm, ho => by
    cases hl : leastB g l x with
    | true => exact ⟨x, hx, hl, bel_refl hg x hx⟩
    | false =>
      unfold leastB at hl
      rw [ho, Bool.true_and] at hl
      obtain ⟨y, hy, hyf⟩ : ∃ y, y ∈ List.range (3 + g.length) ∧ (decide (y = x) || !(overB g l y && belowR g y x)) = false := by
        by_cases h : ∀ y ∈ List.range (3 + g.length), (decide (y = x) || !(overB g l y && belowR g y x)) = true
        · rw [List.all_eq_true.2 h] at hl; cases hl
        · obtain ⟨y, h1⟩ := Classical.not_forall.1 h
          obtain ⟨h2, h3⟩ := Classical.not_imp.1 h1
          exact ⟨y, h2, by simpa using h3⟩
      have hyn := List.mem_range.1 hy
      simp only [Bool.or_eq_false_iff, decide_eq_false_iff_not, Bool.not_eq_false', Bool.and_eq_true] at hyf
      obtain ⟨hne, hoy, hyx⟩ := hyf
      have hle := hyx
      rw [belowR_eq hg y x hyn] at hle
      have hcase := above_le hg y x hyn hle
      obtain ⟨c, h1, h2, h3⟩ := least_ex hg l m y hyn (by
        split at hm
        · rename_i h0; subst h0; rw [if_neg (by omega)]; omega
        · rename_i h0
          rw [if_neg (by omega)]; omega) hoy
      exact ⟨c, h1, h2, bel_trans hg h1 hyn h3 hyx⟩
theorem least_over {g : Gr} {l : List Int} {c : Nat} (h : leastB g l c = true) : overB g l c = true := by
  unfold leastB at h
  simp only [Bool.and_eq_true] at h
  exact h.1
theorem over_any {g : Gr} (hg : goodB g = true) {l : List Int} (hl : ∀ c ∈ l, ∃ n : Nat, c = (n : Int) ∧ n < 3 + g.length) (b : Nat) (hb : b < 3 + g.length) : (listF (leastB g l) (3 + g.length)).any (fun c => belowR g c.toNat b) = overB g l b := by
  rw [Bool.eq_iff_iff, List.any_eq_true]
  constructor
  · rintro ⟨x, hx, h⟩
    obtain ⟨c, rfl, hc, hp⟩ := listF_mem hx
    rw [Int.toNat_natCast] at h
    exact over_up hg hl hc (least_over hp) h
  · intro h
    obtain ⟨c, h1, h2, h3⟩ := least_ex hg l (4 + g.length) b hb (by split <;> omega) h
    exact ⟨(c : Int), by rw [listF]; simp only [List.mem_map, List.mem_filter, List.mem_range]; exact ⟨c, ⟨h1, h2⟩, rfl⟩, by simpa using h3⟩
theorem none_below {g : Gr} {l : List Int} (b : Nat) (h : leastB g l b = true) : (listF (leastB g l) (3 + g.length)).any (fun c => decide (c.toNat ≠ b) && belowR g c.toNat b) = false := by
  rw [Bool.eq_false_iff]
  intro hh
  obtain ⟨x, hx, h1⟩ := List.any_eq_true.1 hh
  obtain ⟨c, rfl, hc, hp⟩ := listF_mem hx
  simp only [Int.toNat_natCast, Bool.and_eq_true, decide_eq_true_eq] at h1
  unfold leastB at h
  simp only [Bool.and_eq_true, List.all_eq_true] at h
  have := h.2 c (List.mem_range.2 hc)
  rw [least_over hp, h1.2, decide_eq_false h1.1] at this
  cases this
theorem memF (p : Nat → Bool) (n b : Nat) (hb : b < n) : decide ((b : Int) ∈ listF p n) = p b := by
  rw [Bool.eq_iff_iff, decide_eq_true_eq]
  constructor
  · intro h
    obtain ⟨c, h1, _, h3⟩ := listF_mem h
    have : b = c := by omega
    rw [this]; exact h3
  · intro h
    rw [listF]; simp only [List.mem_map, List.mem_filter, List.mem_range]
    exact ⟨b, ⟨hb, h⟩, rfl⟩
theorem listF_up (p : Nat → Bool) (n : Nat) : ∀ (k : Nat) (x y : Int), (listF p n)[k]? = some x → (listF p n)[k + 1]? = some y → x ≤ y := by
  intro k x y hx hy
  have hs : (listF p n).Pairwise (· ≤ ·) := by
    unfold listF
    exact List.Pairwise.map _ (fun a b h => by have : a < b := h; omega) (List.Pairwise.filter _ List.pairwise_lt_range)
  obtain ⟨h1, rfl⟩ := List.getElem?_eq_some_iff.1 hx
  obtain ⟨h2, rfl⟩ := List.getElem?_eq_some_iff.1 hy
  exact List.pairwise_iff_getElem.1 hs k (k + 1) h1 h2 (by omega)
theorem any_not (l : List Int) (p : Int → Bool) : (l.any fun c => !p c) = !(l.all p) := by
  induction l with
  | nil => rfl
  | cons x l ih => rw [List.any_cons, List.all_cons, ih, Bool.not_and]
end Go.Ln
