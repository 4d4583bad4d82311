/-
  The program: the lists of a class, their merge, the linear order of a class with the memo of those that were found, and Lin. No condition.
-/
import Derived.Test.YtaofmejfdmbfoaaLqR
import Derived.Deep.RegionHeld3
import Derived.Test.YtaofmejfdmbfoaaLqG
import Derived.Deep.LoopGhost
import Derived.WalkMore
import Derived.Maps.OwnOps
import Derived.Maps.OwnSet
namespace Go.Proofs.Ytaofmejfdmbfoaa
open Go.ChangeShapes Go.WideShapes Go.ChangeAt Go.RowKit Go.Ln Go.Fs
theorem hasHead_any (l : List Int) (a : Option Addr) (cap : Nat) (w : World) :
    Calls Try.prog 83 #[.slice a l.length cap] w fun e w' => e = .returned (.bool (!l.isEmpty)) ∧ w = w' := by
  cases l with
  | nil =>
    go_enter Try.func83, Try.ntmps83
    go_wp2
    go_ret
    exact ⟨rfl, rfl⟩
  | cons x t =>
    go_enter Try.func83, Try.ntmps83
    go_wp2
    go_ret
    exact ⟨rfl, rfl⟩
/-- what stands in lists behind their heads -/
def tailsM (all : Gr) : Nat := all.foldl (fun s l => s ||| maskL l.tail) 0
theorem tailsM_snoc {all : Gr} {k : Nat} {l : List Int} (h : all[k]? = some l) : tailsM (all.take (k + 1)) = tailsM (all.take k) ||| maskL l.tail := by
  unfold tailsM; rw [take_snocI all k l h, List.foldl_append]; rfl
theorem tailsM_small {all : Gr} (h : ∀ l ∈ all, ∀ p ∈ l, (0 : Int) ≤ p ∧ p < 19) : tailsM all < 524288 := by
  have : ∀ (all : Gr) (s : Nat), s < 524288 → (∀ l ∈ all, ∀ p ∈ l, (0 : Int) ≤ p ∧ p < 19) → all.foldl (fun s l => s ||| maskL l.tail) s < 524288 := by
    intro all
    induction all with
    | nil => intro s hs _; exact hs
    | cons l all ih =>
      intro s hs h
      rw [List.foldl_cons]
      exact ih _ (Nat.or_lt_two_pow (n := 19) hs (mask_small' _ fun p hp => h l (by simp) p (List.mem_of_mem_tail hp))) fun l' hl' => h l' (by simp [hl'])
  exact this all 0 (by omega) h
def RegS (S : World → Prop) (a0 : Act) : Exit → Act → World → Prop
  | .normal, a, w => a = a0 ∧ S w
  | _, _, _ => False
theorem RegS.out {S : World → Prop} {a0 : Act} {Q : Exit → Act → World → Prop} (h : ∀ w, S w → Q .normal a0 w) (e : Exit) (a : Act) (w : World) (hm : RegS S a0 e a w) : Q e a w := by
  cases e <;> first | exact hm.elim | (obtain ⟨rfl, hs⟩ := hm; exact h w hs)
set_option maxRecDepth 100000 in
set_option maxHeartbeats 20000000 in
theorem behind_any (W0 : World) (all : Gr) (sa : Option Addr) (cap : Nat) (hl : all.length ≤ 1000) (hlen : ∀ l ∈ all, l.length ≤ 1000) (hi : GrAt W0 sa all) (hr : ∀ l ∈ all, ∀ p ∈ l, (0 : Int) ≤ p ∧ p < 19) (w : World) (hB : Below W0.heap.size W0 w) :
    Calls Try.prog 80 #[.slice sa all.length cap] w fun e w' => e = .returned (SV (tailsM all)) ∧ Below w.heap.size w w' := by
  have HI := Lib.hid hi; clear hi
  have HR := Lib.hid hr; clear hr
  have HB := Lib.hid hB; clear hB
  go_enter Try.func80, Try.ntmps80
  go_wp2
  go_loopw [8] (fun i wr => ∃ k : Nat, k ≤ all.length ∧ i = .int .i64 k ∧ Below w.heap.size w wr ∧ w.heap.size + 1 < wr.heap.size ∧ wr.cell? ⟨w.heap.size, 0, none⟩ = some (.int .u64 0) ∧ wr.frozen? ⟨w.heap.size, 0, none⟩ = false ∧ wr.cell? ⟨w.heap.size + 1, 0, none⟩ = some (.int .u64 (tailsM (all.take k) : Nat)) ∧ wr.frozen? ⟨w.heap.size + 1, 0, none⟩ = false) (fun i _ => all.length - (intOf i).toNat)
  case atStart =>
    refine ⟨0, Nat.zero_le _, rfl, ((Below.refl _ _).alloc (Nat.le_refl _) _).alloc (by simp) _, by simp, ?_, ?_, ?_, ?_⟩
    · have hb : ((w.alloc (.cells #[.int .u64 0] 75)).alloc (.cells #[.int .u64 0] 75)).heap[w.heap.size]? = (w.alloc (.cells #[.int .u64 0] 75)).heap[w.heap.size]? := Below.heap_alloc _ _ _ (by simp)
      rw [cell_of_block hb, World.cell?_alloc_at _ _ _ _ rfl]; rfl
    · simp
    · rw [World.cell?_alloc_at _ _ _ _ (by simp)]; rfl
    · simp
  case round =>
    obtain ⟨k, hk, rfl, hup, hsz, hc0, hf0, hc1, hf1⟩ := hrel
    have HUP := Lib.hid hup
    have hz := hup.size
    by_cases hlt : k < all.length
    · obtain ⟨l, hy⟩ : ∃ l, all[k]? = some l := ⟨all[k], List.getElem?_eq_getElem hlt⟩
      have hBr := HB.out.trans (hup.mono HB.out.size)
      obtain ⟨bb, off, al, cl, rfl, hb, hc, hil, hml⟩ := HI.out.below hBr k l hy
      have hlm := List.mem_of_getElem? hy
      have hl1 := hlen l hlm
      have hsm := tailsM_small (all := all.take k) (fun l' hl' => HR.out l' (List.mem_of_mem_take hl'))
      have hts := mask_small' l.tail (fun p hp => HR.out l hlm p (List.mem_of_mem_tail hp))
      have HSN := Lib.hid (tailsM_snoc hy)
      have HRL := Lib.hid (HR.out l hlm)
      clear hup
      generalize hN : tailsM (all.take k) = N at *
      cases l with
      | nil =>
        have hh := hasHead_any [] al cl
        have HH := Lib.hid hh; clear hh hy hil
        simp only [List.length_nil] at hc
        go_wp2_with (go_at_call 83; refine (HH.out _).mono ?_; rintro e w3 ⟨rfl, rfl⟩)
        exact ⟨⟨k + 1, by omega, by go_num, HUP.out, hsz, hc0, hf0, by rw [hc1, HSN.out]; simp [maskL], hf1⟩, by simp [intOf]; omega⟩
      | cons x t =>
        have hh := hasHead_any (x :: t) al cl
        have HH := Lib.hid hh; clear hh
        obtain ⟨b2, off2, rfl, hb2, _⟩ := hil 0 x rfl
        have htc : t.length + 1 ≤ cl := by simpa using hml.1
        have hit := hil.tailC htc
        have hcm : cl ≤ maxLen := hml.2
        unfold maxLen at hcm
        have htci : (t.length : Int) + 1 ≤ (cl : Int) := by omega
        have hl2 : t.length < 1000 := by simp only [List.length_cons] at hl1; omega
        obtain ⟨A, hA⟩ : ∃ A, A = (if cl = 1 then some (⟨b2, off2, none⟩ : Addr) else some ⟨b2, off2 + 1, none⟩) := ⟨_, rfl⟩
        rw [← hA] at hit
        have hso := fun w' (h : Below wr.heap.size wr w') => setOf_any wr t A (cl - 1) (by omega) hit (fun p hp => HRL.out p (by simp [hp])) w' h
        have HSO := Lib.hid hso
        rw [List.tail_cons] at hts HSN
        generalize hM : maskL t = M at *
        rw [List.length_cons] at hc
        clear hso hy hil hit hml hl1
        go_wp2_with (go_at_call 83; refine (HH.out _).mono ?_; rintro e w3 ⟨rfl, rfl⟩)
        have hsz1 : w.heap.size < wr.heap.size := by omega
        rcases Decidable.em (cl = 1) with e1 | e1
        all_goals (
          first | (rw [if_pos e1] at hA) | (rw [if_neg e1] at hA)
          subst hA
          try (subst e1; (have ht0 : t = [] := List.length_eq_zero_iff.1 (by omega)); subst ht0; simp only [List.length_nil, Nat.sub_self] at HSO)
          have hsz1 : w.heap.size < wr.heap.size := by omega
          apply Code.wp_mono (Q := RegS (fun w6 => ∃ w5, Below wr.heap.size wr w5 ∧ w6 = w5.setCell ⟨w.heap.size + 1, 0, none⟩ (.int .u64 ((N ||| M : Nat) : Int))) _)
          rotate_left
          · go_region_with (first
              | (go_at_call 63; refine (HSO.out _ (below_drewN _ _)).mono ?_; rintro e w5 ⟨rfl, hu⟩; have hc5 := (hu.cell (p := ⟨w.heap.size + 1, 0, none⟩) hsz).trans hc1; have hf5 := (hu.frozen (p := ⟨w.heap.size + 1, 0, none⟩) hsz).trans hf1; have hz5 : wr.heap.size ≤ w5.heap.size := hu.size; have HB2 := Lib.hid (show Below wr.heap.size wr w5 from ⟨hu.os, hu.tape, hu.output, hu.size, hu.block⟩); clear hu)
              | (go_at_call 62; refine (join_any N M hsm hts _).mono ?_; rintro e w6 ⟨rfl, hu⟩; have hc6 := (hu.cell (p := ⟨w.heap.size + 1, 0, none⟩) (Nat.lt_of_lt_of_le hsz hz5)).trans hc5; have hf6 := (hu.frozen (p := ⟨w.heap.size + 1, 0, none⟩) (Nat.lt_of_lt_of_le hsz hz5)).trans hf5; have HB2 := Lib.hid (HB2.out.trans (hu.mono HB2.out.size)); clear hu))
            all_goals exact ⟨rfl, _, HB2.out, rfl⟩
          · refine RegS.out ?_
            rintro w6 ⟨w5, hB5, rfl⟩
            have hz5 := hB5.size
            have hc6 := (hB5.cell (p := ⟨w.heap.size + 1, 0, none⟩) hsz).trans hc1
            have hf6 := (hB5.frozen (p := ⟨w.heap.size + 1, 0, none⟩) hsz).trans hf1
            have hc06 := (hB5.cell (p := ⟨w.heap.size, 0, none⟩) hsz1).trans hc0
            have hf06 := (hB5.frozen (p := ⟨w.heap.size, 0, none⟩) hsz1).trans hf0
            go_wp2
            refine ⟨⟨k + 1, by omega, by go_num, (HUP.out.trans (hB5.mono hz)).setCell (by show w.heap.size ≤ w.heap.size + 1; omega) _, by simp; omega, ?_, by simp [hf06], ?_, by simp [hf6]⟩, by simp [intOf]; omega⟩
            · rw [World.cell?_setCell_other _ _ _ _ (by intro e; injection e with e1 e2; omega)]; exact hc06
            · rw [HSN.out]; simp [World.cell?_setCell_same, hc6])

    · obtain rfl : k = all.length := by omega
      rw [List.take_length] at hc1
      have hsz1 : w.heap.size < wr.heap.size := by omega
      go_wp2
      refine bodyPost_ret (by simp [results, Try.results80, go_sem, World.cell?_setCell_same, hc0]; try rfl) rfl ?_
      exact ⟨rfl, HUP.out.setCell (by simp) _⟩
end Go.Proofs.Ytaofmejfdmbfoaa
namespace Go.Proofs.Ytaofmejfdmbfoaa
open Go.ChangeShapes Go.WideShapes Go.ChangeAt Go.RowKit Go.Ln Go.Fs
theorem Row.set {B : Nat} {w : World} {e : TypeId} {g n cp : Nat} {xs : List Value} (h : Row B w e (.slice (some ⟨g, 0, none⟩) n cp) xs) {k : Nat} (_hk : k < xs.length) (u : Value) : Row B (w.setCell ⟨g, k, none⟩ u) e (.slice (some ⟨g, 0, none⟩) n cp) (xs.set k u) := by
  refine ⟨(Nat.mul_one _).symm, ?_⟩
  have hn0 := h.1
  rcases h.2 with ⟨h1, _⟩ | ⟨g', cap, cur, h1, h2, h3, h4, h5, h6, h7⟩
  · cases h1
  · injection h1 with h1 hn hc
    injection h1 with h1
    injection h1 with h1 _ _
    subst h1; subst hc
    refine .inr ⟨g, cp, cur.setIfInBounds k u, by rw [List.length_set, hn], h2, heap_setCell_same _ _ _ _ _ _ h3, by rw [List.length_set]; exact h4, h5, by simpa using h6, ?_⟩
    rw [Nat.mul_one] at h7
    rw [List.length_set, Nat.mul_one, Array.toList_setIfInBounds, List.take_set, h7]
theorem Row.frozen {B : Nat} {w : World} {e : TypeId} {g n cp : Nat} {xs : List Value} (h : Row B w e (.slice (some ⟨g, 0, none⟩) n cp) xs) (k : Nat) : w.frozen? ⟨g, k, none⟩ = false := by
  rcases h.2 with ⟨h1, _⟩ | ⟨g', cap, cur, h1, h2, h3, _⟩
  · cases h1
  · injection h1 with h1 hn hc
    injection h1 with h1
    injection h1 with h1 _ _
    subst h1
    unfold World.frozen?
    simp [h3]
theorem ElemOk.tail {w : World} {no : Nat → Prop} {b off cl : Nat} {x : Int} {l : List Int} (h : ElemOk w no (some ⟨b, off, none⟩) (x :: l) cl) : ElemOk w no (if cl = 1 then some ⟨b, off, none⟩ else some ⟨b, off + 1, none⟩) l (cl - 1) := by
  have h1 := h.1
  have h2 := h.2.1
  simp only [List.length_cons] at h1
  refine ⟨by omega, by omega, fun i y hy => ?_⟩
  obtain ⟨b', off', h3, h4, h5, h6⟩ := h.2.2 (i + 1) y hy
  injection h3 with h3
  injection h3 with h7 h8 h9
  subst h7; subst h8
  have : i < l.length := (List.getElem?_eq_some_iff.1 hy).1
  rw [if_neg (by omega)]
  exact ⟨b, off + 1, rfl, h4, by rw [show off + 1 + i = off + (i + 1) by omega]; exact h5, h6⟩
theorem RowGr.set {B : Nat} {no : Nat → Prop} {w : World} {g n cp : Nat} {ls : Gr} (h : RowGr B no w (.slice (some ⟨g, 0, none⟩) n cp) ls) {k : Nat} (hk : k < ls.length) {al : Option Addr} {l : List Int} {cl : Nat} (hE : ElemOk w (ownN (.slice (some ⟨g, 0, none⟩) n cp) no) al l cl) : RowGr B no (w.setCell ⟨g, k, none⟩ (.slice al l.length cl)) (.slice (some ⟨g, 0, none⟩) n cp) (ls.set k l) := by
  obtain ⟨vs, h1, h2⟩ := h
  have hb : ∀ b, b < w.heap.size → ¬ ownN (.slice (some ⟨g, 0, none⟩) n cp) no b → (w.setCell ⟨g, k, none⟩ (.slice al l.length cl)).heap[b]? = w.heap[b]? := fun b _ hn => Below.heap_setCell _ _ _ _ (fun e => hn (.inl (by rw [e]; rfl)))
  have hs : w.heap.size ≤ (w.setCell ⟨g, k, none⟩ (.slice al l.length cl)).heap.size := by simp
  refine ⟨vs.set k (.slice al l.length cl), h1.set (by rw [h2.1]; exact hk) _, by simp [h2.1], fun j l' hl' => ?_⟩
  by_cases e : k = j
  · subst e
    rw [List.getElem?_set_self hk] at hl'
    cases hl'
    exact ⟨al, cl, by rw [List.getElem?_set_self (by rw [h2.1]; exact hk)], hE.kept hs hb (fun _ _ h => h)⟩
  · rw [List.getElem?_set_ne e] at hl'
    obtain ⟨al', cl', h3, h4⟩ := h2.2 j l' hl'
    exact ⟨al', cl', by rw [List.getElem?_set_ne e]; exact h3, h4.kept hs hb (fun _ _ h => h)⟩
theorem RowGr.at {B : Nat} {no : Nat → Prop} {w : World} {g n cp : Nat} {ls : Gr} (h : RowGr B no w (.slice (some ⟨g, 0, none⟩) n cp) ls) {k : Nat} {l : List Int} (hk : ls[k]? = some l) : ∃ al cl, w.cell? ⟨g, k, none⟩ = some (.slice al l.length cl) ∧ w.frozen? ⟨g, k, none⟩ = false ∧ g < w.heap.size ∧ ElemOk w (ownN (.slice (some ⟨g, 0, none⟩) n cp) no) al l cl := by
  obtain ⟨vs, h1, h2⟩ := h
  obtain ⟨al, cl, h3, h4⟩ := h2.2 k l hk
  obtain ⟨a, c, hv, _, hc⟩ := h1.shape
  obtain ⟨g', h5, _, h6, h7⟩ := hc k _ h3
  injection hv with hv _ _
  rw [h5] at hv
  injection hv with hv
  injection hv with hv _ _
  subst hv
  exact ⟨al, cl, h7, h1.frozen k, h6, h4⟩
/-- a class is taken out of the lists whose head it is -/
def takeW (all : Gr) (c : Int) : Gr := all.map fun l => if l.head? = some c then l.tail else l
theorem takeW_set {all : Gr} {k : Nat} {l : List Int} (c : Int) (h : all[k]? = some l) : (takeW (all.take k) c ++ all.drop k).set k (if l.head? = some c then l.tail else l) = takeW (all.take (k + 1)) c ++ all.drop (k + 1) := by
  obtain ⟨hk, rfl⟩ := List.getElem?_eq_some_iff.1 h
  have hl : (takeW (all.take k) c).length = k := by simp [takeW]; omega
  rw [List.set_append_right _ _ (by omega), hl, Nat.sub_self, List.drop_eq_getElem_cons hk, List.set_cons_zero]
  rw [take_snocI all k _ h]
  unfold takeW
  rw [List.map_append, List.append_assoc]; rfl
theorem takeW_keep {all : Gr} {k : Nat} {l : List Int} {c : Int} (h : all[k]? = some l) (hn : l.head? ≠ some c) : takeW (all.take (k + 1)) c ++ all.drop (k + 1) = takeW (all.take k) c ++ all.drop k := by
  obtain ⟨hk, rfl⟩ := List.getElem?_eq_some_iff.1 h
  rw [take_snocI all k _ h, List.drop_eq_getElem_cons hk]
  unfold takeW
  rw [List.map_append, List.append_assoc]
  simp [hn]
set_option maxRecDepth 100000 in
set_option maxHeartbeats 20000000 in
theorem takeOut_any (B : Nat) (no : Nat → Prop) (all : Gr) (g cp : Nat) (hl : all.length ≤ 1000) (c : Int) (w : World) (hr : RowGr B no w (.slice (some ⟨g, 0, none⟩) all.length cp) all) (hlen : ∀ l ∈ all, l.length ≤ 1000) :
    Calls Try.prog 81 #[.slice (some ⟨g, 0, none⟩) all.length cp, .int .i64 c] w fun e w' => e = .returned (.tuple #[]) ∧ Upd [g] w w' ∧ RowGr B no w' (.slice (some ⟨g, 0, none⟩) all.length cp) (takeW all c) := by
  have HR := Lib.hid hr; clear hr
  go_enter Try.func81, Try.ntmps81
  go_wp2
  go_loopw [8] (fun i wr => ∃ k : Nat, k ≤ all.length ∧ i = .int .i64 k ∧ Upd [g] w wr ∧ RowGr B no wr (.slice (some ⟨g, 0, none⟩) all.length cp) (takeW (all.take k) c ++ all.drop k)) (fun i _ => all.length - (intOf i).toNat)
  case atStart => exact ⟨0, Nat.zero_le _, rfl, Upd.refl _ _, by simpa [takeW] using HR.out⟩
  case round =>
    obtain ⟨k, hk, rfl, hup, hrg⟩ := hrel
    have HUP := Lib.hid hup; have HRG := Lib.hid hrg
    by_cases hlt : k < all.length
    · obtain ⟨l, hy⟩ : ∃ l, all[k]? = some l := ⟨all[k], List.getElem?_eq_getElem hlt⟩
      have htk : (takeW (all.take k) c).length = k := by simp [takeW]; omega
      have hcur : (takeW (all.take k) c ++ all.drop k)[k]? = some l := by
        rw [List.getElem?_append_right (by omega), htk, Nat.sub_self, List.getElem?_drop, Nat.add_zero]; exact hy
      have hkl : k < (takeW (all.take k) c ++ all.drop k).length := (List.getElem?_eq_some_iff.1 hcur).1
      obtain ⟨al, cl, hc, hf, hgl, hE⟩ := hrg.at hcur
      have HST := Lib.hid (takeW_set c hy)
      have HKP := Lib.hid (takeW_keep (c := c) hy)
      have hl1 := hlen l (List.mem_of_getElem? hy)
      have HE := Lib.hid hE
      have hh := hasHead_any l al cl
      have HH := Lib.hid hh
      clear hup hrg hh hcur hy
      cases l with
      | nil =>
        simp only [List.length_nil] at hc
        clear hE
        go_wp2_with (go_at_call 83; refine (HH.out _).mono ?_; rintro e w3 ⟨rfl, rfl⟩)
        refine ⟨⟨k + 1, by omega, by go_num, HUP.out, ?_⟩, by simp [intOf]; omega⟩
        rw [HKP.out (by simp)]; exact HRG.out
      | cons x t =>
        obtain ⟨b2, off2, rfl, hb2, hc2, _⟩ := hE.2.2 0 x rfl
        rw [Nat.add_zero] at hc2
        have htl := hE.tail
        have HTL := Lib.hid htl
        have htc : t.length + 1 ≤ cl := hE.1
        have hcm : cl ≤ maxLen := hE.2.1
        unfold maxLen at hcm
        have htci : (t.length : Int) + 1 ≤ (cl : Int) := by omega
        have hl2 : t.length < 1000 := by simp only [List.length_cons] at hl1; omega
        rw [List.length_cons] at hc
        clear hE htl hl1
        by_cases hx : x = c
        · subst hx
          have hfin : ∀ A, ElemOk wr (ownN (.slice (some ⟨g, 0, none⟩) all.length cp) no) A t (cl - 1) → RowGr B no (wr.setCell ⟨g, k, none⟩ (.slice A t.length (cl - 1))) (.slice (some ⟨g, 0, none⟩) all.length cp) (takeW (all.take (k + 1)) x ++ all.drop (k + 1)) := fun A hA => by
            have h := HRG.out.set hkl hA
            have h2 := HST.out
            rw [if_pos (by simp), List.tail_cons] at h2
            rw [h2] at h
            exact h
          have HFIN := Lib.hid hfin
          obtain ⟨A, hA⟩ : ∃ A, A = (if cl = 1 then some (⟨b2, off2, none⟩ : Addr) else some ⟨b2, off2 + 1, none⟩) := ⟨_, rfl⟩
          rw [← hA] at HTL
          clear hfin
          rcases Decidable.em (cl = 1) with e1 | e1
          · rw [if_pos e1] at hA
            subst hA
            subst e1
            have ht0 : t = [] := List.length_eq_zero_iff.1 (by omega)
            subst ht0
            go_wp2_with (go_at_call 83; refine (HH.out _).mono ?_; rintro e w3 ⟨rfl, rfl⟩)
            exact ⟨⟨k + 1, by omega, by go_num, HUP.out.setCell (fun _ => by simp) _, HFIN.out _ HTL.out⟩, by simp [intOf]; omega⟩
          · rw [if_neg e1] at hA
            subst hA
            go_wp2_with (go_at_call 83; refine (HH.out _).mono ?_; rintro e w3 ⟨rfl, rfl⟩)
            exact ⟨⟨k + 1, by omega, by go_num, HUP.out.setCell (fun _ => by simp) _, HFIN.out _ HTL.out⟩, by simp [intOf]; omega⟩
        · go_wp2_with (go_at_call 83; refine (HH.out _).mono ?_; rintro e w3 ⟨rfl, rfl⟩)
          exact ⟨⟨k + 1, by omega, by go_num, HUP.out, by rw [HKP.out (by simp [hx])]; exact HRG.out⟩, by simp [intOf]; omega⟩
    · obtain rfl : k = all.length := by omega
      rw [List.take_length, List.drop_length, List.append_nil] at hrg
      go_wp2
      refine bodyPost_end (results_none rfl _ _ _) rfl ?_
      exact ⟨rfl, HUP.out, hrg⟩
end Go.Proofs.Ytaofmejfdmbfoaa
namespace Go.Proofs.Ytaofmejfdmbfoaa
open Go.ChangeShapes Go.WideShapes Go.ChangeAt Go.RowKit Go.Ln Go.Fs
set_option maxRecDepth 100000 in
theorem clone_any (all : Gr) (sa : Option Addr) (cap : Nat) (hl : all.length ≤ 1000) (h0 : all ≠ []) (w : World) (hg : GrOff w noB sa all) :
    Calls Try.prog 21 #[.slice sa all.length cap] w fun e w' => ∃ g cp, e = .returned (.slice (some ⟨g, 0, none⟩) all.length cp) ∧ RowGr w.heap.size noB w' (.slice (some ⟨g, 0, none⟩) all.length cp) all ∧ Below w.heap.size w w' := by
  obtain ⟨l0, hl0⟩ : ∃ l, all[0]? = some l := ⟨all[0]'(List.length_pos_iff.2 h0), List.getElem?_eq_getElem _⟩
  obtain ⟨b0, off0, _, _, rfl, _⟩ := hg 0 l0 hl0
  have hpos : 0 < all.length := List.length_pos_iff.2 h0
  have hex : ∃ vs : List Value, vs.length = all.length ∧ (∀ (k : Nat) (l : List Int), all[k]? = some l → ∃ (al : Option Addr) (cl : Nat), vs[k]? = some (Value.slice al l.length cl) ∧ ElemOk w noB al l cl) ∧ ∀ (j : Nat) (u : Value), vs[j]? = some u → w.cell? ((⟨b0, off0, none⟩ : Addr).add j) = some u := by
    have hex : ∀ k : Nat, ∃ v : Value, ∀ l : List Int, all[k]? = some l → (∃ (al : Option Addr) (cl : Nat), v = Value.slice al l.length cl ∧ ElemOk w noB al l cl) ∧ w.cell? ⟨b0, off0 + k, none⟩ = some v := by
      intro k
      cases hk : all[k]? with
      | none => exact ⟨.bool true, fun l h => by cases h⟩
      | some l =>
        obtain ⟨b, off, al, cl, h1, _, h3, _, h5⟩ := hg k l hk
        injection h1 with h1
        injection h1 with h1 h2 _
        subst h1; subst h2
        exact ⟨_, fun l' h => by cases h; exact ⟨⟨al, cl, rfl, h5⟩, h3⟩⟩
    obtain ⟨f, hf⟩ := Classical.axiomOfChoice hex
    have hget : ∀ (k : Nat) (l : List Int), all[k]? = some l → ((List.range all.length).map f)[k]? = some (f k) := fun k l hk => by
      have := (List.getElem?_eq_some_iff.1 hk).1
      simp [this]
    refine ⟨(List.range all.length).map f, by simp, fun k l hk => ?_, fun j u hj => ?_⟩
    · obtain ⟨⟨al, cl, h1, h2⟩, _⟩ := hf k l hk
      exact ⟨al, cl, by rw [hget k l hk, h1], h2⟩
    · have hjl : j < all.length := by
        have := (List.getElem?_eq_some_iff.1 hj).1
        simpa using this
      have hk : all[j]? = some all[j] := List.getElem?_eq_getElem hjl
      rw [hget j _ hk] at hj
      cases hj
      rw [WideShapes.add_plain]
      exact (hf j _ hk).2
  obtain ⟨vs, hv1, hv2, hv3⟩ := hex
  have hr0 : Row w.heap.size (w.alloc (.cells #[] 25)) 25 (.slice (some ⟨w.heap.size, 0, none⟩) 0 0) [] := ⟨rfl, .inr ⟨w.heap.size, 0, _, rfl, Nat.le_refl _, heap_alloc_new _ _, Nat.le_refl _, Nat.zero_le _, rfl, rfl⟩⟩
  have hv4 : ∀ (k : Nat) (u : Value), vs[k]? = some u → ∃ b off, (some ⟨b0, off0, none⟩ : Option Addr) = some ⟨b, off, none⟩ ∧ (w.alloc (.cells #[] 25)).cell? ⟨b, off + k, none⟩ = some u := fun k u hu => by
    have h := hv3 k u hu
    rw [WideShapes.add_plain] at h
    exact ⟨b0, off0, rfl, ((Below.refl w.heap.size w).alloc (Nat.le_refl _) (.cells #[] 25)).cell (p := ⟨b0, off0 + k, none⟩) (cell_lt h) |>.trans h⟩
  have hv5 : ∀ u ∈ vs, u.oneCell' = true := fun u hu => by
    obtain ⟨k, hk⟩ := List.getElem?_of_mem hu
    have hkl : k < all.length := by rw [← hv1]; exact (List.getElem?_eq_some_iff.1 hk).1
    obtain ⟨al, cl, h1, _⟩ := hv2 k all[k] (List.getElem?_eq_getElem hkl)
    rw [hk] at h1
    cases h1
    rfl
  have hfin : ∀ g cp w', Row w.heap.size w' 25 (.slice (some ⟨g, 0, none⟩) all.length cp) vs → Below w.heap.size w w' → RowGr w.heap.size noB w' (.slice (some ⟨g, 0, none⟩) all.length cp) all := fun g cp w' hr hb => ⟨vs, hr, hv1, fun k l hk => by
    obtain ⟨al, cl, h1, h2⟩ := hv2 k l hk
    refine ⟨al, cl, h1, h2.kept hb.size (fun b hlt _ => hb.block b hlt) (fun b hlt h => ?_)⟩
    rcases h with h | h
    · have := (hr.lt b h).1
      omega
    · exact h.elim⟩
  have HF := Lib.hid hfin; have HR0 := Lib.hid hr0; have HV4 := Lib.hid hv4; have HV5 := Lib.hid hv5
  clear hfin hv2 hv3 hv4 hv5 hg h0 hr0
  have qT : ∀ (w : World) (a : Addr) (n c : Nat), (binOp .eql 22 (.slice (some a) n c) (.slice none 0 0)).run Try.prog w = .ok (.bool false) w := fun w a n c => Lib.run_eql_slice_nil w 22 25 (some a) n c 0 0 underG
  go_enter Try.func21, Try.ntmps21
  go_wp2_with (at_builtin; apply wpList_apps (B := w.heap.size) (xs := []) (sa := some ⟨b0, off0, none⟩) (n := all.length) (c := cap) (news := vs) (hnl := hv1) (ho := rfl) (hgd := rfl) (hty := rfl) (hs := rfl) (hx := rfl); (case hr => exact HR0.out); (case hB => simp); (case hx2 => exact HV4.out); (case h1 => exact HV5.out); (case hb => simp; omega); intro v3 w3 hr3 hg3; (have hb3 : Below w.heap.size w w3 := below_grown hg3); (rw [List.nil_append] at hr3); obtain ⟨a3, cp3, hv3, hn3, hc3⟩ := hr3.shape; (rw [hv1] at hv3); (obtain ⟨g3, rfl⟩ : ∃ g, a3 = some ⟨g, 0, none⟩ := by (obtain ⟨g, h1, _⟩ := hc3 0 (vs[0]'(by omega)) (List.getElem?_eq_getElem _); exact ⟨g, h1⟩)); subst hv3; have HR3 := Lib.hid hr3; have HB3 := Lib.hid hb3; clear hr3 hb3 hg3 hn3 hc3)
  go_ret
  exact ⟨g3, cp3, rfl, HF.out _ _ _ HR3.out HB3.out, HB3.out⟩
end Go.Proofs.Ytaofmejfdmbfoaa
namespace Go.Proofs.Ytaofmejfdmbfoaa
open Go.ChangeShapes Go.WideShapes Go.ChangeAt Go.RowKit Go.Ln Go.Fs
theorem emptyAll_false {all : Gr} {l : List Int} (h : l ∈ all) (he : l.isEmpty = false) : emptyAll all = false := by
  rw [Bool.eq_false_iff]
  intro h2
  have := List.all_eq_true.1 h2 l h
  rw [he] at this; cases this
set_option maxRecDepth 100000 in
set_option maxHeartbeats 1000000 in
theorem ifg_any (all : Gr) (a : Option Addr) (cap : Nat) (w : World) (hl : all.length ≤ 1000) (hi : GrAt w a all) :
    Calls Try.prog 86 #[.slice a all.length cap, .func (.func 83) #[] #[]] w fun e w' => ∃ n : Int, e = .returned (.int .i64 n) ∧ decide (0 ≤ n) = (!emptyAll all) ∧ w' = w := by
  have HI := Lib.hid hi
  clear hi
  obtain ⟨ans, hans⟩ : ∃ b, (!emptyAll all) = b := ⟨_, rfl⟩
  rw [hans]
  have HA := Lib.hid hans; clear hans
  go_enter Try.func86, Try.ntmps86
  go_wp2
  go_loopw [8] (fun i wr => ∃ k : Nat, k ≤ all.length ∧ i = .int .i64 k ∧ emptyAll (all.take k) = true ∧ wr = w) (fun i _ => all.length - (intOf i).toNat)
  case atStart => exact ⟨0, Nat.zero_le _, rfl, rfl, rfl⟩
  case round =>
    obtain ⟨k, hk, rfl, hn, rfl⟩ := hrel
    have HN := Lib.hid hn
    clear hn
    by_cases hlt : k < all.length
    · obtain ⟨l, hy⟩ : ∃ l, all[k]? = some l := ⟨all[k], List.getElem?_eq_getElem hlt⟩
      obtain ⟨b, off, al, cl, rfl, hb, hcc, _, hml⟩ := HI.out k l hy
      have HSN := Lib.hid (emptyAll_snoc hy)
      have HM := Lib.hid (List.mem_of_getElem? hy)
      have HH := Lib.hid (hasHead_any l al cl)
      have hlm : (l.length : Int) ≤ 9223372036854775807 := by unfold maxLen at hml; omega
      clear hy hml
      cases hpy : l.isEmpty with
      | false =>
        have hans : true = ans := by rw [← HA.out, emptyAll_false HM.out hpy]; rfl
        subst hans
        have HP := Lib.hid hpy; clear hpy
        go_wp2_with (go_at_call 83; refine (HH.out _).mono ?_; rintro e w2 ⟨rfl, rfl⟩; rw [HP.out])
        go_ret
        exact ⟨_, rfl, by simp, rfl⟩
      | true =>
        have HP := Lib.hid hpy; clear hpy
        go_wp2_with (go_at_call 83; refine (HH.out _).mono ?_; rintro e w2 ⟨rfl, rfl⟩; rw [HP.out])
        exact ⟨⟨k + 1, by omega, by go_num, by rw [HSN.out, HN.out, HP.out]; rfl, by first | rfl | trivial⟩, by simp [intOf]; omega⟩
    · obtain rfl : k = all.length := by omega
      have hn := HN.out
      rw [List.take_length] at hn
      have hans : false = ans := by rw [← HA.out, hn]; rfl
      subst hans
      go_wp2
      go_ret
      exact ⟨_, rfl, by simp, rfl⟩
set_option maxRecDepth 100000 in
set_option maxHeartbeats 1000000 in
theorem cfg_any (all : Gr) (a : Option Addr) (cap : Nat) (w : World) (hl : all.length ≤ 1000) (hi : GrAt w a all) :
    Calls Try.prog 82 #[.slice a all.length cap, .func (.func 83) #[] #[]] w fun e w' => e = .returned (.bool (!emptyAll all)) ∧ w' = w := by
  have H := Lib.hid (ifg_any all a cap w hl hi)
  clear hi
  generalize (!emptyAll all) = ans at *
  go_enter Try.func82, Try.ntmps82
  go_wp2_with (go_at_call 86; refine H.out.mono ?_; rintro e w2 ⟨n, rfl, hn, rfl⟩)
  go_ret
  exact ⟨by rw [← hn]; simp, rfl⟩
end Go.Proofs.Ytaofmejfdmbfoaa
namespace Go.Proofs.Ytaofmejfdmbfoaa
open Go.ChangeShapes Go.WideShapes Go.ChangeAt Go.RowKit Go.Ln Go.Fs
theorem tailsM_bit (all : Gr) (b : Nat) : (tailsM all).testBit b = all.any fun l => l.tail.any fun p => decide (p.toNat = b) := by
  have : ∀ (all : Gr) (s : Nat), (all.foldl (fun s l => s ||| maskL l.tail) s).testBit b = (s.testBit b || all.any fun l => l.tail.any fun p => decide (p.toNat = b)) := by
    intro all
    induction all with
    | nil => intro s; simp
    | cons l all ih => intro s; rw [List.foldl_cons, ih, Nat.testBit_or, maskL_bit, List.any_cons, Bool.or_assoc]
  have h := this all 0
  simpa [tailsM] using h
theorem RowGr.kept {B : Nat} {no : Nat → Prop} {w w' : World} {v : Value} {ls : Gr} (h : RowGr B no w v ls) (hs : w.heap.size ≤ w'.heap.size) (ho : ∀ b, v.ownBlock = some b → ¬ no b) (hb : ∀ b, b < w.heap.size → ¬ no b → w'.heap[b]? = w.heap[b]?) : RowGr B no w' v ls := by
  obtain ⟨vs, h1, h2⟩ := h
  exact ⟨vs, h1.of_block fun k hk => hb k (h1.lt k hk).2 (ho k hk), h2.kept hs (fun b hlt hn => hb b hlt (fun e => hn (.inr e))) (fun _ _ h => h)⟩
theorem RowGr.wider {B : Nat} {no no' : Nat → Prop} {w : World} {v : Value} {ls : Gr} (h : RowGr B no w v ls) (hn : ∀ b, b < w.heap.size → no' b → no b) : RowGr B no' w v ls := by
  obtain ⟨vs, h1, h2⟩ := h
  exact ⟨vs, h1, h2.kept (Nat.le_refl _) (fun _ _ _ => rfl) (fun b hlt h => by rcases h with h | h; exact .inl h; exact .inr (hn b hlt h))⟩
set_option maxRecDepth 100000 in
set_option maxHeartbeats 20000000 in
theorem merge_any (all : Gr) (sa : Option Addr) (cap : Nat) (w : World) (hl : all.length ≤ 1000) (h0 : all ≠ []) (hlen : ∀ l ∈ all, l.length ≤ 1000) (ht : tot all ≤ 1000) (hi : GrAt w sa all) (hpos : ∀ l ∈ all, ∀ x ∈ l, (0 : Int) ≤ x ∧ x < 19) :
    Calls Try.prog 76 #[.slice sa all.length cap] w fun e w' => ∃ v b, e = .returned (.tuple #[v, .bool b]) ∧ Below w.heap.size w w' ∧ ((b = true ∧ ∃ m, mergeL all = some m ∧ Row w.heap.size w' 3 v (ints m)) ∨ (b = false ∧ mergeL all = none)) := by
  have HP := Lib.hid hpos; clear hpos
  have HLEN := Lib.hid hlen; clear hlen
  have HCL := Lib.hid (clone_any all sa cap hl h0 w (GrOff.of_gr hi fun b h => h))
  obtain ⟨n, hn⟩ : ∃ n, all.length = n := ⟨_, rfl⟩
  have HN := Lib.hid hn
  rw [hn] at HCL hl ⊢
  clear hi hn h0
  go_enter Try.func76, Try.ntmps76
  go_wp2
  go_step3
  go_wp2_with (go_at_call 21; refine HCL.out.mono ?_; rintro e w2 ⟨g, cp, rfl, hr, hu⟩; have HR := Lib.hid hr; have HU := Lib.hid hu; clear hr hu)
  go_step3
  go_wp2
  have hgB := HR.out.lt g rfl
  have hzz := HU.out.size
  go_loopg [5] (tot all) (fun gk mg wr => ∃ (m : List Int) (rest : Gr), gk = tot rest ∧ rest.length = n ∧ Below w.heap.size w wr ∧ w2.heap.size ≤ wr.heap.size ∧ Row w2.heap.size wr 3 mg (ints m) ∧ RowGr w.heap.size (fun b => w2.heap.size ≤ b) wr (.slice (some ⟨g, 0, none⟩) n cp) rest ∧ mergeL all = (mergeL rest).map (m ++ ·) ∧ (∀ l ∈ rest, ∀ x ∈ l, (0 : Int) ≤ x ∧ x < 19) ∧ (∀ l ∈ rest, l.length ≤ 1000) ∧ m.length + tot rest ≤ tot all)
  case atStart => exact ⟨[], all, rfl, HN.out, HU.out, Nat.le_refl _, Row.nil _ _ _, HR.out.wider (fun b hlt h => by omega), by simp, HP.out, HLEN.out, by simp⟩
  case round =>
    obtain ⟨m, rest, hgk, hrl, hup, hz2, hrow, hrg, hmg, hp, hle, htt⟩ := hrel
    obtain ⟨wO, hwO⟩ : ∃ x, x = wr := ⟨wr, rfl⟩
    subst hwO
    subst hgk
    obtain ⟨mgO, hmgO⟩ : ∃ x, x = u5 := ⟨u5, rfl⟩
    subst hmgO
    obtain ⟨ga, gc, hgv, hgr, _⟩ := hrg.shape
    rw [hrl] at hgv
    injection hgv with hga _ hgc
    subst hga; subst hgc
    have hbe := behind_any wO rest (some ⟨g, 0, none⟩) cp (by omega) hle hgr hp wO (Below.refl _ _)
    rw [hrl] at hbe
    have HBE := Lib.hid hbe
    have hts := tailsM_small hp
    have HFB := Lib.hid (fun (x : Int) (h0 : 0 ≤ x) => tailsM_free hp h0 (tailsM rest) (tailsM_bit rest))
    have HRL := Lib.hid hrl; have HUP := Lib.hid hup; have HRW := Lib.hid hrow; have HRG := Lib.hid hrg; have HMG := Lib.hid hmg; have HPR := Lib.hid hp; have HLE := Lib.hid hle
    clear hrl hup hrow hrg hmg hp hle hgr hbe
    generalize hN : tailsM rest = N at *
    clear hN
    go_wp2_with (go_at_call 80; refine HBE.out.mono ?_; rintro e w3 ⟨rfl, hu⟩; have HU3 := Lib.hid hu; clear hu)
    have hz3 := HU3.out.size
    have hB4 : Below wO.heap.size wO (w3.alloc (.cells #[.int .u64 (N : Nat)] 75)) := HU3.out.alloc hz3 _
    have hc4 : (w3.alloc (.cells #[.int .u64 (N : Nat)] 75)).cell? ⟨w3.heap.size, 0, none⟩ = some (.int .u64 (N : Nat)) := by rw [World.cell?_alloc_at _ _ _ _ rfl]; rfl
    have hs4 : w3.heap.size < (w3.alloc (.cells #[.int .u64 (N : Nat)] 75)).heap.size := by simp
    generalize w3.alloc (.cells #[.int .u64 (N : Nat)] 75) = w4 at *
    have HB4 := Lib.hid hB4
    have hz4 := hB4.size
    clear hB4
    go_loopg [5, 15] n (fun gi mg2 i wr2 => mg2 = mgO ∧ ∃ k : Nat, gi + k = n ∧ i = .int .i64 k ∧ Below w4.heap.size w4 wr2 ∧ nextK rest k = none)
    case atStart => exact ⟨rfl, 0, by omega, rfl, Below.refl _ _, rfl⟩
    case round =>
      obtain ⟨rfl, k, hgi, rfl, hup2, hnk⟩ := hrel
      have HNK := Lib.hid hnk
      have hb5 : Below wO.heap.size wO wr := HB4.out.trans (hup2.mono hz4)
      have hz5 := hup2.size
      have hcb := (hup2.cell (p := ⟨w3.heap.size, 0, none⟩) hs4).trans hc4
      have hrg5 := HRG.out.below hb5
      have HB5 := Lib.hid hb5; have HRG5 := Lib.hid hrg5; have HUP2 := Lib.hid hup2
      by_cases hlt : k < n
      · obtain ⟨l, hy⟩ : ∃ l, rest[k]? = some l := ⟨rest[k]'(by rw [HRL.out]; exact hlt), List.getElem?_eq_getElem _⟩
        obtain ⟨al, cl, hc, hf, hgl, hE⟩ := hrg5.at hy
        have HY := Lib.hid hy
        have hl1 := HLE.out l (List.mem_of_getElem? hy)
        have hpl := HPR.out l (List.mem_of_getElem? hy)
        clear hnk hb5 hrg5 hup2 hy
        cases l with
        | nil =>
          simp only [List.length_nil] at hc
          clear hE hpl
          go_wp2
          go_quiet (fail)
          go_wp2
          go_roundg (gk - 1)
          case measure => omega
          case rel => exact ⟨rfl, k + 1, by omega, by go_num, HUP2.out.trans ((below_drewN _ _).mono hz5), nextK_next HY.out HNK.out (fun x hx => by cases hx)⟩
        | cons x t =>
          obtain ⟨b2, off2, rfl, hb2, hc2, hnb⟩ := hE.2.2 0 x rfl
          have hnb2 : b2 < w2.heap.size := Nat.lt_of_not_le fun h => hnb (.inr h)
          rw [Nat.add_zero] at hc2
          rw [List.length_cons] at hc
          have htc : t.length + 1 ≤ cl := hE.1
          have hxr := hpl x (by simp)
          have hbit := HFB.out x hxr.1
          have hs5 : w3.heap.size < wr.heap.size := by omega
          have KS : RowKit.Hid (∀ w', Below wr.heap.size wr w' → (w'.cell? ⟨w3.heap.size, 0, none⟩ = some (.int .u64 (N : Nat)) ∧ w'.cell? ⟨b2, off2, none⟩ = some (.int .i64 x))) := Lib.hid (fun w' hq => ⟨(hq.cell (p := ⟨w3.heap.size, 0, none⟩) hs5).trans hcb, (hq.cell (p := ⟨b2, off2, none⟩) hb2).trans hc2⟩)
          have HBB := Lib.hid (Below.refl wr.heap.size wr)
          have hhb : hasB N x = !freeB rest x := by
            unfold hasB
            rw [decide_eq_true hxr.1, decide_eq_true hxr.2, hbit]; rfl
          have HHB := Lib.hid hhb
          have hN18 : N < 18446744073709551616 := by omega
          clear hE hpl hbit hhb
          cases hfr : freeB rest x with
          | true =>
            have hhx : hasB N x = false := by rw [HHB.out, hfr]; rfl
            have HHX := Lib.hid hhx
            have HFR := Lib.hid hfr
            clear hhx hfr
            go_wp2
            apply Code.wp_mono (Q := RegS (fun w6 => Below wr.heap.size wr w6) _)
            rotate_left
            · go_region_held3 (fun w' => w'.cell? ⟨w3.heap.size, 0, none⟩ = some (.int .u64 (N : Nat)) ∧ w'.cell? ⟨b2, off2, none⟩ = some (.int .i64 x)) (first | exact KS.out _ HBB.out | exact KS.out _ (HBB.out.drew)) (first
                | (go_at_call 48; refine (has_any N hN18 x _).mono ?_; rintro e w5 ⟨rfl, hu⟩; rw [HHX.out]; have HBB := Lib.hid (show Below wr.heap.size wr w5 from ⟨hu.os, hu.tape, hu.output, hu.size, hu.block⟩); clear hu))
              all_goals exact ⟨rfl, HBB.out⟩
            · refine RegS.out ?_
              intro w6 hw6
              have hz6 := hw6.size
              have hc6 := (hw6.cell (p := ⟨b2, off2, none⟩) hb2).trans hc2
              have hrw6 := (HRW.out.below HB5.out).below hw6
              have hrg6 := HRG5.out.below hw6
              have hnx : nextO rest = some x := nextK_stop HY.out HNK.out HFR.out
              obtain ⟨hs1, hs2⟩ := merge_step HMG.out hnx htt
              have hml : m.length < 1000 := by simp only [List.length_append, List.length_cons, List.length_nil] at hs2; omega
              have htw := tot_wipe_lt (nextO_mem hnx).2
              have HS1 := Lib.hid hs1; have HS2 := Lib.hid hs2
              have hBw6 := (HUP.out.trans (HB5.out.mono (HUP.out.size))).trans (hw6.mono (HUP.out.trans (HB5.out.mono HUP.out.size)).size)
              have hzo : w2.heap.size ≤ w6.heap.size := by have := HB5.out.size; omega
              have HRW6 := Lib.hid hrw6; have HRG6 := Lib.hid hrg6; have HBW6 := Lib.hid hBw6
              have hTO := fun w7 h => takeOut_any w.heap.size (fun b => w2.heap.size ≤ b) rest g cp (by rw [HRL.out]; exact hl) x w7 h HLE.out
              rw [HRL.out] at hTO
              have HTO := Lib.hid hTO
              clear hrw6 hrg6 hnx hs1 hs2 hBw6 hw6 hTO hcb hc4 hc
              go_wp2_with (first
                | (at_builtin; apply wpList_app TI (B := w2.heap.size) (xs := ints m) (g := _) (c := 1) (y := .int .i64 x) (ho := rfl) (hgd := rfl) (hty := rfl) (hs := rfl) (hx := rfl); (case hr => exact World.ownsRow.alloc HRW6.out _); (case hB => simp; omega); (case hy => simp); (case h1 => rfl); (case hb => simp [ints]; omega); intro v7 w7 hg7; (have hr7 : RowGr w.heap.size (fun b => w2.heap.size ≤ b) w7 (.slice (some ⟨g, 0, none⟩) n cp) rest := (HRG6.out.below ((Below.refl _ _).alloc (Nat.le_refl _) _)).kept hg7.grow.size (fun b hb => by (have hgb : g = b := (by simpa [Value.ownBlock] using hb)); omega) (fun b hlt hne => hg7.grow.block b hlt (fun e => hne (by have := (HRW6.out.lt b e.symm).1; omega)))); have hc7 := (cell_of_block (o := off2) (hg7.grow.block b2 (by simp; omega) (fun e => by have := (HRW6.out.lt b2 e.symm).1; omega))).trans ((((Below.refl w6.heap.size w6).alloc (Nat.le_refl _) (.cells #[.int .i64 x] 3)).cell (p := ⟨b2, off2, none⟩) (Nat.lt_of_lt_of_le hnb2 hzo)).trans hc6); have HG7 := Lib.hid hg7; have HR7 := Lib.hid hr7; clear hg7 hr7)
                | (go_at_call 81; refine (HTO.out _ HR7.out).mono ?_; rintro e w8 ⟨rfl, hu8, hr8⟩; have HU8 := Lib.hid hu8; have HR8 := Lib.hid hr8; clear hu8 hr8))
              have hr7' : Row w2.heap.size (w6.alloc (.cells #[.int .i64 x] 3)) 3 _ (ints m) := World.ownsRow.alloc HRW6.out _
              have hb67 : Below w2.heap.size w6 w7 := ((Below.refl w2.heap.size w6).alloc (by omega) _).trans (HG7.out.below hr7' (Nat.le_refl _) (by simp; omega))
              have hb7 : Below w.heap.size w w7 := HBW6.out.trans (hb67.mono hzz)
              have hz7 := hb67.size
              have hb8 : Below w.heap.size w w8 := hb7.trans (HU8.out.below _ hb7.size (by intro y hy; simp at hy; omega))
              have hz8 := HU8.out.size
              have hrow8 : Row w2.heap.size w8 3 v7 (ints (m ++ [x])) := by
                have h := HG7.out.own
                rw [← ints_snoc] at h
                exact h.of_block fun b hb => HU8.out.block b (h.lt b hb).2 (by simp; have := (h.lt b hb).1; omega)
              have hr8 := HR8.out
              unfold takeW at hr8
              rw [takeW_wipe HFR.out] at hr8
              go_roundg (tot (wipe rest x))
              case measure => exact htw
              case rel => exact ⟨m ++ [x], wipe rest x, rfl, by rw [wipe_length, HRL.out], hb8, by omega, hrow8, hr8, HS1.out, wipe_rng HPR.out, wipe_lens HLE.out, HS2.out⟩
          | false =>
            have hhx : hasB N x = true := by rw [HHB.out, hfr]; rfl
            have HHX := Lib.hid hhx
            have HFR := Lib.hid hfr
            clear hhx hfr
            go_wp2
            apply Code.wp_mono (Q := RegS (fun w6 => Below wr.heap.size wr w6) _)
            rotate_left
            · go_region_held3 (fun w' => w'.cell? ⟨w3.heap.size, 0, none⟩ = some (.int .u64 (N : Nat)) ∧ w'.cell? ⟨b2, off2, none⟩ = some (.int .i64 x)) (first | exact KS.out _ HBB.out | exact KS.out _ (HBB.out.drew)) (first
                | (go_at_call 48; refine (has_any N hN18 x _).mono ?_; rintro e w5 ⟨rfl, hu⟩; rw [HHX.out]; have HBB := Lib.hid (show Below wr.heap.size wr w5 from ⟨hu.os, hu.tape, hu.output, hu.size, hu.block⟩); clear hu))
              all_goals exact ⟨rfl, HBB.out⟩
            · refine RegS.out ?_
              intro w6 hw6
              go_wp2
              go_roundg (gk - 1)
              case measure => omega
              case rel => exact ⟨rfl, k + 1, by omega, by go_num, HUP2.out.trans (hw6.mono hz5), nextK_next HY.out HNK.out (fun y hy => by cases hy; exact HFR.out)⟩
      · obtain rfl : k = n := by omega
        have hno : nextO rest = none := by rw [← nextK_all, HRL.out]; exact HNK.out
        have hm0 := mergeL_none hno
        obtain ⟨ga, gc, hgv, hgr5, _⟩ := hrg5.shape
        rw [HRL.out] at hgv
        injection hgv with hga _ hgc
        subst hga; subst hgc
        have hcf := cfg_any rest (some ⟨g, 0, none⟩) cp wr (by rw [HRL.out]; exact hl) hgr5
        rw [HRL.out] at hcf
        have HCF := Lib.hid hcf
        have hrw5 := HRW.out.below hb5
        have HRW5 := Lib.hid hrw5
        have hbf := HUP.out.trans (hb5.mono HUP.out.size)
        have HBF := Lib.hid hbf
        have hmg := HMG.out
        rw [hm0] at hmg
        have HMG2 := Lib.hid hmg
        clear hcf hrw5 hbf hmg hm0 hno hgr5 hnk hb5 hup2 hcb hrg5
        go_wp2_with (go_at_call 82; refine HCF.out.mono ?_; rintro e w6 ⟨rfl, rfl⟩)
        try rw [Exit.noGoto_ret]
        go_ret2
        have hmg := HMG2.out
        refine ⟨_, _, rfl, HBF.out, ?_⟩
        cases he : emptyAll rest with
        | true =>
          rw [he, if_pos rfl] at hmg
          have h := HRW5.out
          exact .inl ⟨rfl, m, by rw [hmg]; simp, h.1, by rcases h.2 with h | ⟨gg, c2, cur, h3, h4, h5⟩; exact .inl h; exact .inr ⟨gg, c2, cur, h3, Nat.le_trans hzz h4, h5⟩⟩
        | false =>
          rw [he, if_neg (by simp)] at hmg
          exact .inr ⟨rfl, by rw [hmg]; rfl⟩
end Go.Proofs.Ytaofmejfdmbfoaa
namespace Go.Proofs.Ytaofmejfdmbfoaa
open Go.ChangeShapes Go.WideShapes Go.ChangeAt Go.RowKit Go.Ln Go.Fs
/-- a graph that is open, with all that it has: Mb is the block of the orders that were found -/
def GraphF (w : World) (O Mb : Nat) (g : Gr) : Prop := ∃ aP cP vA Bk, Obj4 w O (.slice aP (3 + g.length) cP) vA (.slice (some ⟨Bk, 0, none⟩) (3 + g.length) (3 + g.length)) (.map (some Mb)) ∧ Row 0 w 75 vA (sets (absF (pars g))) ∧ BelAt w Bk (3 + g.length) (fun c => blN (absF (pars g)) (3 + g.length) c) ∧ GrAt w aP (pars g) ∧ w.heap[Mb]? = some (.map #[] 0)
theorem GraphF.graph {w : World} {O Mb : Nat} {g : Gr} (h : GraphF w O Mb g) : GraphAt w O g := by
  obtain ⟨aP, cP, vA, Bk, h1, h2, h3, _⟩ := h
  exact ⟨_, _, _, _, h1, h2, h3⟩
def OpenF (g : Gr) (cl : List Int) (w : World) (e : Ending) (w' : World) : Prop :=
  Below w.heap.size w w' ∧ ((okOpen g cl = true ∧ ∃ O Mb, e = .returned (.tuple #[.pointer (some ⟨O, 0, none⟩), .int .i64 0]) ∧ w.heap.size ≤ Mb ∧ GraphF w' O Mb g) ∨ (okOpen g cl = false ∧ e = .returned (.tuple #[.pointer none, .int .i64 2])))
set_option maxRecDepth 100000 in
set_option maxHeartbeats 4000000 in
theorem openF_any (W0 : World) (g : Gr) (sa : Option Addr) (cap : Nat) (hl : (g.length : Int) ≤ 9223372036854775807) (hi : GrAt W0 sa g) (cl : List Int) (ca : Option Addr) (cc : Nat) (hcl : (cl.length : Int) ≤ 1000) (w : World) (hB : Below W0.heap.size W0 w) (hci : IntsAt w ca cl) :
    Calls Try.prog 29 #[.slice sa g.length cap, .slice ca cl.length cc] w (OpenF g cl w) := by
  have hiw := hi.below hB
  have HI := Lib.hid hi; clear hi
  have HB := Lib.hid hB; clear hB
  have HCI := Lib.hid hci; clear hci
  unfold OpenF okOpen
  cases hg : goodB g with
  | false =>
    have HG := Lib.hid hg; clear hg
    go_enter Try.func29, Try.ntmps29
    go_wp2_with (go_at_call 57; refine (formed_any W0 g _ _ hl HI.out _ HB.out).mono ?_; rintro e w2 ⟨rfl, hu⟩; rw [HG.out]; have HU := Lib.hid hu; clear hu)
    go_ret2
    exact ⟨HU.out, .inr ⟨rfl, rfl⟩⟩
  | true =>
    have hlen := good_len hg
    have HG := Lib.hid hg; clear hg
    have hmm : ∀ w : World, (Instr.makeMap 58 none).run Try.prog w = .ok (.map (some w.heap.size)) (w.alloc (.map #[] 0)) := fun _ => rfl
    go_enter Try.func29, Try.ntmps29
    go_wp2_with (first
      | (go_at_call 57; refine (formed_any W0 g _ _ hl HI.out _ HB.out).mono ?_; rintro e w2 ⟨rfl, hu⟩; rw [HG.out]; obtain ⟨gv, hgl, hgv, hgc⟩ := gr_vals ((HI.out.below (HB.out.trans (hu.mono HB.out.size)))); have HGV := Lib.hid hgv; have HGC := Lib.hid hgc; have hm3 := make_three w2; have HU := Lib.hid hu; clear hu hgv hgc)
      | (at_builtin; apply wpList_apps (B := w2.heap.size) (xs := [.slice none 0 0, .slice none 0 0, .slice none 0 0]) (sa := sa) (n := g.length) (c := cap) (news := gv) (hnl := hgl) (ho := rfl) (hgd := rfl) (hty := rfl) (hs := rfl) (hx := rfl); (case hr => exact three_row w2); (case hB => simp); (case hx2 => (intro k u hu; obtain ⟨b, off, h1, h2, h3⟩ := HGC.out k u hu; exact ⟨b, off, h1, ((Below.refl _ _).alloc (Nat.le_refl _) _).cell (p := ⟨b, off + k, none⟩) h2 |>.trans h3⟩)); (case h1 => (intro u hu; obtain ⟨k, hk⟩ := List.getElem?_of_mem hu; obtain ⟨l, al, cp, _, rfl, _⟩ := HGV.out k u hk; rfl)); (case hb => simp; omega); intro v3 w3 hr3 hg3; obtain ⟨aP, cP, hvP, _, hcP⟩ := hr3.shape; rw [show ([Value.slice none 0 0, .slice none 0 0, .slice none 0 0] ++ gv).length = 3 + g.length by simp [hgl]; omega] at hvP; subst hvP; have HR3 := Lib.hid hr3; have HG3 := Lib.hid hg3; have HCP := Lib.hid hcP; clear hr3 hg3 hcP))
    have hz2 := HU.out.size
    have hz3 := HG3.out.size
    simp at hz3
    have hb23 : Below w2.heap.size w2 w3 := below_grown HG3.out
    have hbw3 : Below w.heap.size w w3 := HU.out.trans (hb23.mono hz2)
    have hgr3 : GrAt w3 aP (pars g) := pars_at hgl HGV.out hb23 HCP.out
    have hbb : Below w3.heap.size w3 ((w3.alloc (.map #[] 0)).alloc (.cells #[.slice aP (3 + g.length) cP, .slice none 0 0, .slice none 0 0, .map (some w3.heap.size)] 60)) := ((Below.refl _ _).alloc (Nat.le_refl _) _).alloc (by simp) _
    have hob : Obj4 ((w3.alloc (.map #[] 0)).alloc (.cells #[.slice aP (3 + g.length) cP, .slice none 0 0, .slice none 0 0, .map (some w3.heap.size)] 60)) (w3.heap.size + 1) (.slice aP (3 + g.length) cP) (.slice none 0 0) (.slice none 0 0) (.map (some w3.heap.size)) := by
      have := heap_alloc_new (w3.alloc (.map #[] 0)) (.cells #[.slice aP (3 + g.length) cP, .slice none 0 0, .slice none 0 0, .map (some w3.heap.size)] 60)
      unfold Obj4; simpa using this
    have hmb : ((w3.alloc (.map #[] 0)).alloc (.cells #[.slice aP (3 + g.length) cP, .slice none 0 0, .slice none 0 0, .map (some w3.heap.size)] 60)).heap[w3.heap.size]? = some (.map #[] 0) := by
      rw [Below.heap_alloc _ _ _ (by simp)]; exact heap_alloc_new _ _
    generalize hwb : (w3.alloc (.map #[] 0)).alloc (.cells #[.slice aP (3 + g.length) cP, .slice none 0 0, .slice none 0 0, .map (some w3.heap.size)] 60) = wb at *
    have hbw : Below w.heap.size w wb := hbw3.trans (hbb.mono hbw3.size)
    have hwbs := hob.lt
    have HBB := Lib.hid hbb; have HOB := Lib.hid hob; have HGR := Lib.hid hgr3; have HBW := Lib.hid hbw
    have hci2 := HCI.out.below hbw
    have HCI2 := Lib.hid hci2
    have hwz := hbw3.size
    clear hbb hob hgr3 hbw hci2 hbw3 hb23 hwb hm3 hmm hz3 HR3 HG3 HCP HGC HGV HU
    go_loopw [20] (fun i wr => ∃ k : Nat, k ≤ cl.length ∧ i = .int .i64 k ∧ wr = wb ∧ (cl.take k).all (classB g) = true) (fun i _ => cl.length - (intOf i).toNat)
    case atStart => exact ⟨0, Nat.zero_le _, rfl, rfl, rfl⟩
    case round =>
      obtain ⟨k, hk, rfl, rfl, hall⟩ := hrel
      have HALL := Lib.hid hall; clear hall
      by_cases hlt : k < cl.length
      · obtain ⟨c, hc⟩ : ∃ c, cl[k]? = some c := ⟨cl[k], List.getElem?_eq_getElem hlt⟩
        obtain ⟨b, off, rfl, hb, hcc⟩ := HCI2.out k c hc
        have hcb : (decide (0 ≤ c) && decide (c < ((3 + g.length : Nat) : Int))) = classB g c := by
          unfold classB; congr 1
        have htk := take_snocI cl k c hc
        have HTK := Lib.hid htk; have HC := Lib.hid hc
        clear htk hc
        cases hcl2 : classB g c with
        | true =>
          have HCL := Lib.hid hcl2; clear hcl2
          go_wp2_with (go_at_call 58; refine (ghas_any _ _ _ (3 + g.length) (by omega) c _ _ _ _ HOB.out).mono ?_; rintro e w5 ⟨rfl, rfl⟩; rw [hcb, HCL.out])
          refine ⟨⟨k + 1, by omega, by go_num, by first | rfl | trivial, ?_⟩, by simp [intOf]; omega⟩
          rw [HTK.out, List.all_append, HALL.out]; simp [HCL.out]
        | false =>
          have HCL := Lib.hid hcl2; clear hcl2
          go_wp2_with (go_at_call 58; refine (ghas_any _ _ _ (3 + g.length) (by omega) c _ _ _ _ HOB.out).mono ?_; rintro e w5 ⟨rfl, rfl⟩; rw [hcb, HCL.out])
          go_ret2
          refine ⟨HBW.out, .inr ⟨?_, rfl⟩⟩
          rw [Bool.true_and, Bool.eq_false_iff]
          intro h
          have := List.all_eq_true.1 h c (List.mem_of_getElem? HC.out)
          rw [HCL.out] at this; cases this
      · obtain rfl : k = cl.length := by omega
        have hall := HALL.out
        rw [List.take_length] at hall
        have hpl : (pars g).length = 3 + g.length := by simp [pars]; omega
        have hal : (absF (pars g)).length = 3 + g.length := by rw [absF_length, hpl]
        have hfa := findAbove_any w3 (pars g) aP cP (by rw [hpl]; omega) (ahead_pars HG.out) HGR.out (w3.heap.size + 1) (.slice none 0 0) (.map (some w3.heap.size)) wr HBB.out (by omega) (by rw [hpl]; exact HOB.out)
        rw [hpl] at hfa
        have HFA := Lib.hid hfa; clear hfa
        go_wp2_with (first
          | (go_at_call 59; refine HFA.out.mono ?_; rintro e w5 ⟨rfl, hu5, vA, ho5, hr5⟩; have hd5 : ∀ k, vA.ownBlock = some k → k ≠ w3.heap.size + 1 := (fun k hk => by have := (hr5.lt k hk).1; omega); have hr50 : Row 0 w5 75 vA (sets (absF (pars g))) := ⟨hr5.1, by rcases hr5.2 with h | ⟨gg, cp, cur, h1, h2, h3⟩; exact .inl h; exact .inr ⟨gg, cp, cur, h1, Nat.zero_le _, h3⟩⟩; have HU5 := Lib.hid hu5; have HO5 := Lib.hid ho5; have HR5 := Lib.hid hr50; have HD5 := Lib.hid hd5; clear hu5 ho5 hr5 hr50 hd5)
          | (go_at_call 60; refine (findBelow_any (3 + g.length) (absF (pars g)) aP cP hal (by omega) (absF_small (3 + g.length) (pars g) hpl (by omega)) (fun k c hk hc => by have := above_le HG.out k c hk hc; omega) (w3.heap.size + 1) _ _ _ HO5.out HR5.out HD5.out).mono ?_; rintro e w6 ⟨rfl, hu6, Bk, ho6, hb6⟩; have HU6 := Lib.hid hu6; have HO6 := Lib.hid ho6; have HB6 := Lib.hid hb6; clear hu6 ho6 hb6))
        go_ret2
        have hu56 := HU5.out.trans HU6.out
        refine ⟨HBW.out.trans ((hu56.below _ HBW.out.size (by intro x hx; simp at hx; omega))), .inl ⟨by rw [Bool.true_and]; exact hall, _, w3.heap.size, rfl, hwz, aP, cP, _, _, HO6.out, ?_, HB6.out, ?_, ?_⟩⟩
        · exact HR5.out.of_block fun k hk => HU6.out.block k (HR5.out.lt k hk).2 (by simp; exact HD5.out k hk)
        · exact HGR.out.below (HBB.out.trans (hu56.below _ HBB.out.size (by intro x hx; simp at hx; omega)))
        · exact (hu56.block _ (by omega) (by simp)).trans hmb
end Go.Proofs.Ytaofmejfdmbfoaa
namespace Go.Proofs.Ytaofmejfdmbfoaa
open Go.ChangeShapes Go.WideShapes Go.ChangeAt Go.RowKit Go.Ln Go.Fs
/-- a map's elements read as themselves -/
def memR : Value → Option (DataW Value × List MemPlace) := fun v => some (.held v, [])
def kI (c : Nat) : Lit := .int .i64 (c : Int)
/-- the order of a class that lies nowhere in some blocks -/
def OrdV (w : World) (no : Nat → Prop) (g : Gr) (c : Nat) (v : Value) : Prop := (linO g c = [] ∧ v = .slice none 0 0) ∨ (linO g c ≠ [] ∧ ∃ b off cp, v = .slice (some ⟨b, off, none⟩) (linO g c).length cp ∧ ElemOk w no (some ⟨b, off, none⟩) (linO g c) cp)
/-- the orders that were found -/
def MemoAt (w : World) (no : Nat → Prop) (Mb n : Nat) (g : Gr) : Prop := ∃ D, w.ownsMap Try.prog 3 memR Mb n D ∧ ∀ c : Nat, c < 3 + g.length → Maps.has D (kI c) = true → ∃ v, (∀ z, D.atKey (kI c) z = .held v) ∧ OrdV w no g c v
def isMap (w : World) (Mb : Nat) : Prop := ∃ es ck, w.heap[Mb]? = some (.map es ck)
theorem isMap.cell {w : World} {Mb : Nat} (h : isMap w Mb) {b o : Nat} {x : Value} (hc : w.cell? ⟨b, o, none⟩ = some x) : b ≠ Mb := by
  intro e
  subst e
  obtain ⟨es, ck, hb⟩ := h
  unfold World.cell? at hc
  rw [hb] at hc
  cases hc
theorem ElemOk.upd {w w' : World} {no : Nat → Prop} {al : Option Addr} {l : List Int} {cp Mb : Nat} (h : ElemOk w no al l cp) (hm : isMap w Mb) (hu : Upd [Mb] w w') : ElemOk w' no al l cp :=
  ⟨h.1, h.2.1, fun i x hx => by
    obtain ⟨b, off, h1, h2, h3, h4⟩ := h.2.2 i x hx
    exact ⟨b, off, h1, Nat.lt_of_lt_of_le h2 hu.size, (hu.cells b _ h2 (by have := hm.cell h3; simpa using this)).trans h3, h4⟩⟩
theorem OrdV.upd {w w' : World} {no : Nat → Prop} {g : Gr} {c Mb : Nat} {v : Value} (h : OrdV w no g c v) (hm : isMap w Mb) (hu : Upd [Mb] w w') : OrdV w' no g c v := by
  rcases h with h | ⟨h1, b, off, cp, h2, h3⟩
  · exact .inl h
  · exact .inr ⟨h1, b, off, cp, h2, h3.upd hm hu⟩
theorem OrdV.kept {w w' : World} {no no' : Nat → Prop} {g : Gr} {c : Nat} {v : Value} (h : OrdV w no g c v) (hs : w.heap.size ≤ w'.heap.size) (hb : ∀ b, b < w.heap.size → ¬ no b → w'.heap[b]? = w.heap[b]?) (ho : ∀ b, b < w.heap.size → no' b → no b) : OrdV w' no' g c v := by
  rcases h with h | ⟨h1, b, off, cp, h2, h3⟩
  · exact .inl h
  · exact .inr ⟨h1, b, off, cp, h2, h3.kept hs hb ho⟩
theorem GrAt.upd {w w' : World} {a : Option Addr} {g : Gr} {Mb : Nat} (h : GrAt w a g) (hm : isMap w Mb) (hu : Upd [Mb] w w') : GrAt w' a g := fun k l hl => by
  obtain ⟨b, off, al, cap, h1, h2, h3, h4, h5⟩ := h k l hl
  refine ⟨b, off, al, cap, h1, Nat.lt_of_lt_of_le h2 hu.size, (hu.cells b _ h2 (by have := hm.cell h3; simpa using this)).trans h3, fun i x hx => ?_, h5⟩
  obtain ⟨b', off', h6, h7, h8⟩ := h4 i x hx
  exact ⟨b', off', h6, Nat.lt_of_lt_of_le h7 hu.size, (hu.cells b' _ h7 (by have := hm.cell h8; simpa using this)).trans h8⟩
theorem RowGr.upd {B : Nat} {no : Nat → Prop} {w w' : World} {v : Value} {ls : Gr} {Mb : Nat} (h : RowGr B no w v ls) (hm : isMap w Mb) (hu : Upd [Mb] w w') : RowGr B no w' v ls := by
  obtain ⟨vs, h1, h2⟩ := h
  refine ⟨vs, h1.of_block fun k hk => hu.block k (h1.lt k hk).2 ?_, h2.1, fun k l hl => ?_⟩
  · simp only [List.mem_singleton]
    intro e
    subst e
    obtain ⟨es, ck, hb⟩ := hm
    rcases h1.2 with ⟨hv, _⟩ | ⟨gg, cap, cur, hv, _, hg, _⟩
    · rw [hv] at hk; cases hk
    · rw [hv] at hk
      have : gg = k := by simpa [Value.ownBlock] using hk
      subst this
      rw [hg] at hb
      cases hb
  · obtain ⟨al, cl, h3, h4⟩ := h2.2 k l hl
    exact ⟨al, cl, h3, h4.upd hm hu⟩
theorem MemoAt.isMap {w : World} {no : Nat → Prop} {Mb n : Nat} {g : Gr} (h : MemoAt w no Mb n g) : isMap w Mb := by
  obtain ⟨D, ⟨es, ck, hb, _⟩, _⟩ := h
  exact ⟨es, ck, hb⟩
theorem MemoAt.below {w w' : World} {no : Nat → Prop} {Mb n : Nat} {g : Gr} (h : MemoAt w no Mb n g) (hb : Below w.heap.size w w') : MemoAt w' no Mb n g := by
  obtain ⟨D, h1, h2⟩ := h
  refine ⟨D, h1.kept (row := none) ⟨hb.os, hb.tape, hb.output, hb.size, fun k hk _ => hb.block k hk⟩ (by simp), fun c hc hh => ?_⟩
  obtain ⟨v, h3, h4⟩ := h2 c hc hh
  exact ⟨v, h3, h4.kept hb.size (fun b hlt _ => hb.block b hlt) (fun _ _ h => h)⟩
/-- a world in which the memo's blocks are as they were -/
theorem MemoAt.wider {w : World} {no no' : Nat → Prop} {Mb n : Nat} {g : Gr} (h : MemoAt w no Mb n g) (hn : ∀ b, b < w.heap.size → no' b → no b) : MemoAt w no' Mb n g := by
  obtain ⟨D, h1, h2⟩ := h
  refine ⟨D, h1, fun c hc hh => ?_⟩
  obtain ⟨v, h3, h4⟩ := h2 c hc hh
  exact ⟨v, h3, h4.kept (Nat.le_refl _) (fun _ _ _ => rfl) hn⟩
theorem memo_new {w : World} {Mb : Nat} {g : Gr} (no : Nat → Prop) (h : w.heap[Mb]? = some (.map #[] 0)) : MemoAt w no Mb 0 g :=
  ⟨.map [], ⟨#[], 0, h, ⟨by simp, MapKept.stamped_empty 0, by simp⟩, Nat.le_refl _, rfl⟩, fun c _ hh => by cases hh⟩
/-- an open graph, with the orders that were found -/
def GraphM (w : World) (no : Nat → Prop) (O Mb n : Nat) (g : Gr) : Prop := ∃ aP cP vA Bk, Obj4 w O (.slice aP (3 + g.length) cP) vA (.slice (some ⟨Bk, 0, none⟩) (3 + g.length) (3 + g.length)) (.map (some Mb)) ∧ Row 0 w 75 vA (sets (absF (pars g))) ∧ BelAt w Bk (3 + g.length) (fun c => blN (absF (pars g)) (3 + g.length) c) ∧ GrAt w aP (pars g) ∧ MemoAt w no Mb n g
theorem GraphF.memo {w : World} {O Mb : Nat} {g : Gr} (no : Nat → Prop) (h : GraphF w O Mb g) : GraphM w no O Mb 0 g := by
  obtain ⟨aP, cP, vA, Bk, h1, h2, h3, h4, h5⟩ := h
  exact ⟨aP, cP, vA, Bk, h1, h2, h3, h4, memo_new no h5⟩
theorem GraphM.graph {w : World} {no : Nat → Prop} {O Mb n : Nat} {g : Gr} (h : GraphM w no O Mb n g) : GraphAt w O g := by
  obtain ⟨aP, cP, vA, Bk, h1, h2, h3, _⟩ := h
  exact ⟨_, _, _, _, h1, h2, h3⟩
theorem GraphM.isMap {w : World} {no : Nat → Prop} {O Mb n : Nat} {g : Gr} (h : GraphM w no O Mb n g) : Go.Proofs.Ytaofmejfdmbfoaa.isMap w Mb := by
  obtain ⟨aP, cP, vA, Bk, _, _, _, _, h5⟩ := h
  exact h5.isMap
theorem GraphM.below {w w' : World} {no : Nat → Prop} {O Mb n : Nat} {g : Gr} (h : GraphM w no O Mb n g) (hb : Below w.heap.size w w') : GraphM w' no O Mb n g := by
  obtain ⟨aP, cP, vA, Bk, h1, h2, h3, h4, h5⟩ := h
  exact ⟨aP, cP, vA, Bk, h1.below hb, h2.below hb, h3.below hb, h4.below hb, h5.below hb⟩
theorem GraphM.wider {w : World} {no no' : Nat → Prop} {O Mb n : Nat} {g : Gr} (h : GraphM w no O Mb n g) (hn : ∀ b, b < w.heap.size → no' b → no b) : GraphM w no' O Mb n g := by
  obtain ⟨aP, cP, vA, Bk, h1, h2, h3, h4, h5⟩ := h
  exact ⟨aP, cP, vA, Bk, h1, h2, h3, h4, h5.wider hn⟩
theorem row_notmap {B : Nat} {w : World} {e : TypeId} {v : Value} {xs : List Value} {Mb : Nat} (h1 : Row B w e v xs) (hm : isMap w Mb) : ∀ k, v.ownBlock = some k → k ≠ Mb := by
  rintro k hk rfl
  obtain ⟨es, ck, hb⟩ := hm
  rcases h1.2 with ⟨hv, _⟩ | ⟨gg, cap, cur, hv, _, hg, _⟩
  · rw [hv] at hk; cases hk
  · rw [hv] at hk
    have : gg = k := by simpa [Value.ownBlock] using hk
    subst this
    rw [hg] at hb
    cases hb
theorem GraphM.upd {w w' : World} {no : Nat → Prop} {O Mb n n' : Nat} {g : Gr} (h : GraphM w no O Mb n g) (hu : Upd [Mb] w w') (hm' : MemoAt w' no Mb n' g) : GraphM w' no O Mb n' g := by
  have hm := h.isMap
  obtain ⟨aP, cP, vA, Bk, h1, h2, h3, h4, h5⟩ := h
  have hO : O ≠ Mb := hm.cell h1.cells.1.1
  refine ⟨aP, cP, vA, Bk, (hu.block O h1.lt (by simpa using hO)).trans h1, h2.of_block fun k hk => hu.block k (h2.lt k hk).2 (by simpa using row_notmap h2 hm k hk), ⟨Nat.lt_of_lt_of_le h3.1 hu.size, fun c hc => ?_⟩, h4.upd hm hu, hm'⟩
  obtain ⟨h6, h7⟩ := h3.2 c hc
  have hB : Bk ≠ Mb := hm.cell h6
  exact ⟨(hu.cells Bk c h3.1 (by simpa using hB)).trans h6, (hu.frozens Bk c h3.1 (by simpa using hB)).trans h7⟩
theorem underM : Try.prog.underlying 58 = some (.map 3 25) := by kernel_rfl
theorem underInt : Try.prog.underlying 3 = some (.int .i64) := by kernel_rfl
theorem keyI : Maps.Keyed Try.prog 3 := Maps.int_keyed underInt
theorem keyOf_I (c : Nat) (hc : c < 1000) : keyOf Try.prog 3 (.int .i64 (c : Int)) = some (kI c) := Maps.keyOf_int_mk underInt (by simp only [Lit.wf, Bool.and_eq_true, decide_eq_true_eq]; exact ⟨Int.le_trans (show IntKind.i64.min ≤ 0 by decide) (by omega), Int.le_trans (show (c : Int) ≤ 1000 by omega) (by decide)⟩)
theorem zeroL (w : World) : (zeroValue 25).run Try.prog w = .ok (.slice none 0 0) w := by
  have hI := infoL
  cases hi : Try.prog.info? 25 with
  | none => rw [hi] at hI; cases hI
  | some i =>
    rw [hi] at hI
    simp only [Option.map_some, Option.some.injEq, Prod.mk.injEq] at hI
    simp [zeroValue, typeInfo, hi, hI.1]
/-- what the memo says of a class -/
theorem memo_look {w : World} {no : Nat → Prop} {Mb n : Nat} {g : Gr} (h : MemoAt w no Mb n g) (c : Nat) (hc : c < 3 + g.length) (hl : g.length ≤ 16) : ∃ v b, (Instr.lookup 58 (.map (some Mb)) (.int .i64 (c : Int)) true).run Try.prog w = .ok (.tuple #[v, .bool b]) w ∧ (b = true → OrdV w no g c v) := by
  obtain ⟨D, h1, h2⟩ := h
  obtain ⟨v, ps, hrun, hv⟩ := h1.look_ok keyI underM (zeroL w) (zd := .held (.slice none 0 0)) (zp := []) rfl (keyOf_I c (by omega))
  refine ⟨v, _, hrun, fun hb => ?_⟩
  obtain ⟨v', h3, h4⟩ := h2 c hc hb
  rw [h3] at hv
  have : v = v' := by
    have := congrArg (fun o => o.map Prod.fst) hv
    simpa [memR] using this
  rw [this]; exact h4
end Go.Proofs.Ytaofmejfdmbfoaa
namespace Go.Proofs.Ytaofmejfdmbfoaa
open Go.ChangeShapes Go.WideShapes Go.ChangeAt Go.RowKit Go.Ln Go.Fs
theorem memo_put {w : World} {no : Nat → Prop} {Mb n : Nat} {g : Gr} (h : MemoAt w no Mb n g) (c : Nat) (hc : c < 3 + g.length) (hl : g.length ≤ 16) (hn : n < maxLen) (v : Value) (hv : OrdV w no g c v) :
    ∃ w', (Instr.mapUpdate 58 (.map (some Mb)) (.int .i64 (c : Int)) v).run Try.prog w = .ok () w' ∧ MemoAt w' no Mb (n + 1) g ∧ Upd [Mb] w w' := by
  have hm := h.isMap
  obtain ⟨D, h1, h2⟩ := h
  obtain ⟨w', hrun, h3, h4⟩ := h1.update keyI underM hn (keyOf_I c (by omega)) (val := v) (d := .held v) (ps := []) rfl
  have hu : Upd [Mb] w w' := ⟨h4.os, h4.tape, h4.output, h4.size, fun k hk hne => h4.block k hk (fun e => hne (by injection e with e; simp [e]))⟩
  refine ⟨w', hrun, ⟨_, h3, fun c' hc' hh => ?_⟩, hu⟩
  have hmap := h1.isMap
  have hkl : WideAt.IsKeyLit (kI c) := by simp [kI, WideAt.IsKeyLit]
  by_cases e : c' = c
  · subst e
    exact ⟨v, fun z => Maps.atKey_put_same hmap hkl _ _, hv.upd hm hu⟩
  · have hne : kI c' ≠ kI c := fun e' => by
      unfold kI at e'
      injection e' with _ e'
      omega
    rw [Maps.has_put_other hne] at hh
    obtain ⟨v', h5, h6⟩ := h2 c' hc' hh
    exact ⟨v', fun z => by rw [Maps.atKey_put_other hne]; exact h5 z, h6.upd hm hu⟩
theorem wpList_memo {w : World} {ops : Array Oper} {rest : List Oper} {o : Oper} {a : Act} {Q : Exit → Act → World → Prop} (hg : o.guard = none) (m x v : Operand) (hop : o.op = Op.mapUpdate 58 m x v)
    {no : Nat → Prop} {Mb n : Nat} {g : Gr} (h : MemoAt w no Mb n g) (c : Nat) (hc : c < 3 + g.length) (hl : g.length ≤ 16) (hn : n < maxLen) (val : Value) (hm : a.eval m = .map (some Mb)) (hx : a.eval x = .int .i64 (c : Int)) (hv : a.eval v = val) (hval : OrdV w no g c val)
    (hK : ∀ w', MemoAt w' no Mb (n + 1) g → Upd [Mb] w w' → wpList Try.prog ops Q rest (a.put o.dst undef) w') : wpList Try.prog ops Q (o :: rest) a w := by
  refine wpList_plain hg fun K' hK' => ?_
  obtain ⟨w', hrun, r1, r2⟩ := memo_put h c hc hl hn val hval
  unfold Oper.wp
  simp [execOp, hop, hm, hx, hv, hrun, Result.andThen]
  exact hK' _ _ (hK w' r1 r2)
/-- what order returns -/
def OrderP (no : Nat → Prop) (O Mb n : Nat) (g : Gr) (c : Nat) (w : World) (e : Ending) (w' : World) : Prop :=
  ∃ v n', e = .returned v ∧ Upd [Mb] w w' ∧ n' ≤ n + 4 ^ (c + 1) ∧ GraphM w' no O Mb n' g ∧ OrdV w' no g c v
/-- what lists returns -/
def PListsP (no : Nat → Prop) (O Mb n : Nat) (g : Gr) (c : Nat) (w : World) (e : Ending) (w' : World) : Prop :=
  ∃ n', Upd [Mb] w w' ∧ n' ≤ n + 3 * 4 ^ c ∧ GraphM w' no O Mb n' g ∧ ((lackB g c = true ∧ e = .returned (.tuple #[.slice none 0 0, .bool false])) ∨ (lackB g c = false ∧ ∃ v, e = .returned (.tuple #[v, .bool true]) ∧ RowGr w.heap.size noB w' v (listsO g c)))
theorem GrAt.elem {w : World} {a : Option Addr} {g : Gr} (h : GrAt w a g) {k : Nat} {l : List Int} (hl : g[k]? = some l) : ∃ b off al cl, a = some ⟨b, off, none⟩ ∧ b < w.heap.size ∧ w.cell? ⟨b, off + k, none⟩ = some (.slice al l.length cl) ∧ ElemOk w noB al l cl := by
  obtain ⟨b, off, al, cl, h1, h2, h3, h4, h5, h6⟩ := h k l hl
  exact ⟨b, off, al, cl, h1, h2, h3, ElemOk.of_ints h4 h5 h6 fun _ _ _ _ h => h⟩
theorem MemoAt.grew {w w1 : World} {no : Nat → Prop} {Mb n : Nat} {g : Gr} {v v1 : Value} (h : MemoAt w (ownN v no) Mb n g) (hg : w.grownBy w1 v.ownBlock) (hM : v.ownBlock ≠ some Mb) (loc : v1.ownBlock = v.ownBlock ∨ v1.ownBlock = some w.heap.size) : MemoAt w1 (ownN v1 no) Mb n g := by
  obtain ⟨D, h1, h2⟩ := h
  refine ⟨D, h1.kept hg (fun e => hM e.symm), fun c hc hh => ?_⟩
  obtain ⟨v', h3, h4⟩ := h2 c hc hh
  exact ⟨v', h3, h4.kept hg.size (fun b hlt hn => hg.block b hlt (fun e => hn (.inl e.symm))) (own_next loc)⟩
theorem ElemOk.init {w : World} {no : Nat → Prop} {al : Option Addr} {l : List Int} {cp : Nat} (h : ElemOk w no al l cp) : ElemOk w no al l.dropLast cp := by
  refine ⟨by have := h.1; rw [List.length_dropLast]; omega, h.2.1, fun i x hx => h.2.2 i x ?_⟩
  have hi : i < l.dropLast.length := (List.getElem?_eq_some_iff.1 hx).1
  rw [List.length_dropLast] at hi
  rw [List.getElem?_dropLast] at hx
  rw [if_pos hi] at hx
  exact hx
theorem GraphM.memoAt {w : World} {no : Nat → Prop} {O Mb n : Nat} {g : Gr} (h : GraphM w no O Mb n g) : MemoAt w no Mb n g := by
  obtain ⟨_, _, _, _, _, _, _, _, h5⟩ := h
  exact h5
theorem MemoAt.lt {w : World} {no : Nat → Prop} {Mb n : Nat} {g : Gr} (h : MemoAt w no Mb n g) : Mb < w.heap.size := by
  obtain ⟨D, h1, _⟩ := h
  exact h1.lt
set_option maxRecDepth 100000 in
set_option maxHeartbeats 4000000 in
theorem lists_any (g : Gr) (hg : goodB g = true) (O Mb : Nat) (c : Nat) (hc : c < 3 + g.length)
    (ih : ∀ p, p < c → ∀ (no : Nat → Prop) (w : World) (n : Nat), (∀ b, no b → b < w.heap.size) → n + 4 ^ (p + 1) ≤ 4611686018427387904 → GraphM w no O Mb n g → Calls Try.prog 30 #[.pointer (some ⟨O, 0, none⟩), .int .i64 (p : Int)] w (OrderP no O Mb n g p w))
    (no : Nat → Prop) (w : World) (n : Nat) (hno : ∀ b, no b → b < w.heap.size) (hn : n + 3 * 4 ^ c ≤ 4611686018427387904) (hgm : GraphM w no O Mb n g) :
    Calls Try.prog 34 #[.pointer (some ⟨O, 0, none⟩), .int .i64 (c : Int)] w (PListsP no O Mb n g c w) := by
  have hlen := good_len hg
  have hpl := par_len hg c
  obtain ⟨aP, cP, vA, Bk, h1, h2, h3, h4, h5⟩ := hgm
  have hpar : (pars g)[c]? = some (par g c) := by
    rw [par, List.getD, List.getElem?_eq_getElem (by rw [pars_len]; exact hc)]; rfl
  obtain ⟨pb, po, ap, cp, rfl, hpb, hpc, hpe⟩ := h4.elem hpar
  have HGM := Lib.hid (show GraphM w no O Mb n g from ⟨_, cP, vA, Bk, h1, h2, h3, h4, h5⟩)
  obtain ⟨⟨o0, o1, o2, o3⟩, _⟩ := h1.cells
  have hcI : (c : Int) < 3 + (g.length : Int) := by omega
  have hcJ : (c : Int) < ((3 + g.length : Nat) : Int) := by omega
  go_enter Try.func34, Try.ntmps34
  go_wp2
  have hm := HGM.out.isMap
  have hMlt := HGM.out.memoAt.lt
  have HPE := Lib.hid hpe; have HIH := Lib.hid ih; have HG := Lib.hid hg; have HNO := Lib.hid hno; have HMP := Lib.hid hm
  have qN : ∀ w : World, (binOp .eql 25 (.slice none 0 0) (.slice none 0 0)).run Try.prog w = .ok (.bool true) w := fun w => Lib.run_eql_slice_nil w 25 3 none 0 0 0 0 underI
  have qS : ∀ (w : World) (a : Addr) (n c : Nat), (binOp .eql 25 (.slice (some a) n c) (.slice none 0 0)).run Try.prog w = .ok (.bool false) w := fun w a n c => Lib.run_eql_slice_nil w 25 3 (some a) n c 0 0 underI
  obtain ⟨T, hT⟩ : ∃ T, 4 ^ c = T := ⟨_, rfl⟩
  have HT := Lib.hid hT
  unfold PListsP
  rw [hT] at hn ⊢
  clear h1 h2 h3 h4 h5 hpe ih hg hno hm o0 o1 o2 o3 hpc hpar hT
  go_loopw [6, 18] (fun ls i wr => ∃ k nk : Nat, k ≤ (par g c).length ∧ i = .int .i64 k ∧ Upd [Mb] w wr ∧ nk ≤ n + k * T ∧ MemoAt wr (ownN ls no) Mb nk g ∧ lackK g c k = false ∧ RowGr w.heap.size noB wr ls (listsK g c k)) (fun _ i _ => (par g c).length - (intOf i).toNat)
  case atStart => exact ⟨0, n, Nat.zero_le _, rfl, Upd.refl _ _, by omega, HGM.out.memoAt.wider (fun b _ h => by rcases h with h | h; cases h; exact h), rfl, RowGr.nil _ _ _⟩
  case round =>
    obtain ⟨k, nk, hk, rfl, hup, hnk, hmem, hlk, hrg⟩ := hrel
    have hz := hup.size
    have HUP := Lib.hid hup; have HMM := Lib.hid hmem; have HLK := Lib.hid hlk; have HRG := Lib.hid hrg
    have hpe2 := HPE.out.upd HMP.out hup
    have hmr := hmem.isMap
    have HMR := Lib.hid hmr
    by_cases hlt : k < (par g c).length
    · obtain ⟨p, hp⟩ : ∃ p, (par g c)[k]? = some p := ⟨_, List.getElem?_eq_getElem hlt⟩
      have hpm := List.mem_of_getElem? hp
      have hpb := par_mem HG.out hpm
      obtain ⟨b, off, rfl, hb, hcell, _⟩ := hpe2.2.2 k p hp
      obtain ⟨pn, rfl⟩ : ∃ pn : Nat, p = (pn : Int) := ⟨p.toNat, by omega⟩
      have hTk : (k + 1) * T = k * T + T := Nat.succ_mul _ _
      have hTk2 : (k + 1) * T ≤ 3 * T := Nat.mul_le_mul_right _ (by omega)
      have hTp : 4 ^ (pn + 1) ≤ T := by rw [← HT.out]; exact Nat.pow_le_pow_right (by omega) (by omega)
      have hih := HIH.out pn (by omega) (ownN u6 no) wr nk (fun b hb => by rcases hb with hb | hb; exact (hrg.lt b hb).2; exact Nat.lt_of_lt_of_le (HNO.out b hb) hz) (by omega) (((HGM.out.wider (no' := ownN u6 no) (fun b hlt h => by rcases h with h | h; have := (hrg.lt b h).1; omega; exact h)).upd hup hmem))
      have HIP := Lib.hid hih
      have hls := linO_small HG.out (c := pn) (by omega)
      have hlks : lackK g c (k + 1) = (lackK g c k || (linO g pn).isEmpty) := lackK_snoc hp
      have hlss : listsK g c (k + 1) = listsK g c k ++ [(linO g pn).dropLast] := listsK_snoc hp
      have HLKS := Lib.hid hlks; have HLS := Lib.hid hlss
      have hkl := listsK_length g c k
      clear hlks hlss hih hp hpm hup hmem hlk hrg hpe2 hmr
      cases hl : linO g pn with
      | nil =>
        have hlack : lackB g c = true := by
          rw [← lackK_all]
          have h1 : lackK g c (k + 1) = true := by rw [HLKS.out, hl]; simp
          unfold lackK at h1 ⊢
          obtain ⟨x, hx, hxe⟩ := List.any_eq_true.1 h1
          exact List.any_eq_true.2 ⟨x, (List.take_length (l := par g c)).symm ▸ List.mem_of_mem_take hx, hxe⟩
        have HLA := Lib.hid hlack
        have HL := Lib.hid hl
        clear hl hlack
        go_wp2_with (go_at_call 30; refine HIP.out.mono ?_; (rintro e w5 ⟨v5, n5, rfl, hu5, hn5, hgm5, ⟨_, rfl⟩ | ⟨hne, _⟩⟩ <;> (first | (exact absurd HL.out hne) | skip)); have HU5 := Lib.hid hu5; have HGM5 := Lib.hid hgm5; have HN5 := Lib.hid hn5; clear hu5 hgm5 hn5)
        go_ret2
        refine ⟨n5, HUP.out.trans HU5.out, by have := HN5.out; omega, HGM5.out.wider (fun b _ h => .inr h), .inl ⟨HLA.out, rfl⟩⟩
      | cons x t =>
        obtain ⟨L, hL⟩ : ∃ L, t.length = L := ⟨_, rfl⟩
        have hll : (linO g pn).length = L + 1 := by rw [hl, ← hL]; rfl
        have hdl : (linO g pn).dropLast.length = L := by rw [List.length_dropLast, hll]; rfl
        have hne : linO g pn ≠ [] := by rw [hl]; simp
        have hw1 : IntKind.i64.wrap ((L : Int) + 1 - 1) = L := by rw [IntKind.wrap_i64]; omega
        have HW2 := Lib.hid (show wrap64 (L : Int) = L by unfold wrap64; omega)
        have hns : (linO g pn).isEmpty = false := by rw [hl]; rfl
        have HNS := Lib.hid hns; have HNE := Lib.hid hne; have HDL := Lib.hid hdl; have HLL := Lib.hid hll
        clear hl hL hll hdl hne hns
        go_wp2_with (first
          | (go_at_call 30; refine HIP.out.mono ?_; (rintro e w5 ⟨v5, n5, rfl, hu5, hn5, hgm5, ⟨hnil, _⟩ | ⟨_, b5, off5, cp5, rfl, hE5⟩⟩ <;> (first | (exact absurd hnil HNE.out) | skip)); (rw [HLL.out]); (have hcc : L + 1 ≤ cp5 := by have := hE5.1; rw [HLL.out] at this; exact this); have hcc2 := hE5.2.1; (have hccI : (L : Int) ≤ (cp5 : Int) := by omega); have HU5 := Lib.hid hu5; have HGM5 := Lib.hid hgm5; have HN5 := Lib.hid hn5; have HE5 := Lib.hid hE5; clear hu5 hgm5 hn5 hE5)
          | (at_builtin; apply wpList_appG (B := w.heap.size) (no := noB) (ls := listsK g c k) (g := w5.heap.size) (c := 1) (al := some ⟨b5, off5, none⟩) (l := (linO g pn).dropLast) (n := (wrap64 (L : Int)).toNat) (cp := cp5) (hn := by rw [HW2.out, Int.toNat_natCast, HDL.out]) (ho := rfl) (hgd := rfl) (hty := rfl) (hs := rfl) (hx := rfl); (case hr => exact (HRG.out.upd HMR.out HU5.out).below ((Below.refl _ _).alloc (Nat.le_refl _) _)); (case hB => have := HU5.out.size; simp; omega); (case hy => simp); (case hE => exact HE5.out.init.kept (by simp) (fun b hlt _ => Below.heap_alloc _ _ _ hlt) (fun b _ h => by rcases h with h | h; exact .inl h; exact h.elim)); (case hb => omega); intro v6 w6 hg6; have HG6 := Lib.hid hg6; clear hg6))
        case isFalse =>
          rename_i hbad
          exact absurd ⟨by rw [HW2.out]; omega, by rw [HW2.out]; omega⟩ hbad
        have hz5 := HU5.out.size
        have hrg5 := HRG.out.upd HMR.out HU5.out
        have hrg6 := hrg5.below ((Below.refl _ _).alloc (Nat.le_refl _) (.cells #[.slice (some ⟨b5, off5, none⟩) (wrap64 (L : Int)).toNat cp5] 25))
        have hb6 : Below w.heap.size w5 w6 := ((Below.refl w.heap.size w5).alloc (by omega) _).trans (HG6.out.below hrg6 (Nat.le_refl _) (by simp; omega))
        have hup6 : Upd [Mb] w w6 := upd_below (HUP.out.trans HU5.out) hb6
        have hm5 := (HGM5.out.memoAt).below ((Below.refl _ _).alloc (Nat.le_refl _) (.cells #[.slice (some ⟨b5, off5, none⟩) (wrap64 (L : Int)).toNat cp5] 25))
        have hm6 := hm5.grew HG6.out.grow (fun e => by have := (HRG.out.lt Mb e).1; omega) HG6.out.loc
        exact ⟨⟨k + 1, n5, by omega, by go_num, hup6, by have := HN5.out; omega, hm6, by rw [HLKS.out, HLK.out, HNS.out]; rfl, by rw [HLS.out]; exact HG6.out.own⟩, by simp [intOf]; omega⟩
    · obtain rfl : k = (par g c).length := by omega
      have hla : lackB g c = false := by rw [← lackK_all]; exact HLK.out
      have HLA := Lib.hid hla
      have hgm := (HGM.out.wider (no' := ownN u6 no) (fun b hlt h => by rcases h with h | h; have := (hrg.lt b h).1; omega; exact h)).upd hup hmem
      have HGM2 := Lib.hid hgm
      obtain ⟨aP2, cP2, _, _, g1, _, _, g4, _⟩ := hgm
      have hpar : (pars g)[c]? = some (par g c) := by
        rw [par, List.getD, List.getElem?_eq_getElem (by rw [pars_len]; exact hc)]; rfl
      obtain ⟨pb2, po2, ap2, cp2, rfl, hpb2, hpc2, hpe3⟩ := g4.elem hpar
      obtain ⟨⟨o0, _, _, o3⟩, _⟩ := g1.cells
      obtain ⟨⟨_, _, _, _⟩, _⟩ := g1.cells
      have hE : ElemOk (wr.alloc (.cells #[.slice ap2 (par g c).length cp2] 25)) (ownN u6 noB) ap2 (par g c) cp2 := by
        obtain ⟨aw, cw, vw, Bw, w1, _, _, w4, _⟩ := HGM.out
        obtain ⟨pbw, pow, apw, cpw, hpw, hpbw, hpcw, hpew⟩ := w4.elem hpar
        have hm0 := HMP.out
        have e1 := (hup.cells O 0 w1.lt (by have := hm0.cell w1.cells.1.1; simpa using this)).trans w1.cells.1.1
        rw [o0] at e1
        injection e1 with e1
        injection e1 with e1 _ _
        rw [← e1] at hpw
        injection hpw with hpw
        injection hpw with hp1 hp2 _
        subst hp1; subst hp2
        have e2 := (hup.cells pb2 _ hpbw (by have := hm0.cell hpcw; simpa using this)).trans hpcw
        rw [hpc2] at e2
        injection e2 with e2
        injection e2 with e2 _ e3
        subst e2; subst e3
        have h1 : ElemOk w (ownN u6 noB) ap2 (par g c) cp2 := hpew.kept (Nat.le_refl _) (fun _ _ _ => rfl) (fun b hlt h => by rcases h with h | h; have := (hrg.lt b h).1; omega; exact h)
        exact (h1.upd hm0 hup).kept (by simp) (fun b hlt _ => Below.heap_alloc _ _ _ hlt) (fun _ _ h => h)
      have HE := Lib.hid hE
      have hcJ2 : (c : Int) < ((3 + g.length : Nat) : Int) := by omega
      clear hpe3 g1 g4 hla hpar hpe2 hmr hmem hlk hrg hE
      go_wp2_with (at_builtin; apply wpList_appG (B := w.heap.size) (no := noB) (ls := listsK g c (par g c).length) (g := wr.heap.size) (c := 1) (al := ap2) (l := par g c) (n := (par g c).length) (cp := cp2) (hn := rfl) (ho := rfl) (hgd := rfl) (hty := rfl) (hs := rfl) (hx := rfl); (case hr => exact HRG.out.below ((Below.refl _ _).alloc (Nat.le_refl _) _)); (case hB => simp; omega); (case hy => simp); (case hE => exact HE.out); (case hb => have := listsK_length g c (par g c).length; omega); intro v6 w6 hg6; have HG6 := Lib.hid hg6; clear hg6)
      go_ret2
      have hrg6 := HRG.out.below ((Below.refl _ _).alloc (Nat.le_refl _) (.cells #[.slice ap2 (par g c).length cp2] 25))
      have hb6 : Below w.heap.size wr w6 := ((Below.refl w.heap.size wr).alloc (by omega) _).trans (HG6.out.below hrg6 (Nat.le_refl _) (by simp; omega))
      have hup6 : Upd [Mb] w w6 := upd_below HUP.out hb6
      have hm6 := (HMM.out.below ((Below.refl _ _).alloc (Nat.le_refl _) (.cells #[.slice ap2 (par g c).length cp2] 25))).grew HG6.out.grow (fun e => by have := (HRG.out.lt Mb e).1; omega) HG6.out.loc
      refine ⟨nk, hup6, ?_, (HGM.out.upd hup6 (hm6.wider (fun b _ h => .inr h))), .inr ⟨HLA.out, _, rfl, ?_⟩⟩
      · have : (par g c).length * T ≤ 3 * T := Nat.mul_le_mul_right _ hpl
        have hTT := HT.out
        omega
      · have := HG6.out.own
        rw [listsK_all] at this
        exact this
end Go.Proofs.Ytaofmejfdmbfoaa
namespace Go.Proofs.Ytaofmejfdmbfoaa
open Go.ChangeShapes Go.WideShapes Go.ChangeAt Go.RowKit Go.Ln Go.Fs
theorem lists_rng {g : Gr} (hg : goodB g = true) {c : Nat} (hc : c < 3 + g.length) (hl : lackB g c = false) : (∀ l ∈ listsO g c, ∀ x ∈ l, (0 : Int) ≤ x ∧ x < 19) ∧ (∀ l ∈ listsO g c, l.length ≤ 1000) ∧ listsO g c ≠ [] := by
  have hlen := good_len hg
  refine ⟨fun l h x hx => ?_, fun l h => ?_, by unfold listsO; simp⟩
  · have := (listsO_mem hg hc hl h).1 x hx; omega
  · have := (listsO_mem hg hc hl h).2; omega
def FindP (no : Nat → Prop) (O Mb n : Nat) (g : Gr) (c : Nat) (w : World) (e : Ending) (w' : World) : Prop :=
  ∃ v n', e = .returned v ∧ Upd [Mb] w w' ∧ n' ≤ n + 3 * 4 ^ c ∧ GraphM w' no O Mb n' g ∧ OrdV w' no g c v
set_option maxRecDepth 100000 in
set_option maxHeartbeats 4000000 in
theorem find_any (g : Gr) (hg : goodB g = true) (O Mb : Nat) (c : Nat) (hc : c < 3 + g.length)
    (ih : ∀ p, p < c → ∀ (no : Nat → Prop) (w : World) (n : Nat), (∀ b, no b → b < w.heap.size) → n + 4 ^ (p + 1) ≤ 4611686018427387904 → GraphM w no O Mb n g → Calls Try.prog 30 #[.pointer (some ⟨O, 0, none⟩), .int .i64 (p : Int)] w (OrderP no O Mb n g p w))
    (no : Nat → Prop) (w : World) (n : Nat) (hno : ∀ b, no b → b < w.heap.size) (hn : n + 3 * 4 ^ c ≤ 4611686018427387904) (hgm : GraphM w no O Mb n g) :
    Calls Try.prog 61 #[.pointer (some ⟨O, 0, none⟩), .int .i64 (c : Int)] w (FindP no O Mb n g c w) := by
  have hlen := good_len hg
  have hle := linO_eq hg hc
  have HGM := Lib.hid hgm; have HNO := Lib.hid hno
  unfold FindP
  by_cases h0 : c = 0
  · rw [if_pos h0] at hle
    subst h0
    have HLE := Lib.hid hle
    clear hle ih hgm
    go_enter Try.func61, Try.ntmps61
    go_wp2
    go_ret
    have hb : Below w.heap.size w (w.alloc (.cells #[.int .i64 0] 3)) := (Below.refl _ _).alloc (Nat.le_refl _) _
    refine ⟨_, n, rfl, Upd.ofBelow _ hb, Nat.le_add_right _ _, HGM.out.below hb, .inr ⟨by rw [HLE.out]; simp, w.heap.size, 0, 1, by rw [HLE.out]; rfl, ?_⟩⟩
    rw [HLE.out]
    refine ⟨Nat.le_refl _, by decide, fun i x hx => ⟨w.heap.size, 0, rfl, by simp, ?_, fun h => by have := HNO.out _ h; omega⟩⟩
    cases i with
    | succ i => simp at hx
    | zero => cases hx; rw [World.cell?_alloc_at _ _ _ _ rfl]; rfl
  · rw [if_neg h0] at hle
    have hcz : ¬ ((c : Int) = 0) := by omega
    have HLI := Lib.hid (lists_any g hg O Mb c hc ih no w n hno hn hgm)
    have HG := Lib.hid hg
    clear ih hgm hg
    cases hlk : lackB g c with
    | true =>
      rw [hlk, if_pos rfl] at hle
      have HLE := Lib.hid hle
      have HLK := Lib.hid hlk
      clear hle hlk
      go_enter Try.func61, Try.ntmps61
      go_wp2_with (go_at_call 34; refine HLI.out.mono ?_; (rintro e w2 ⟨n2, hu, hn2, hgm2, ⟨_, rfl⟩ | ⟨hb, _⟩⟩ <;> (first | (rw [HLK.out] at hb; cases hb; done) | skip)); have HU := Lib.hid hu; have HGM2 := Lib.hid hgm2; have HN2 := Lib.hid hn2; clear hu hgm2 hn2)
      go_ret
      exact ⟨_, n2, rfl, HU.out, HN2.out, HGM2.out, .inl ⟨HLE.out, rfl⟩⟩
    | false =>
      rw [hlk, if_neg (by simp)] at hle
      obtain ⟨hf1, hf2, _⟩ := lists_fit HG.out hc hlk
      obtain ⟨hr1, hr2, hr3⟩ := lists_rng HG.out hc hlk
      have HR1 := Lib.hid hr1; have HR2 := Lib.hid hr2; have HR3 := Lib.hid hr3
      have HLK := Lib.hid hlk
      clear hr1 hr2 hr3 hlk
      cases hmm : mergeL (listsO g c) with
      | none =>
        rw [hmm] at hle
        have HLE := Lib.hid hle
        have HM := Lib.hid hmm
        clear hle hmm
        go_enter Try.func61, Try.ntmps61
        go_wp2_with (first
          | (go_at_call 34; refine HLI.out.mono ?_; (rintro e w2 ⟨n2, hu, hn2, hgm2, ⟨hb, _⟩ | ⟨_, v2, rfl, hr2⟩⟩ <;> (first | (rw [HLK.out] at hb; cases hb; done) | skip)); obtain ⟨a2, c2, rfl, hg2, _⟩ := hr2.shape; have HU := Lib.hid hu; have HGM2 := Lib.hid hgm2; have HN2 := Lib.hid hn2; have HG2 := Lib.hid hg2; clear hu hgm2 hn2 hr2 hg2)
          | (go_at_call 76; refine (merge_any (listsO g c) a2 c2 w2 (by omega) HR3.out HR2.out (by omega) HG2.out HR1.out).mono ?_; (rintro e w3 ⟨v3, b3, rfl, hu3, ⟨rfl, m3, hm3, _⟩ | ⟨rfl, _⟩⟩ <;> (first | (rw [HM.out] at hm3; cases hm3; done) | skip)); have HU3 := Lib.hid hu3; clear hu3))
        go_ret
        exact ⟨_, n2, rfl, upd_below HU.out (HU3.out.mono HU.out.size), HN2.out, HGM2.out.below HU3.out, .inl ⟨HLE.out, rfl⟩⟩
      | some m =>
        rw [hmm] at hle
        simp only at hle
        have HLE := Lib.hid hle
        have HM := Lib.hid hmm
        have hml : m.length ≤ 1000 := by
          have h1 := linO_small HG.out hc
          rw [hle] at h1; simp at h1; omega
        have HORD := Lib.hid (show ([Value.int .i64 (c : Int)] ++ ints m) ++ [.int .i64 0] = ints (linO g c) by rw [hle]; simp [ints])
        clear hle hmm
        go_enter Try.func61, Try.ntmps61
        go_wp2_with (first
          | (go_at_call 34; refine HLI.out.mono ?_; (rintro e w2 ⟨n2, hu, hn2, hgm2, ⟨hb, _⟩ | ⟨_, v2, rfl, hr2⟩⟩ <;> (first | (rw [HLK.out] at hb; cases hb; done) | skip)); obtain ⟨a2, c2, rfl, hg2, _⟩ := hr2.shape; have HU := Lib.hid hu; have HGM2 := Lib.hid hgm2; have HN2 := Lib.hid hn2; have HG2 := Lib.hid hg2; clear hu hgm2 hn2 hr2 hg2)
          | (go_at_call 76; refine (merge_any (listsO g c) a2 c2 w2 (by omega) HR3.out HR2.out (by omega) HG2.out HR1.out).mono ?_; (rintro e w3 ⟨v3, b3, rfl, hu3, ⟨rfl, m3, hm3, hr3⟩ | ⟨rfl, hm3⟩⟩ <;> (first | (rw [HM.out] at hm3; cases hm3; done) | skip)); (obtain rfl : m = m3 := by rw [HM.out] at hm3; injection hm3); obtain ⟨a3, c3, rfl, _, hc3⟩ := hr3.shape; (rw [show (ints m).length = m.length by simp [ints]]); have HC3 := Lib.hid hc3; have HU3 := Lib.hid hu3; clear hu3 hr3 hc3)
          | (at_builtin; apply wpList_appsI (B := w3.heap.size) (xs := [.int .i64 (c : Int)]) (sa := a3) (n := m.length) (c := c3) (news := ints m) (hnl := by simp [ints]) (ho := rfl) (hgd := rfl) (hty := rfl) (hs := rfl) (hx := rfl); (case hr => exact one_row _ _); (case hB => simp); (case hx2 => (intro j u hu; obtain ⟨g3, h1, _, h2, h3⟩ := HC3.out j u hu; exact ⟨g3, 0, h1, by rw [Nat.zero_add]; exact ((Below.refl _ _).alloc (Nat.le_refl _) _).cell (p := ⟨g3, j, none⟩) h2 |>.trans h3⟩)); (case h1 => (intro u hu; simp [ints] at hu; obtain ⟨x, _, rfl⟩ := hu; rfl)); (case hb => simp [ints]; omega); intro v4 w4 hg4; have HG4 := Lib.hid hg4; clear hg4)
          | (at_builtin; apply wpList_app TI (B := w3.heap.size) (xs := [.int .i64 (c : Int)] ++ ints m) (g := w4.heap.size) (c := 1) (y := .int .i64 0) (ho := rfl) (hgd := rfl) (hty := rfl) (hs := rfl) (hx := rfl); (case hr => exact World.ownsRow.alloc HG4.out.own _); (case hB => have := HG4.out.grow.size; simp at this; simp; omega); (case hy => simp); (case h1 => rfl); (case hb => simp [ints]; omega); intro v5 w5 hg5; have HG5 := Lib.hid hg5; clear hg5))
        go_ret
        have hB5 : Below w3.heap.size w3 w5 := (((Below.refl _ _).alloc (Nat.le_refl _) _).trans (HG4.out.below (one_row _ _) (Nat.le_refl _) (by simp))).alloc (by have := HG4.out.grow.size; simp at this; omega) _ |>.trans (HG5.out.below (World.ownsRow.alloc HG4.out.own _) (Nat.le_refl _) (by have := HG4.out.grow.size; simp at this; simp; omega))
        have hrow := HG5.out.own
        rw [HORD.out] at hrow
        have hz2 := HU.out.size
        have hz3 := HU3.out.size
        obtain ⟨al5, cp5, hv5, hE5⟩ := row_elem hrow no (fun b hb => by have := HNO.out b hb; omega)
        obtain ⟨b5, hb5⟩ : ∃ b, al5 = some ⟨b, 0, none⟩ := by
          obtain ⟨aa, cc, hvv, _, hcc⟩ := hrow.shape
          obtain ⟨gg, h1, _⟩ := hcc 0 (.int .i64 (c : Int)) (by rw [HLE.out]; simp [ints])
          rw [hv5] at hvv
          injection hvv with h2 _ _
          exact ⟨gg, h2.trans h1⟩
        subst hb5
        exact ⟨_, n2, rfl, upd_below HU.out ((HU3.out.trans (hB5.mono hz3)).mono hz2), HN2.out, (HGM2.out.below HU3.out).below hB5, .inr ⟨by rw [HLE.out]; simp, b5, 0, cp5, hv5, hE5⟩⟩
set_option maxRecDepth 100000 in
set_option maxHeartbeats 4000000 in
theorem order_any (g : Gr) (hg : goodB g = true) (O Mb : Nat) : ∀ (c : Nat), c < 3 + g.length → ∀ (no : Nat → Prop) (w : World) (n : Nat), (∀ b, no b → b < w.heap.size) → n + 4 ^ (c + 1) ≤ 4611686018427387904 → GraphM w no O Mb n g → Calls Try.prog 30 #[.pointer (some ⟨O, 0, none⟩), .int .i64 (c : Int)] w (OrderP no O Mb n g c w) := by
  intro c
  induction c using Nat.strongRecOn with
  | _ c ih =>
    intro hc no w n hno hn hgm
    have hlen := good_len hg
    have hp4 : 4 ^ (c + 1) = 4 * 4 ^ c := by rw [Nat.pow_succ, Nat.mul_comm]
    have hpos : 0 < 4 ^ c := Nat.pow_pos (by omega)
    have HFI := Lib.hid (find_any g hg O Mb c hc (fun p hp => ih p hp (by omega)) no w n hno (by omega) hgm)
    obtain ⟨v, b, hrun, hval⟩ := memo_look hgm.memoAt c hc hlen
    have HGM := Lib.hid hgm
    obtain ⟨aP, cP, vA, Bk, h1, _, _, _, _⟩ := hgm
    obtain ⟨⟨o0, o1, o2, o3⟩, _⟩ := h1.cells
    have HVAL := Lib.hid hval
    clear ih hval h1
    cases b with
    | true =>
      go_enter Try.func30, Try.ntmps30
      go_wp2
      go_ret
      exact ⟨_, n, rfl, Upd.refl _ _, Nat.le_add_right _ _, HGM.out, HVAL.out (by first | rfl | trivial)⟩
    | false =>
      go_enter Try.func30, Try.ntmps30
      go_wp2_with (first
        | (go_at_call 61; refine HFI.out.mono ?_; rintro e w2 ⟨v2, n2, rfl, hu2, hn2, hgm2, hv2⟩; obtain ⟨a2, d2, e2, f2, k1, _, _, _, _⟩ := id hgm2; obtain ⟨⟨_, _, _, p3⟩, _⟩ := k1.cells; have HU2 := Lib.hid hu2; have HN2 := Lib.hid hn2; have HGM2 := Lib.hid hgm2; have HV2 := Lib.hid hv2; clear hu2 hn2 hgm2 hv2 k1)
        | (at_mapUpdate; apply wpList_memo (no := no) (Mb := Mb) (n := n2) (g := g) (c := c) (hc := hc) (hl := hlen) (val := v2) (hg := rfl) (hop := rfl) (hm := rfl) (hx := rfl) (hv := rfl); (case h => exact HGM2.out.memoAt); (case hn => have := HN2.out; unfold maxLen; omega); (case hval => exact HV2.out); intro w3 hm3 hu3; have HM3 := Lib.hid hm3; have HU3 := Lib.hid hu3; clear hm3 hu3))
      go_ret
      refine ⟨_, n2 + 1, rfl, HU2.out.trans HU3.out, by have := HN2.out; omega, HGM2.out.upd HU3.out HM3.out, HV2.out.upd HGM2.out.isMap HU3.out⟩
end Go.Proofs.Ytaofmejfdmbfoaa
namespace Go.Proofs.Ytaofmejfdmbfoaa
open Go.ChangeShapes Go.WideShapes Go.ChangeAt Go.RowKit Go.Ln Go.Fs
theorem pow_fit {c : Nat} (h : c < 19) : 0 + 4 ^ (c + 1) ≤ 4611686018427387904 := by
  have : 4 ^ (c + 1) ≤ 4 ^ 19 := Nat.pow_le_pow_right (by omega) (by omega)
  have h2 : (4 : Nat) ^ 19 = 274877906944 := by decide
  omega
set_option maxRecDepth 100000 in
set_option maxHeartbeats 2000000 in
theorem lin_any (W0 : World) (g : Gr) (sa : Option Addr) (cap : Nat) (hl : (g.length : Int) ≤ 9223372036854775807) (hi : GrAt W0 sa g) (c : Int) (w : World) (hB : Below W0.heap.size W0 w) :
    Calls Try.prog 9 #[.slice sa g.length cap, .int .i64 c] w fun e w' => ∃ a cp, e = .returned (.tuple #[.slice a (linL g c).length cp, .int .i64 (linE g c)]) ∧ Below w.heap.size w w' ∧ IntsAt w' a (linL g c) := by
  have hop := openF_any W0 g sa cap hl hi [c] (some ⟨w.heap.size, 0, none⟩) 1 (by simp) (w.alloc (.cells #[.int .i64 c] 3)) (hB.alloc hB.size _) (ints1 w c)
  have HOP := Lib.hid hop; clear hop hi hB
  have qN : ∀ w : World, (binOp .eql 25 (.slice none 0 0) (.slice none 0 0)).run Try.prog w = .ok (.bool true) w := fun w => Lib.run_eql_slice_nil w 25 3 none 0 0 0 0 underI
  have qS : ∀ (w : World) (a : Addr) (n c : Nat), (binOp .eql 25 (.slice (some a) n c) (.slice none 0 0)).run Try.prog w = .ok (.bool false) w := fun w a n c => Lib.run_eql_slice_nil w 25 3 (some a) n c 0 0 underI
  unfold linE linL
  cases hok : okOpen g [c] with
  | false =>
    have hn : ¬ (goodB g = true ∧ classB g c = true) := by
      intro h
      simp [okOpen, h.1, h.2] at hok
    rw [if_neg hn, if_neg hn]
    go_enter Try.func9, Try.ntmps9
    go_wp2_with (go_at_call 29; refine HOP.out.mono ?_; (rintro e w2 ⟨hu, ⟨hb, _⟩ | ⟨_, rfl⟩⟩; (rw [hok] at hb; cases hb); have HU := Lib.hid hu; clear hu))
    go_ret2
    exact ⟨_, _, rfl, ((Below.refl _ w).alloc (Nat.le_refl _) _).trans (HU.out.mono (by simp)), IntsAt.nil _ _⟩
  | true =>
    have hh : goodB g = true ∧ classB g c = true := by
      simp [okOpen] at hok; exact hok
    rw [if_pos hh, if_pos hh]
    obtain ⟨hg, ha⟩ := hh
    obtain ⟨an, rfl, han⟩ := classB_nat ha
    have hlen := good_len hg
    rw [Int.toNat_natCast]
    have HG := Lib.hid hg
    clear hg ha
    cases hl : linO g an with
    | nil =>
      have HL := Lib.hid hl; clear hl
      go_enter Try.func9, Try.ntmps9
      go_wp2_with (first
        | (go_at_call 29; refine HOP.out.mono ?_; (rintro e w2 ⟨hu, ⟨_, O, Mb, rfl, hMb, hgf⟩ | ⟨hb, _⟩⟩; rotate_left; (rw [hok] at hb; cases hb)); have HU := Lib.hid hu; have HGF := Lib.hid hgf; clear hu hgf)
        | (go_at_call 30; refine (order_any g HG.out O Mb an han noB w2 0 (fun b h => h.elim) (pow_fit (by omega)) (HGF.out.memo noB)).mono ?_; (rintro e w3 ⟨v3, n3, rfl, hu3, _, _, ⟨_, rfl⟩ | ⟨hne, _⟩⟩ <;> (first | (exact absurd HL.out hne) | skip)); have HU3 := Lib.hid hu3; clear hu3))
      go_ret2
      simp at hMb
      have h2 : Below w.heap.size w w2 := ((Below.refl _ w).alloc (Nat.le_refl _) _).trans (HU.out.mono (by simp))
      have h3 : Below w.heap.size w w3 := h2.trans (HU3.out.below _ h2.size (by intro x hx; simp at hx; omega))
      first
        | exact ⟨_, _, rfl, h3, IntsAt.nil _ _⟩
        | exact ⟨none, 0, h3, IntsAt.nil _ _⟩
        | exact ⟨_, ⟨_, rfl⟩, h3, IntsAt.nil _ _⟩
        | exact ⟨none, h3, IntsAt.nil _ _⟩
    | cons x t =>
      obtain ⟨n, hn⟩ : ∃ n, (x :: t).length = n := ⟨_, rfl⟩
      have hne : linO g an ≠ [] := by rw [hl]; simp
      have HNE := Lib.hid hne
      have HN := Lib.hid (show (linO g an).length = n by rw [hl]; exact hn)
      have HL := Lib.hid hl
      rw [hn]
      rw [show (x :: t : List Int).isEmpty = false from rfl, if_neg (by simp)]
      clear hl hn hne
      go_enter Try.func9, Try.ntmps9
      go_wp2_with (first
        | (go_at_call 29; refine HOP.out.mono ?_; (rintro e w2 ⟨hu, ⟨_, O, Mb, rfl, hMb, hgf⟩ | ⟨hb, _⟩⟩; rotate_left; (rw [hok] at hb; cases hb)); have HU := Lib.hid hu; have HGF := Lib.hid hgf; clear hu hgf)
        | (go_at_call 30; refine (order_any g HG.out O Mb an han noB w2 0 (fun b h => h.elim) (pow_fit (by omega)) (HGF.out.memo noB)).mono ?_; (rintro e w3 ⟨v3, n3, rfl, hu3, _, _, ⟨hnil, _⟩ | ⟨_, b5, off5, cp5, rfl, hE5⟩⟩ <;> (first | (exact absurd hnil HNE.out) | skip)); (rw [HN.out]); have HU3 := Lib.hid hu3; have HE5 := Lib.hid hE5; clear hu3 hE5))
      go_ret2
      simp at hMb
      have h2 : Below w.heap.size w w2 := ((Below.refl _ w).alloc (Nat.le_refl _) _).trans (HU.out.mono (by simp))
      refine ⟨_, _, rfl, h2.trans (HU3.out.below _ h2.size (by intro x hx; simp at hx; omega)), ?_⟩
      rw [← HL.out]; exact HE5.out.ints
end Go.Proofs.Ytaofmejfdmbfoaa
