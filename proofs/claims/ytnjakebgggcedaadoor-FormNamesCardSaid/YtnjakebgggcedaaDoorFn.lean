/-
  The law FormNames of consort returns true for every string and every list of strings, and each of them reads afterwards as before: the row and its tied card. Condition: the two listed variables hold what the row lays.
-/
import Derived.Test.YtnjakebgggcedaaDoorRows
import Derived.WalkKit
import Derived.WalkSpells
import Derived.Outline
import Derived.ProofKit
import Derived.LoopTactic
import Derived.Lib.Hide
import Derived.Deep.QuietTactic
import Derived.BigQuiet
import Derived.Test.YtnjakebgggcedaaDoorXmD
import Derived.Maps.Own
import Derived.Maps.Views
import Derived.Maps.OwnOps
import Derived.Test.YtnjakebgggcedaaDoorKn
import Derived.SliceStrings
import Derived.ChangeMaps5
import Derived.SevenTiedAt
import Derived.Test.YtnjakebgggcedaaDoorTie
import Derived.Test.YtnjakebgggcedaaDoorCards
namespace Go.Proofs.YtnjakebgggcedaaDoor
open Go.ChangeShapes Go.WideShapes Go.ChangeAt Go.RowKit
def kws : List (List UInt8) := [[97, 102, 116, 101, 114], [97, 110, 100], [97, 110, 121], [97, 114, 111, 117, 110, 100], [98, 101, 102, 111, 114, 101], [99, 108, 97, 115, 115], [101, 108, 115, 101], [105, 102], [105, 110], [105, 110, 116], [105, 115], [108, 101, 116], [109, 101, 116, 104, 111, 100], [110, 101, 119], [110, 101, 120, 116], [110, 111, 110, 101], [110, 111, 116], [111, 114], [111, 117, 116], [115, 101, 116], [116, 104, 101, 110], [116, 114, 117, 101], [116, 117, 114, 110], [119, 104, 101, 114, 101]]
def kwB (s : ByteArray) : Bool := kws.any fun k => s.toList == k
set_option maxRecDepth 100000
set_option maxHeartbeats 1000000 in
theorem keyword_any (s : ByteArray) (w : World) : Calls Tryd.prog 22 #[.string s] w fun e w' => e = .returned (.bool (kwB s)) ∧ w = w' := by
  obtain ⟨b, hb⟩ : ∃ b, kwB s = b := ⟨_, rfl⟩
  rw [hb]
  have HB : Hid (kwB s = b) := hb
  clear hb
  go_enter Tryd.func22, Tryd.ntmps22
  go_wp2
  all_goals first
    | (exfalso; simp_all; done)
    | (go_ret; refine ⟨?_, rfl⟩; have hb := HB.out; unfold kwB kws at hb; simp_all; done)
    | (go_ret; refine ⟨?_, rfl⟩; have hb := HB.out; clear HB; obtain rfl : false = b := by { rw [← hb]; simp only [kwB, kws, List.any_cons, List.any_nil, *, Bool.or_false] }; rfl)

end Go.Proofs.YtnjakebgggcedaaDoor
namespace Go.Proofs.YtnjakebgggcedaaDoor
open Go.ChangeShapes Go.WideShapes Go.ChangeAt Go.RowKit
def lowB (c : UInt8) : Bool := decide (97 ≤ (c.toNat : Int) ∧ (c.toNat : Int) ≤ 122)
def lowAll (s : ByteArray) : Bool := s.data.toList.all lowB
theorem all_take_succ (s : ByteArray) (k : Nat) (h : k < s.size) : (s.data.toList.take (k + 1)).all lowB = ((s.data.toList.take k).all lowB && lowB s[k]) := by
  rw [List.take_succ_eq_append_getElem (by simpa using h), List.all_append]
  simp; rfl
theorem all_stop (s : ByteArray) (k : Nat) (h : k < s.size) (hc : lowB s[k] = false) : lowAll s = false := by
  unfold lowAll
  rw [Bool.eq_false_iff]
  intro ha
  have := List.all_eq_true.1 ha (s.data.toList[k]'(by simpa using h)) (List.getElem_mem _)
  have e : s.data.toList[k]'(by simpa using h) = s[k] := rfl
  rw [e, hc] at this; cases this
set_option maxRecDepth 100000
set_option maxHeartbeats 1000000 in
theorem name_mid (s : ByteArray) (w : World) (h1 : 1 ≤ (s.size : Int)) (h8 : (s.size : Int) ≤ 8) (hk : kwB s = false) : Calls Tryd.prog 5 #[.string s] w fun e w' => e = .returned (.bool (lowAll s)) ∧ w = w' := by
  go_enter Tryd.func5, Tryd.ntmps5
  go_wp2_with (go_at_call 22; refine (keyword_any _ _).mono ?_; rintro e w' ⟨rfl, rfl⟩)
  go_loop [18] (fun i => ∃ k : Nat, k ≤ s.size ∧ i = .int .i64 k ∧ (s.data.toList.take k).all lowB = true) (fun i => s.size - (intOf i).toNat)
  case atStart => exact ⟨0, Nat.zero_le _, rfl, rfl⟩
  case round =>
    obtain ⟨k, hk, rfl, ha⟩ := hrel
    have HA := Lib.hid ha; clear ha
    by_cases hlt : k < s.size
    · have hsn := all_take_succ s k hlt
      have hst := all_stop s k hlt
      have HS := Lib.hid hsn; clear hsn
      have HT := Lib.hid hst; clear hst
      by_cases hlo : (s[k].toNat : Int) < 97
      · go_wp2
        go_ret
        exact ⟨by rw [HT.out (by unfold lowB; simp; omega)]; rfl, rfl⟩
      · by_cases hhi : 122 < (s[k].toNat : Int)
        · go_wp2
          go_ret
          exact ⟨by rw [HT.out (by unfold lowB; simp; omega)]; rfl, rfl⟩
        · go_wp2
          go_round
          case rel => exact ⟨k + 1, by omega, by go_num, by rw [HS.out, HA.out]; unfold lowB; simp; omega⟩
          case measure => simp [intOf]; omega
    · go_wp2
      go_ret
      exact ⟨by have := HA.out; rw [List.take_of_length_le (by simp; omega)] at this; rw [show lowAll s = true from this]; rfl, rfl⟩
end Go.Proofs.YtnjakebgggcedaaDoor
namespace Go.Proofs.YtnjakebgggcedaaDoor
open Go.ChangeShapes Go.WideShapes Go.ChangeAt Go.RowKit
def nameB (s : ByteArray) : Bool := decide (1 ≤ s.size ∧ s.size ≤ 8) && !kwB s && lowAll s
set_option maxRecDepth 100000
set_option maxHeartbeats 1000000 in
theorem name_any (s : ByteArray) (w : World) : Calls Tryd.prog 5 #[.string s] w fun e w' => e = .returned (.bool (nameB s)) ∧ w = w' := by
  by_cases h1 : (s.size : Int) < 1
  · have e : nameB s = false := by unfold nameB; have : ¬ (1 ≤ s.size ∧ s.size ≤ 8) := by omega
                                   simp [this]
    rw [e]; clear e
    go_enter Tryd.func5, Tryd.ntmps5
    go_wp2_with (go_at_call 22; refine (keyword_any _ _).mono ?_; rintro e w' ⟨rfl, rfl⟩)
    go_ret
    exact ⟨rfl, rfl⟩
  · by_cases h8 : 8 < (s.size : Int)
    · have e : nameB s = false := by unfold nameB; have : ¬ (1 ≤ s.size ∧ s.size ≤ 8) := by omega
                                     simp [this]
      rw [e]; clear e
      go_enter Tryd.func5, Tryd.ntmps5
      go_wp2_with (go_at_call 22; refine (keyword_any _ _).mono ?_; rintro e w' ⟨rfl, rfl⟩)
      go_ret
      exact ⟨rfl, rfl⟩
    · cases hk : kwB s with
      | true =>
        have e : nameB s = false := by unfold nameB; rw [hk]; simp
        rw [e]; clear e
        go_enter Tryd.func5, Tryd.ntmps5
        go_wp2_with (go_at_call 22; refine (keyword_any _ _).mono ?_; rintro e w' ⟨rfl, rfl⟩)
        go_ret
        exact ⟨rfl, rfl⟩
      | false =>
        have e : nameB s = lowAll s := by unfold nameB; rw [hk]; have : (1 ≤ s.size ∧ s.size ≤ 8) := by omega
                                          simp [this]
        rw [e]
        exact name_mid s w (by omega) (by omega) hk
/-- a slice of strings reads as a list -/
def SlR (w : World) (v : Value) (ss : List ByteArray) : Prop :=
  (∃ a cap, v = .slice a 0 cap ∧ ss = []) ∨ ∃ b off cap, v = .slice (some ⟨b, off, none⟩) ss.length cap ∧ ∀ (i : Nat) (s : ByteArray), ss[i]? = some s → w.cell? ⟨b, off + i, none⟩ = some (.string s)
def hasB (ss : List ByteArray) (s : ByteArray) : Bool := ss.any fun x => x.toList == s.toList
theorem hasB_take (ss : List ByteArray) (s : ByteArray) (k : Nat) (x : ByteArray) (h : ss[k]? = some x) : hasB (ss.take (k + 1)) s = (hasB (ss.take k) s || (x.toList == s.toList)) := by
  unfold hasB
  obtain ⟨hk, rfl⟩ := List.getElem?_eq_some_iff.1 h
  rw [List.take_succ_eq_append_getElem hk, List.any_append]
  simp
theorem hasB_stop (ss : List ByteArray) (s : ByteArray) (k : Nat) (x : ByteArray) (h : ss[k]? = some x) (e : (x.toList == s.toList) = true) : hasB ss s = true := by
  unfold hasB
  exact List.any_eq_true.2 ⟨x, List.mem_of_getElem? h, e⟩
def IdxP (ss : List ByteArray) (s : ByteArray) (e : Ending) : Prop := ∃ n : Int, e = .returned (.int .i64 n) ∧ n ≤ 9223372036854775807 ∧ if hasB ss s = true then 0 ≤ n else n = -1
set_option maxHeartbeats 1000000 in
theorem index_cells (ss : List ByteArray) (s : ByteArray) (b off cap : Nat) (w : World) (hl : (ss.length : Int) ≤ 9223372036854775807) (hc : ∀ (i : Nat) (s : ByteArray), ss[i]? = some s → w.cell? ⟨b, off + i, none⟩ = some (.string s)) :
    Calls Tryd.prog 46 #[.slice (some ⟨b, off, none⟩) ss.length cap, .string s] w fun e w' => IdxP ss s e ∧ w = w' := by
  go_enter Tryd.func46, Tryd.ntmps46
  have HC := Lib.hid hc; clear hc
  go_wp2
  go_loop [5] (fun j => ∃ k : Nat, k ≤ ss.length ∧ j = .int .i64 k ∧ hasB (ss.take k) s = false) (fun j => ss.length - (intOf j).toNat)
  case atStart => exact ⟨0, Nat.zero_le _, rfl, rfl⟩
  case round =>
    obtain ⟨k, hk, rfl, ha⟩ := hrel
    have HA := Lib.hid ha; clear ha
    by_cases hlt : k < ss.length
    · obtain ⟨x, hx⟩ : ∃ x, ss[k]? = some x := ⟨ss[k], List.getElem?_eq_getElem hlt⟩
      have hcell := HC.out k x hx
      have hsn := hasB_take ss s k x hx
      have hst := hasB_stop ss s k x hx
      have HS := Lib.hid hsn; clear hsn
      have HT := Lib.hid hst; clear hst
      have HX := Lib.hid hx; clear hx
      cases he : (x.toList == s.toList) with
      | true =>
        go_wp2
        go_ret
        exact ⟨⟨k, rfl, by omega, by rw [if_pos (HT.out he)]; omega⟩, rfl⟩
      | false =>
        go_wp2
        go_round
        case rel => exact ⟨k + 1, by omega, by go_num, by rw [HS.out, HA.out, he]; rfl⟩
        case measure => simp [intOf]; omega
    · go_wp2
      go_ret
      exact ⟨⟨-1, rfl, by omega, by have := HA.out; rw [List.take_of_length_le (by omega)] at this; rw [if_neg (by rw [this]; simp)]⟩, rfl⟩
theorem index_any (v : Value) (ss : List ByteArray) (s : ByteArray) (w : World) (hl : (ss.length : Int) ≤ 9223372036854775807) (h : SlR w v ss) : Calls Tryd.prog 46 #[v, .string s] w fun e w' => IdxP ss s e ∧ w = w' := by
  rcases h with ⟨a, cap, rfl, rfl⟩ | ⟨b, off, cap, rfl, hc⟩
  · go_enter Tryd.func46, Tryd.ntmps46
    go_wp2
    go_loop [5] (fun j => j = .int .i64 0) (fun j => 0)
    case atStart => rfl
    case round =>
      subst hrel
      go_wp2
      go_ret
      exact ⟨⟨-1, rfl, by omega, by simp [hasB]⟩, rfl⟩
  · exact index_cells ss s b off cap w hl hc
set_option maxHeartbeats 1000000 in
theorem has_any (v : Value) (ss : List ByteArray) (s : ByteArray) (w : World) (hl : (ss.length : Int) ≤ 9223372036854775807) (h : SlR w v ss) : Calls Tryd.prog 23 #[v, .string s] w fun e w' => e = .returned (.bool (hasB ss s)) ∧ w = w' := by
  have H := Lib.hid h; clear h
  go_enter Tryd.func23, Tryd.ntmps23
  cases hb : hasB ss s with
  | true =>
    have HB := Lib.hid hb; clear hb
    go_wp2_with (go_at_call 46; refine (index_any _ _ _ _ hl H.out).mono ?_; rintro e w' ⟨⟨n, rfl, hn1, hn⟩, rfl⟩; rw [if_pos HB.out] at hn)
    go_ret
    exact ⟨rfl, rfl⟩
  | false =>
    have HB := Lib.hid hb; clear hb
    go_wp2_with (go_at_call 46; refine (index_any _ _ _ _ hl H.out).mono ?_; rintro e w' ⟨⟨n, rfl, hn1, hn⟩, rfl⟩; rw [if_neg (by rw [HB.out]; simp)] at hn; subst hn)
    go_ret
    exact ⟨rfl, rfl⟩
end Go.Proofs.YtnjakebgggcedaaDoor
namespace Go.Proofs.YtnjakebgggcedaaDoor
open Go.ChangeShapes Go.WideShapes Go.ChangeAt Go.RowKit
def kwl : List ByteArray := kws.map fun l => ⟨⟨l⟩⟩
def KwP (w : World) (e : Ending) (w' : World) : Prop := ∃ v, e = .returned v ∧ SlR w' v kwl ∧ Below w.heap.size w w'
set_option maxRecDepth 100000
set_option maxHeartbeats 1000000 in
theorem keywords_any (w : World) : Calls Tryd.prog 24 #[] w (KwP w) := by
  go_enter Tryd.func24, Tryd.ntmps24
  go_wp2
  go_ret
  refine ⟨_, rfl, .inr ⟨w.heap.size, 0, 24, rfl, fun i x hi => ?_⟩, (Below.refl _ _).alloc (Nat.le_refl _) _⟩
  rw [World.cell?_alloc_at _ _ _ _ rfl, Nat.zero_add]
  show ((kwl.map Value.string).toArray)[i]? = _
  simp [hi]
theorem kw_has (s : ByteArray) : hasB kwl s = kwB s := by
  unfold hasB kwB kwl
  rw [List.any_map]
  congr 1
  funext k
  show ((⟨⟨k⟩⟩ : ByteArray).toList == s.toList) = (s.toList == k)
  have e : (⟨⟨k⟩⟩ : ByteArray).toList = k := by simp
  rw [e, Bool.eq_iff_iff]
  simp only [beq_iff_eq]
  exact ⟨Eq.symm, Eq.symm⟩
def RnP (s : ByteArray) (w : World) (e : Ending) (w' : World) : Prop := e = .returned (.bool (nameB s)) ∧ Below w.heap.size w w'
set_option maxRecDepth 100000
set_option maxHeartbeats 1000000 in
theorem rname_any (s : ByteArray) (w : World) (hs : (s.size : Int) ≤ 9223372036854775807) : Calls Tryd.prog 6 #[.string s] w (RnP s w) := by
  go_enter Tryd.func6, Tryd.ntmps6
  go_wp2
  go_loop [3] (fun i => ∃ k : Nat, k ≤ s.size ∧ i = .int .i64 k ∧ (s.data.toList.take k).all lowB = true) (fun i => s.size - (intOf i).toNat)
  case atStart => exact ⟨0, Nat.zero_le _, rfl, rfl⟩
  case round =>
    obtain ⟨k, hk, rfl, ha⟩ := hrel
    have HA := Lib.hid ha; clear ha
    by_cases hlt : k < s.size
    · have hsn := all_take_succ s k hlt
      have hst := all_stop s k hlt
      have HS := Lib.hid hsn; clear hsn
      have HT := Lib.hid hst; clear hst
      by_cases hlo : (s[k].toNat : Int) < 97
      · go_wp2
        go_ret
        exact ⟨by have e := HT.out (by unfold lowB; simp; omega); rw [show nameB s = false by unfold nameB; rw [e]; simp]; rfl, Below.refl _ _⟩
      · by_cases hhi : 122 < (s[k].toNat : Int)
        · go_wp2
          go_ret
          exact ⟨by have e := HT.out (by unfold lowB; simp; omega); rw [show nameB s = false by unfold nameB; rw [e]; simp]; rfl, Below.refl _ _⟩
        · go_wp2
          go_round
          case rel => exact ⟨k + 1, by omega, by go_num, by rw [HS.out, HA.out]; unfold lowB; simp; omega⟩
          case measure => simp [intOf]; omega
    · have hall : lowAll s = true := by have := HA.out; rw [List.take_of_length_le (by simp; omega)] at this; exact this
      have HL := Lib.hid hall; clear hall
      go_wp2_with (first
        | (go_at_call 24; refine (keywords_any _).mono ?_; rintro e w1 ⟨v, rfl, hsl, hb⟩; have HSL := Lib.hid hsl; clear hsl; have HB := Lib.hid hb; clear hb)
        | (go_at_call 23; refine (has_any _ _ _ _ (by decide) HSL.out).mono ?_; rintro e w' ⟨rfl, rfl⟩))
      · go_ret
        refine ⟨?_, HB.out⟩
        have e : nameB s = !hasB kwl s := by
          have h8 : 1 ≤ s.size ∧ s.size ≤ 8 := by omega
          unfold nameB
          rw [kw_has, HL.out]
          simp [h8]
        rw [e]; rfl
      · go_ret
        refine ⟨?_, Below.refl _ _⟩
        have e : nameB s = false := by
          have h8 : ¬ (1 ≤ s.size ∧ s.size ≤ 8) := by omega
          unfold nameB
          simp [h8]
        rw [e]; rfl
      · go_ret
        refine ⟨?_, Below.refl _ _⟩
        have e : nameB s = false := by
          have h8 : ¬ (1 ≤ s.size ∧ s.size ≤ 8) := by omega
          unfold nameB
          simp [h8]
        rw [e]; rfl
end Go.Proofs.YtnjakebgggcedaaDoor
namespace Go.Proofs.YtnjakebgggcedaaDoor
open Go.ChangeShapes Go.WideShapes Go.ChangeAt Go.RowKit
/-- the words of one and of two letters, in their order -/
def wd (n : Nat) : ByteArray := if n ≤ 26 then ⟨⟨[UInt8.ofNat (96 + n)]⟩⟩ else ⟨⟨[UInt8.ofNat (96 + (n - 1) / 26), UInt8.ofNat (97 + (n - 1) % 26)]⟩⟩
theorem namesOk_all : (Tryd.prog.funcs.toList.all fun fn => !(fn.body.isSome && (fn.name == "runtime.NumGoroutine"))) = true := by kernel_rfl
theorem namesOk : Xm.NamesOk Tryd.prog := fun f fn hf hb => by
  have := List.all_eq_true.1 namesOk_all fn (Array.mem_toList_iff.2 (Array.mem_of_getElem? hf))
  rw [hb] at this
  simpa using this
set_option maxRecDepth 1000000 in
theorem words_run : ((List.range 232).all fun n => Xm.okVal Tryd.prog 0 26 [.int .i64 (Int.ofNat n)] 100000 (.string (wd n)) || Nat.beq n 0) = true := by kernel_rfl
theorem word_any (n : Nat) (h1 : 1 ≤ n) (h2 : n < 232) (w : World) : Calls Tryd.prog 26 #[.int .i64 n] w fun e w' => e = .returned (.string (wd n)) ∧ Below w.heap.size w w' := by
  have := List.all_eq_true.1 words_run n (List.mem_range.2 h2)
  simp only [Bool.or_eq_true] at this
  rcases this with h | h
  · exact Xm.calls_val namesOk rfl h (Nat.zero_le _)
  · have := Nat.eq_of_beq_eq_true h; omega
end Go.Proofs.YtnjakebgggcedaaDoor
namespace Go.Proofs.YtnjakebgggcedaaDoor
open Go.ChangeShapes Go.WideShapes Go.ChangeAt Go.RowKit
theorem nodup_le : ∀ {l m : List (List UInt8)}, l.Nodup → (∀ x ∈ l, x ∈ m) → l.length ≤ m.length
  | [], m, _, _ => Nat.zero_le _
  | x :: l, m, hn, hm => by
    obtain ⟨h1, h2⟩ := List.nodup_cons.1 hn
    have hx := hm x List.mem_cons_self
    have := nodup_le (l := l) (m := m.erase x) h2 fun y hy => by
      have hne : y ≠ x := by rintro rfl; exact h1 hy
      exact (List.mem_erase_of_ne hne).2 (hm y (List.mem_cons_of_mem _ hy))
    rw [List.length_erase_of_mem hx] at this
    have hp : 0 < m.length := List.length_pos_of_mem hx
    simp only [List.length_cons]; omega
theorem wd_nodup : ((List.range' 1 201).map fun n => (wd n).data.toList).Nodup := by decide +kernel
theorem wd_names : ((List.range' 1 231).all fun n => nameB (wd n)) = true := by kernel_rfl
theorem wd_small : ((List.range' 1 231).all fun n => decide ((wd n).size ≤ 2)) = true := by kernel_rfl
theorem toL (s : ByteArray) : s.toList = s.data.toList := by obtain ⟨⟨l⟩⟩ := s; simp
theorem some_free (ss : List ByteArray) (h : ss.length ≤ 200) : ∃ n, 1 ≤ n ∧ n ≤ 201 ∧ hasB ss (wd n) = false := by
  apply Classical.byContradiction
  intro hno
  have hall : ∀ n, 1 ≤ n → n ≤ 201 → hasB ss (wd n) = true := fun n h1 h2 => by
    cases hb : hasB ss (wd n) with
    | true => rfl
    | false => exact absurd ⟨n, h1, h2, hb⟩ hno
  have := nodup_le (m := ss.map fun s => s.data.toList) wd_nodup fun x hx => by
    obtain ⟨n, hn, rfl⟩ := List.mem_map.1 hx
    have hn := List.mem_range'_1.1 hn
    have hb := hall n hn.1 (by omega)
    unfold hasB at hb
    obtain ⟨y, hy, he⟩ := List.any_eq_true.1 hb
    refine List.mem_map.2 ⟨y, hy, ?_⟩
    have := eq_of_beq he
    rwa [toL, toL] at this
  simp at this
  omega
/-- the first word that is none of some strings -/
structure Fst (ss : List ByteArray) (n : Nat) : Prop where
  one : 1 ≤ n
  most : n ≤ 201
  free : hasB ss (wd n) = false
  first : ∀ j, 1 ≤ j → j < n → hasB ss (wd j) = true
theorem fst_ex (ss : List ByteArray) (h : ss.length ≤ 200) : ∃ n, Fst ss n := by
  obtain ⟨n, h1, h2, h3⟩ := some_free ss h
  induction n using Nat.strongRecOn with
  | _ n ih =>
    by_cases hx : ∃ j, 1 ≤ j ∧ j < n ∧ hasB ss (wd j) = false
    · obtain ⟨j, j1, j2, j3⟩ := hx
      exact ih j j2 j1 (by omega) j3
    · refine ⟨n, h1, h2, h3, fun j j1 j2 => ?_⟩
      cases hb : hasB ss (wd j) with
      | true => rfl
      | false => exact absurd ⟨j, j1, j2, hb⟩ hx
theorem wd_name (n : Nat) (h1 : 1 ≤ n) (h2 : n ≤ 231) : nameB (wd n) = true := List.all_eq_true.1 wd_names n (List.mem_range'_1.2 ⟨h1, by omega⟩)
theorem wd_le (n : Nat) (h1 : 1 ≤ n) (h2 : n ≤ 231) : ((wd n).size : Int) ≤ 9223372036854775807 := by
  have := List.all_eq_true.1 wd_small n (List.mem_range'_1.2 ⟨h1, by omega⟩)
  have := of_decide_eq_true this
  omega
theorem SlR.below {W w : World} {v : Value} {ss : List ByteArray} (h : SlR W v ss) (hb : Below W.heap.size W w) : SlR w v ss := by
  rcases h with h | ⟨b, off, cap, rfl, hc⟩
  · exact .inl h
  · refine .inr ⟨b, off, cap, rfl, fun i s hi => ?_⟩
    have h0 := hc i s hi
    have hlt : b < W.heap.size := by
      rcases Nat.lt_or_ge b W.heap.size with h | h
      · exact h
      · unfold World.cell? at h0
        simp only [Array.getElem?_eq_none h] at h0
        cases h0
    rw [hb.cell (p := ⟨b, off + i, none⟩) hlt]; exact h0
def FrP (ss : List ByteArray) (w : World) (e : Ending) (w' : World) : Prop := ∃ n, Fst ss n ∧ e = .returned (.string (wd n)) ∧ Below w.heap.size w w'
theorem rname_yes (n : Nat) (h1 : 1 ≤ n) (h2 : n ≤ 231) (w : World) : Calls Tryd.prog 6 #[.string (wd n)] w fun e w' => e = .returned (.bool true) ∧ Below w.heap.size w w' :=
  (rname_any (wd n) w (wd_le n h1 h2)).mono fun e w' h => ⟨by have := h.1; rwa [wd_name n h1 h2] at this, h.2⟩
theorem has_is (v : Value) (ss : List ByteArray) (s : ByteArray) (b : Bool) (w : World) (hl : ss.length ≤ 200) (h : SlR w v ss) (hb : hasB ss s = b) : Calls Tryd.prog 23 #[v, .string s] w fun e w' => e = .returned (.bool b) ∧ w = w' := by
  have := has_any v ss s w (by omega) h
  rwa [hb] at this
set_option maxRecDepth 100000
set_option maxHeartbeats 1000000 in
theorem rfresh_any (v : Value) (ss : List ByteArray) (w : World) (hl : ss.length ≤ 200) (h : SlR w v ss) : Calls Tryd.prog 8 #[v] w (FrP ss w) := by
  obtain ⟨n0, hf⟩ := fst_ex ss hl
  have HF := Lib.hid hf; clear hf
  have H := Lib.hid h; clear h
  have hm0 := HF.out.most
  go_enter Tryd.func8, Tryd.ntmps8
  go_wp2
  go_loopw [3] (fun i wr => ∃ k : Nat, 1 ≤ k ∧ k ≤ n0 ∧ i = .int .i64 k ∧ Below w.heap.size w wr) (fun i _ => n0 - (intOf i).toNat)
  case atStart => exact ⟨1, by omega, HF.out.one, rfl, Below.refl _ _⟩
  case round =>
    obtain ⟨k, k1, k2, rfl, hB⟩ := hrel
    have HBw := Lib.hid hB; clear hB
    by_cases hlt : k < n0
    · have HH := Lib.hid (HF.out.first k k1 hlt)
      go_wp2_with (first
        | (go_at_call 26; refine (word_any k k1 (by omega) _).mono ?_; rintro e w1 ⟨rfl, hb1⟩; have HBw := Lib.hid (HBw.out.trans (hb1.mono HBw.out.size)); clear hb1)
        | (go_at_call 6; refine (rname_yes k k1 (by omega) _).mono ?_; rintro e w1 ⟨rfl, hb1⟩; have HBw := Lib.hid (HBw.out.trans (hb1.mono HBw.out.size)); clear hb1)
        | (go_at_call 23; refine (has_is _ ss (wd k) true _ hl (H.out.below HBw.out) HH.out).mono ?_; rintro e w1 ⟨rfl, rfl⟩))
      go_roundw
      case rel => exact ⟨k + 1, by omega, by omega, by go_num, HBw.out⟩
      case measure => simp [intOf]; omega
    · obtain rfl : k = n0 := by omega
      have HH := Lib.hid HF.out.free
      go_wp2_with (first
        | (go_at_call 26; refine (word_any k k1 (by omega) _).mono ?_; rintro e w1 ⟨rfl, hb1⟩; have HBw := Lib.hid (HBw.out.trans (hb1.mono HBw.out.size)); clear hb1)
        | (go_at_call 6; refine (rname_yes k k1 (by omega) _).mono ?_; rintro e w1 ⟨rfl, hb1⟩; have HBw := Lib.hid (HBw.out.trans (hb1.mono HBw.out.size)); clear hb1)
        | (go_at_call 23; refine (has_is _ ss (wd k) false _ hl (H.out.below HBw.out) HH.out).mono ?_; rintro e w1 ⟨rfl, rfl⟩))
      go_ret
      exact ⟨k, HF.out, rfl, HBw.out⟩
end Go.Proofs.YtnjakebgggcedaaDoor
namespace Go.Proofs.YtnjakebgggcedaaDoor
open Go.ChangeShapes Go.WideShapes Go.ChangeAt Go.RowKit Go.WideMaps Go.Maps
theorem klaw : Keyed Tryd.prog 9 := string_keyed Tryd.underlying9
def kLit (s : ByteArray) : Lit := .string s.data.toList
def setD (ss : List ByteArray) : DataW Unit := ss.foldl (fun D s => D.put (kLit s) (.lit (.bool true))) (.map [])
theorem setD_snoc (ss : List ByteArray) (s : ByteArray) : setD (ss ++ [s]) = (setD ss).put (kLit s) (.lit (.bool true)) := by
  unfold setD; rw [List.foldl_append]; rfl
theorem kLit_key (s : ByteArray) (h : s.size ≤ maxLen) : keyOf Tryd.prog 9 (.string s) = some (kLit s) := keyOf_string_mk Tryd.underlying9 h
theorem foldD (s : ByteArray) (hs : WideAt.IsKeyLit (kLit s)) (z : DataW Unit) : ∀ (ss : List ByteArray) (D : DataW Unit), Maps.IsMap D →
    (ss.foldl (fun D s => D.put (kLit s) (.lit (.bool true))) D).atKey (kLit s) z = if hasB ss s = true then .lit (.bool true) else D.atKey (kLit s) z
  | [], D, _ => by simp [hasB]
  | x :: ss, D, hD => by
    rw [List.foldl_cons, foldD s hs z ss _ (hD.put _ _)]
    by_cases hx : x.toList = s.toList
    · have hk : kLit s = kLit x := by rw [toL, toL] at hx; unfold kLit; rw [hx]
      have h1 : hasB (x :: ss) s = true := by simp [hasB, hx]
      rw [if_pos h1]
      split
      · rfl
      · rw [← hk, atKey_put_same hD hs]
    · have hk : kLit s ≠ kLit x := fun h => hx (by unfold kLit at h; injection h with h; rw [toL, toL, h])
      have h1 : hasB (x :: ss) s = hasB ss s := by simp [hasB, hx]
      rw [h1, atKey_put_other hk]
theorem setD_at (ss : List ByteArray) (s : ByteArray) (hs : WideAt.IsKeyLit (kLit s)) : (setD ss).atKey (kLit s) (.lit (.bool false)) = .lit (.bool (hasB ss s)) := by
  unfold setD
  rw [foldD s hs _ ss _ isMap_empty]
  cases hb : hasB ss s with
  | true => rfl
  | false => rfl
/-- what is asked of the map of the strings -/
def Own (w : World) (b : Nat) (ss : List ByteArray) : Prop := w.ownsMap Tryd.prog 9 (plainElem (H := Unit) Tryd.prog 4) b ss.length (setD ss)
theorem zero4 (w : World) : (zeroValue 4).run Tryd.prog w = .ok (.bool false) w := by kernel_rfl
theorem plain_bool_inv {P : Program} {e : TypeId} (he : P.underlying e = some .bool) {v : Value} {x : Bool} {ps : List MemPlace} (h : plainElem (H := Unit) P e v = some (.lit (.bool x), ps)) : v = .bool x := by
  unfold plainElem at h
  rw [he] at h
  cases v with
  | bool y =>
    simp only [Option.some.injEq, Prod.mk.injEq, DataW.lit.injEq, Lit.bool.injEq] at h
    rw [h.1]
  | _ => cases h
theorem own_ask {w : World} {b : Nat} {ss : List ByteArray} (h : Own w b ss) (s : ByteArray) (hs : s.size ≤ maxLen) : (Instr.lookup 61 (.map (some b)) (.string s) false).run Tryd.prog w = .ok (.bool (hasB ss s)) w := by
  have hkey := kLit_key s hs
  obtain ⟨v, ps, hrun, hv⟩ := World.ownsMap.lookup h klaw Tryd.underlying61 (zero4 w) (plainElem_bool Tryd.underlying4 false) hkey
  rw [setD_at ss s (klaw.key hkey)] at hv
  rw [hrun, plain_bool_inv Tryd.underlying4 hv]
/-- the first name that is not in the map: to be proved with the machine -/
noncomputable def asks : Bool := match Xm.startS Tryd.prog 25 [.map (some 0)] .nil 1 with
  | some S0 => (match Xm.toAsk Tryd.prog 61 S0 with | some Q => Xm.chkQ Tryd.prog 61 25 wd 201 Q 1 | none => false)
  | none => false
set_option maxRecDepth 1000000 in
theorem asks_ok : asks = true := by kernel_rfl
theorem first_any (b : Nat) (ss : List ByteArray) (w : World) (hl : ss.length ≤ 200) (h : Own w b ss) : Calls Tryd.prog 25 #[.map (some b)] w (FrP ss w) := by
  obtain ⟨n0, hf⟩ := fst_ex ss hl
  have ha := asks_ok
  unfold asks at ha
  split at ha
  · rename_i S0 hS0
    split at ha
    · rename_i Q hQ
      obtain ⟨S', h2, nx2, hlk, hfin, htop⟩ := Xm.chkQ_ok (F := fun K e => e 0 = some (b, 0, 0) ∧ K = Xm.K0 w) namesOk (fun K e e' hh hle => ⟨hle _ _ hh.1, hh.2⟩) (has := hasB ss) (n0 := n0) (wd := wd) (T := 61) (f := 25)
        (fun k hk K e h1 nx w1 hh H => by
          obtain ⟨hh1, rfl⟩ := hh
          refine ⟨b, hh1, ?_⟩
          obtain ⟨es, clock, hb, F, hs, hD⟩ := h
          have hb1 : w1.heap[b]? = some (.map es clock) := H.keep b _ hb
          have h3 : Own w1 b ss := ⟨es, clock, hb1, F, hs, hD⟩
          refine own_ask h3 (wd k) ?_
          by_cases h0 : 1 ≤ k
          · have := List.all_eq_true.1 wd_small k (List.mem_range'_1.2 ⟨h0, by have := hf.most; omega⟩)
            have := of_decide_eq_true this
            exact Nat.le_trans this (by decide)
          · have : k = 0 := by omega
            subst this
            exact (by decide : (wd 0).size ≤ maxLen)) hf.free 201 Q 1 ha hf.one (by have := hf.most; omega) (fun j hj hlt => hf.first j hj hlt)
      refine (Xm.calls_lk (F := fun K e => e 0 = some (b, 0, 0) ∧ K = Xm.K0 w) (args' := #[.map (some b)]) ⟨rfl, rfl⟩ (Xm.HR.startB b) (.cons (.map (s := 0) (x := 0) rfl) .nil) hS0
        (Xm.Lk.trans (fun K e e' hh hle => ⟨hle _ _ hh.1, hh.2⟩) (Xm.Lk.of (Xm.toAsk_ok namesOk hQ)) hlk) hfin htop).mono ?_
      rintro en w' ⟨v', e', rfl, hle, hv, H'⟩
      cases hv
      exact ⟨n0, hf, rfl, Xm.below_of_keep H'⟩
    · cases ha
  · cases ha
theorem FrP.from {ss : List ByteArray} {w w1 : World} (hb : Below w.heap.size w w1) {e : Ending} {w' : World} (h : FrP ss w1 e w') : FrP ss w e w' := by
  obtain ⟨n, h1, h2, h3⟩ := h
  exact ⟨n, h1, h2, hb.trans (h3.mono hb.size)⟩
theorem cell_lt {w : World} {b o : Nat} {v : Value} (h0 : w.cell? ⟨b, o, none⟩ = some v) : b < w.heap.size := by
  rcases Nat.lt_or_ge b w.heap.size with h | h
  · exact h
  · unfold World.cell? at h0
    simp only [Array.getElem?_eq_none h] at h0
    cases h0
theorem fresh_nil (a : Option Addr) (cap : Nat) (w : World) : Calls Tryd.prog 7 #[.slice a 0 cap] w (FrP [] w) := by
  have hmm := @run_makeMap Tryd.prog
  go_enter Tryd.func7, Tryd.ntmps7
  go_wp2
  refine wp_loop_rounds 1 ?_
  rw [rounds_succ]
  go_wp2_with (go_at_call 25; refine (first_any _ [] _ (by simp) (World.ownsMap_made _ _ _ _)).mono ?_; rintro e w' hx; obtain ⟨n, hn, rfl, hbx⟩ := FrP.from ((Below.refl _ w).alloc (Nat.le_refl _) _) hx; have HX := Lib.hid hbx; clear hbx hx)
  go_ret
  exact ⟨n, hn, rfl, HX.out⟩
set_option maxRecDepth 100000
set_option maxHeartbeats 1000000 in
theorem fresh_some (b off cap : Nat) (ss : List ByteArray) (w : World) (hl : ss.length ≤ 200)
    (hc : ∀ (i : Nat) (s : ByteArray), ss[i]? = some s → w.cell? ⟨b, off + i, none⟩ = some (.string s)) (hsz : ∀ s ∈ ss, s.size ≤ maxLen) :
    Calls Tryd.prog 7 #[.slice (some ⟨b, off, none⟩) ss.length cap] w (FrP ss w) := by
  have HC := Lib.hid hc; clear hc
  have HZ := Lib.hid hsz; clear hsz
  have hmm := @run_makeMap Tryd.prog
  go_enter Tryd.func7, Tryd.ntmps7
  go_wp2
  go_loopw [9] (fun i wr => ∃ k : Nat, k ≤ ss.length ∧ i = .int .i64 k ∧ wr.ownsMap Tryd.prog 9 (plainElem (H := Unit) Tryd.prog 4) w.heap.size k (setD (ss.take k)) ∧ Below w.heap.size w wr) (fun i _ => ss.length - (intOf i).toNat)
  case atStart => exact ⟨0, Nat.zero_le _, rfl, World.ownsMap_made _ _ _ _, (Below.refl _ _).alloc (Nat.le_refl _) _⟩
  case round =>
    obtain ⟨k, hk, rfl, hown, hnx⟩ := hrel
    by_cases hlt : k < ss.length
    · obtain ⟨s, hs⟩ : ∃ s, ss[k]? = some s := ⟨ss[k], List.getElem?_eq_getElem hlt⟩
      have hb : b < w.heap.size := cell_lt (HC.out k s hs)
      have hcx : wr.cell? ⟨b, off + k, none⟩ = some (.string s) := (hnx.cell (p := ⟨b, off + k, none⟩) hb).trans (HC.out k s hs)
      have hkey := kLit_key s (HZ.out s (List.mem_of_getElem? hs))
      have hst : setD (ss.take (k + 1)) = (setD (ss.take k)).put (kLit s) (.lit (.bool true)) := by
        rw [← setD_snoc]
        congr 1
        rw [List.take_add_one, hs]; rfl
      have HT := Lib.hid hst; clear hst
      have HS := Lib.hid hs; clear hs
      clear hb
      go_wp2_with (at_mapUpdate; refine wpList_mapUpdate_own _ rfl _ _ _ 61 rfl 9 4 klaw Tryd.underlying61 _ w.heap.size k _ rfl hown (by unfold maxLen; omega) _ _ _ rfl rfl hkey _ [] (plainElem_bool Tryd.underlying4 true) ?_)
      intro w1 hown1 hgrow1
      have R1 := HT.out.symm ▸ hown1
      have R2 := hnx.grown hgrow1 hnx.size (fun j hj => by cases hj; exact Nat.le_refl _)
      clear hown1 hgrow1 hown hcx
      go_wp2
      go_roundw
      case rel => exact ⟨k + 1, by omega, by go_num, R1, R2⟩
      case measure => simp [intOf]; omega
    · obtain rfl : k = ss.length := by omega
      rw [List.take_length] at hown
      have HO := Lib.hid hown; clear hown
      have HN := Lib.hid hnx; clear hnx
      go_wp2_with (go_at_call 25; refine (first_any _ ss _ hl HO.out).mono ?_; rintro e w' hx; obtain ⟨n, hn, rfl, hbx⟩ := FrP.from HN.out hx; have HX := Lib.hid hbx; clear hbx hx)
      go_ret
      exact ⟨n, hn, rfl, HX.out⟩
theorem fresh_any (v : Value) (ss : List ByteArray) (w : World) (hl : ss.length ≤ 200) (h : SlR w v ss) (hsz : ∀ s ∈ ss, s.size ≤ maxLen) : Calls Tryd.prog 7 #[v] w (FrP ss w) := by
  rcases h with ⟨a, cap, rfl, rfl⟩ | ⟨b, off, cap, rfl, hc⟩
  · exact fresh_nil a cap w
  · exact fresh_some b off cap ss w hl hc hsz
theorem Fst.uniq {ss : List ByteArray} {n m : Nat} (h : Fst ss n) (k : Fst ss m) : n = m := by
  rcases Nat.lt_trichotomy n m with hlt | he | hgt
  · have := k.first n h.one hlt
    rw [h.free] at this; cases this
  · exact he
  · have := h.first m k.one hgt
    rw [k.free] at this; cases this
end Go.Proofs.YtnjakebgggcedaaDoor
namespace Go.Proofs.YtnjakebgggcedaaDoor
open Go.ChangeShapes Go.WideShapes Go.ChangeAt Go.RowKit Go.WideMaps Go.Maps
abbrev lds : List (String × DataW Unit) := [("consort/shape.expKinds", Rows.laid_consort_shape_expKinds), ("consort/shape.factKinds", Rows.laid_consort_shape_factKinds)]
/-- the two variables as the row lays them -/
def Laid (w : World) : Prop := ∀ x ∈ Xm.Kn.gs, ∃ c t fz, w.heap[x.1]? = some (.cells c t fz) ∧ c.toList = x.2.1
theorem Laid.below {W w : World} (h : Laid W) (hb : Below W.heap.size W w) : Laid w := fun x hx => by
  obtain ⟨c, t, fz, h1, h2⟩ := h x hx
  have hlt : x.1 < W.heap.size := (Array.getElem?_eq_some_iff.1 h1).1
  exact ⟨c, t, fz, (hb.block x.1 hlt).trans h1, h2⟩
theorem lay0 : (Xm.layC Tryd.prog 8 (((Tryd.prog.globals[0]?).map (·.type)).getD 0) Rows.laid_consort_shape_factKinds).isSome = true := by kernel_rfl
theorem lay1 : (Xm.layC Tryd.prog 8 (((Tryd.prog.globals[1]?).map (·.type)).getD 0) Rows.laid_consort_shape_expKinds).isSome = true := by kernel_rfl
set_option maxRecDepth 100000 in
theorem laid_of {W : World} (hL : laidMetH Tryd.prog lds W) : Laid W := by
  rw [MakeChecks.laidMetH_plain _ _ _ (by kernel_rfl)] at hL
  intro x hx
  have get : ∀ {o : Option (List Value)}, o.isSome = true → o = some (o.getD []) := fun {o} h => by cases o with | none => cases h | some l => rfl
  have ty : ∀ {o : Option TypeId}, o.isSome = true → o = some (o.getD 0) := fun {o} h => by cases o with | none => cases h | some l => rfl
  rcases List.mem_cons.1 hx with rfl | hx
  · obtain ⟨c, t, h1, h2⟩ := Xm.laid_heap (f := 8) hL (List.mem_cons_of_mem _ List.mem_cons_self : ("consort/shape.factKinds", Rows.laid_consort_shape_factKinds) ∈ lds) (g := 0) (by kernel_rfl) (ty (by kernel_rfl)) (get lay0) (Nat.le_of_ble_eq_true (by kernel_rfl))
    exact ⟨c, t, _, h1, h2⟩
  · rw [List.mem_singleton.1 hx]
    obtain ⟨c, t, h1, h2⟩ := Xm.laid_heap (f := 8) hL (List.mem_cons_self : ("consort/shape.expKinds", Rows.laid_consort_shape_expKinds) ∈ lds) (g := 1) (by kernel_rfl) (ty (by kernel_rfl)) (get lay1) (Nat.le_of_ble_eq_true (by kernel_rfl))
    exact ⟨c, t, _, h1, h2⟩
theorem gs_ok : Xm.Kn.gs.all (fun x => Nat.blt x.1 2 && x.2.1.all (Xm.closed 30)) = true := by kernel_rfl
theorem start_ok : (Xm.startS Tryd.prog 4 [] (Xm.gH Xm.Kn.gs) 2).isSome = true := by kernel_rfl
set_option maxRecDepth 100000 in
theorem known_any (w : World) (h : Laid w) : Calls Tryd.prog 4 #[] w fun e w' => e = .returned (.bool true) ∧ Below w.heap.size w w' := by
  have h0 : Xm.startS Tryd.prog 4 [] (Xm.gH Xm.Kn.gs) 2 = some Xm.Kn.K0 := by
    have := start_ok
    unfold Xm.Kn.K0
    generalize Xm.startS Tryd.prog 4 [] (Xm.gH Xm.Kn.gs) 2 = o at this
    cases o with | none => cases this | some S => rfl
  have hl := Xm.Kn.last_ok
  split at hl
  · rename_i S' hS
    have := ((Xm.runK_ok namesOk 40 _ _ Xm.Kn.K1_ok).one (Xm.runK_ok namesOk 40 _ _ Xm.Kn.K2_ok)).one ((Xm.runK_ok namesOk 40 _ _ Xm.Kn.K3_ok).one (Xm.runK_ok namesOk 40 _ _ hS))
    exact Xm.calls_pieces namesOk gs_ok h0 this hl h
  · cases hl
end Go.Proofs.YtnjakebgggcedaaDoor
namespace Go.Proofs.YtnjakebgggcedaaDoor
open Go.ChangeShapes Go.WideShapes Go.ChangeAt Go.RowKit Go.WideMaps Go.Maps
theorem rname_is (s : ByteArray) (w : World) (hs : (s.size : Int) ≤ 9223372036854775807) : Calls Tryd.prog 6 #[.string s] w fun e w' => e = .returned (.bool (nameB s)) ∧ Below w.heap.size w w' := rname_any s w hs
set_option maxRecDepth 100000
set_option maxHeartbeats 1000000 in
theorem law_walk (s : ByteArray) (b : Option Addr) (n cap : Nat) (ss : List ByteArray) (w : World) (hs : (s.size : Int) ≤ 9223372036854775807) (hn : ss.length = n) (hmax : (n : Int) ≤ 9223372036854775807) (h : SlR w (.slice b n cap) ss) (hsz : ∀ s ∈ ss, s.size ≤ maxLen) (hL : Laid w) :
    Calls Tryd.prog 3 #[.string s, .slice b n cap] w fun e w' => e = .returned (.bool true) ∧ Below w.heap.size w w' := by
  have H := Lib.hid h; clear h
  have HZ := Lib.hid hsz; clear hsz
  have HL := Lib.hid hL; clear hL
  have HN := Lib.hid hn; clear hn
  by_cases h200 : 200 < (n : Int)
  · go_enter Tryd.func3, Tryd.ntmps3
    go_wp2_with (go_at_call 4; refine (known_any _ HL.out).mono ?_; rintro e w1 ⟨rfl, hb1⟩; have HB := Lib.hid hb1; clear hb1)
    go_ret
    exact ⟨rfl, HB.out⟩
  · have hl : ss.length ≤ 200 := by rw [HN.out]; omega
    have HLL := Lib.hid hl; clear hl
    obtain ⟨n0, hf⟩ := fst_ex ss HLL.out
    have HF := Lib.hid hf; clear hf
    have HBw := Lib.hid (Below.refl w.heap.size w)
    go_enter Tryd.func3, Tryd.ntmps3
    go_wp2_with (first
      | (go_at_call 5; refine (name_any s _).mono ?_; rintro e w1 ⟨rfl, rfl⟩)
      | (go_at_call 6; refine (rname_is s _ hs).mono ?_; rintro e w1 ⟨rfl, hb1⟩; have HBw := Lib.hid (HBw.out.trans (hb1.mono HBw.out.size)); clear hb1)
      | (go_at_call 7; refine (fresh_any _ ss _ HLL.out (H.out.below HBw.out) HZ.out).mono ?_; rintro e w1 ⟨m, hm, rfl, hb1⟩; obtain rfl := hm.uniq HF.out; have HBw := Lib.hid (HBw.out.trans (hb1.mono HBw.out.size)); clear hb1 hm)
      | (go_at_call 8; refine (rfresh_any _ ss _ HLL.out (H.out.below HBw.out)).mono ?_; rintro e w1 ⟨m, hm, rfl, hb1⟩; obtain rfl := hm.uniq HF.out; have HBw := Lib.hid (HBw.out.trans (hb1.mono HBw.out.size)); clear hb1 hm)
      | (go_at_call 4; refine (known_any _ (HL.out.below HBw.out)).mono ?_; rintro e w1 ⟨rfl, hb1⟩; have HBw := Lib.hid (HBw.out.trans (hb1.mono HBw.out.size)); clear hb1))
    go_ret
    exact ⟨rfl, HBw.out⟩
end Go.Proofs.YtnjakebgggcedaaDoor
namespace Go.Proofs.YtnjakebgggcedaaDoor
open Go.ChangeShapes Go.WideShapes Go.ChangeAt Go.RowKit
theorem own : ownKnob Tryd.prog.godebug = none := by kernel_rfl
theorem laidOut : laidOutB Tryd.prog = true := by kernel_rfl
theorem cells9 : Tryd.prog.cellsOf 9 = 1 := by kernel_rfl
set_option maxRecDepth 100000 in
theorem law_any (W : World) (args : Array Value) {H : Type} {enc : TypeId × Value → H} {ds : List (DataW H)} {p : List MemPlace} (base : Nat)
    (hval : ∀ (j : Nat) t v, Tryd.f3.params[j]? = some t → args[j]? = some v → Value.okWide Tryd.prog W .any base t v)
    (hA : DataW.TrodAll enc Tryd.prog W 0 (fun _ => true) true Tryd.f3.params.toList args.toList ds p) (hL : laidMetH Tryd.prog lds W) :
    Calls Tryd.prog 3 args W fun e W' => e = .returned (.bool true) ∧ Below W.heap.size W W' := by
  have hp : Tryd.f3.params = #[9, 22] := by kernel_rfl
  rw [hp] at hval hA
  obtain ⟨v0, v1, d0, d1, p0, p1, rfl, rfl, rfl, h0, h1⟩ := trodAll_two hA
  obtain ⟨s, rfl, _, _, hs⟩ := Go.ChangeMaps.open_string Tryd.underlying9 (hval 0 9 v0 rfl rfl) h0
  obtain ⟨a0, len, cap, rfl⟩ := okWide_slice Tryd.underlying22 (hval 1 22 v1 rfl rfl)
  have hs' : (s.size : Int) ≤ 9223372036854775807 := by unfold maxLen at hs; omega
  obtain ⟨fuel, hf⟩ := h1
  rcases open_strings Tryd.underlying22 Tryd.underlying9 cells9 hf with ⟨hcs, _⟩ | ⟨a, len', cap', ss, hcs, _, hl, hm, hz, _, hcell, hws⟩
  · simp [Value.cells] at hcs
    obtain ⟨rfl, rfl, rfl⟩ := hcs
    exact law_walk s none 0 0 [] W hs' rfl (by omega) (.inl ⟨_, _, rfl, rfl⟩) (fun _ h => by cases h) (laid_of hL)
  · simp [Value.cells] at hcs
    obtain ⟨rfl, rfl, rfl⟩ := hcs
    simp only [if_true] at hz
    have hlen : (ss.take len).length = len := by rw [List.length_take]; omega
    have hmax : (len : Int) ≤ 9223372036854775807 := by unfold maxLen at hm; omega
    have hws' : ∀ x ∈ ss.take len, x.size ≤ maxLen := fun x hx => hws x (List.mem_of_mem_take hx)
    by_cases hl0 : len = 0
    · subst hl0
      exact law_walk s (some a) 0 cap [] W hs' rfl (by omega) (.inl ⟨_, _, rfl, rfl⟩) (fun _ h => by cases h) (laid_of hL)
    · obtain ⟨b, off, spot⟩ := a
      have hspot : spot = none := by simpa [Addr.add] using World.cell?_spot (hcell 0 (by omega))
      subst hspot
      refine law_walk s _ len cap (ss.take len) W hs' hlen hmax (.inr ⟨b, off, cap, by rw [hlen], fun i x hi => ?_⟩) hws' (laid_of hL)
      have hi' : i < len := by
        rcases Nat.lt_or_ge i len with h | h
        · exact h
        · rw [List.getElem?_eq_none (by rw [hlen]; exact h)] at hi; cases hi
      have hx : ss[i]? = some x := by rw [List.getElem?_take, if_pos hi'] at hi; exact hi
      have := hcell i (by omega)
      rw [add_plain] at this
      rw [this, List.getD, hx]; rfl
set_option maxRecDepth 100000 in
theorem lifted (os : Os) (started : os.Started) (H : Type) (enc : TypeId × Value → H) :
    ReturnsInHanded {} Tryd.checked os 3 .any (fun w args => (Rows.formNamesSpec.pre enc Tryd.prog Tryd.f3 [] false w args ∧ laidMetH Tryd.prog lds w) ∧ sizedMet enc Tryd.prog Tryd.f3 (OpenSpec.ofChange Rows.formNamesSpec) false w args)
      (Rows.formNamesSpec.post enc Tryd.prog Tryd.f3 false true false false) := by
  refine returnsInHanded_of_change_and (C := Tryd.checked) (X := fun w _ => laidMetH Tryd.prog lds w) (fun _ _ _ hh h => h.of_heap hh) own started (by kernel_rfl) Tryd.func3
    (ChangeSpec.witness_shaped (enc := enc) (C := Tryd.checked) (os := os) (X := fun w _ => laidMetH Tryd.prog lds w) false (World.laidAll Tryd.prog os lds) #[.string ⟨#[]⟩, .slice none 0 0] 8 (World.laidAll_os _ _ _)
      (World.shaped_of_ZipB (by kernel_rfl) (by kernel_rfl)) (by kernel_rfl) (by kernel_rfl) (by kernel_rfl)
      (by rw [MakeChecks.laidMetH_plain _ _ _ (by kernel_rfl)]; exact laidMet_laidAll _ (by kernel_rfl) (by kernel_rfl))) ?_
  intro W base args ds gs before hval0 hW hc _ hL _
  have hval : ∀ (j : Nat) t v, Tryd.f3.params[j]? = some t → args[j]? = some v → Value.okWide Tryd.prog W .any base t v := hval0
  have hW' := hW
  obtain ⟨p, q, hA0, hV, rfl, _, _⟩ := hW
  have hA : DataW.TrodAll enc Tryd.prog W 0 (fun _ => true) true Tryd.f3.params.toList args.toList ds p := hA0
  refine (law_any W args base hval hA hL).mono fun e W' ⟨he, hb⟩ => ?_
  subst he
  refine ⟨_, rfl, Xm.law_post (tb := 4) laidOut (by kernel_rfl) (by kernel_rfl) (by kernel_rfl) rfl (fun ds hd => ?_) hW' hb⟩
  have hd : ds.length = 2 := hd.trans (by kernel_rfl)
  match ds, hd with
  | [a, b], _ => exact ⟨rfl, rfl, rfl⟩
theorem holds : Rows.FormNamesSaid :=
  OpenClaim.holds_of_wide 3 Tryd.f3 rfl rfl rfl rfl rfl rfl rfl ⟨rfl, rfl, rfl, rfl, rfl⟩ rfl rfl rfl rfl rfl (by kernel_rfl) Tryd.func3 (by kernel_rfl)
    (of_decide_eq_true (by kernel_rfl)) (by unfold Func.isWrapper; first | (rw [if_pos (by decide +kernel)]; kernel_rfl) | (rw [if_neg (by decide +kernel)]; exact ⟨rfl, rfl⟩))
    (fun os started H enc _ => lifted os started H enc)
theorem card_holds : Rows.FormNamesCardSaid :=
  Claim7.holds_tied_plain_at .later [] [.data, .data] true (true, "936734740ca61bc8183bf599944fd3e7874d245416b3d236eb949018f4c6bdd2") true holds (fun _ h => by cases h) (by kernel_rfl) (fun _ h => by cases h) formNames_row_tie rfl ⟨rfl, rfl⟩ (by kernel_rfl) rfl
    (fun f fn hf hfn => by
      obtain rfl : f = 3 := Option.some.inj ((show Tryd.prog.funcNamed "consort/consortlaw01.FormNames" = some 3 by kernel_rfl).symm.trans hf) |>.symm
      obtain rfl : fn = Tryd.f3 := (Option.some.inj (Tryd.func3.symm.trans hfn)).symm
      exact ⟨by kernel_rfl, fun j t ht => by
        have hm : t ∈ Tryd.f3.params.toList := by simpa using Array.mem_of_getElem? ht
        have hall : (Tryd.f3.params.toList.all fun u => !Tryd.prog.wantsStandIn u) = true := by kernel_rfl
        exact (show Tryd.prog.wantsStandIn t = false by simpa using List.all_eq_true.1 hall t hm)⟩)
    (by kernel_rfl)
end Go.Proofs.YtnjakebgggcedaaDoor
