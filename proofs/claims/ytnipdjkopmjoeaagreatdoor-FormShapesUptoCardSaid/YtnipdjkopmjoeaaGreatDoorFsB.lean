/-
  The specification on expressions: what is formed, and the depth. No condition.
-/
import Derived.Test.YtnipdjkopmjoeaaGreatDoorFsA
namespace Go.Proofs.YtnipdjkopmjoeaaGreatDoor
open Go.ChangeShapes Go.WideShapes Go.ChangeAt Go.RowKit Go.Fs
theorem in_any (n : Int) (w : World) : Calls Tryz.prog 72 #[.int .i64 n] w fun e w' => e = .returned (.bool (numB n)) ∧ w = w' := by
  unfold numB
  go_enter Tryz.func72, Tryz.ntmps72
  go_wp2
  all_goals go_ret
  all_goals (refine ⟨?_, rfl⟩; first | (simp_all; done) | (congr 2; simp_all; omega) | trace_state)
def kNum (op : Int) : Bool := decide (op = 1)
def kText (op : Int) : Int := if op = 3 ∨ op = 9 then 1 else if op = 4 ∨ op = 7 then 2 else if op = 6 ∨ op = 8 then 3 else if op = 5 then 4 else 0
def kLo (op : Int) : Int := if op = 1 ∨ op = 2 ∨ op = 3 ∨ op = 6 ∨ op = 18 then 0 else if op = 4 ∨ op = 5 ∨ op = 8 ∨ op = 17 then 1 else if op = 10 then 3 else 2
def kHi (op : Int) : Int := if op = 1 ∨ op = 2 ∨ op = 3 ∨ op = 6 ∨ op = 18 then 0 else if op = 4 ∨ op = 8 ∨ op = 17 then 1 else if op = 10 ∨ op = 5 then 3 else 2
def shB (op n : Int) (x : ByteArray) (len : Int) : Bool := rowB op n x len (kNum op) (kText op) (kLo op) (kHi op)
theorem toL (s : ByteArray) : s.toList = s.data.toList := by obtain ⟨⟨l⟩⟩ := s; simp
theorem nameB_ne {x : ByteArray} (h : nameB x = true) : x.toList.isEmpty = false := by
  unfold nameB at h
  simp only [Bool.and_eq_true, decide_eq_true_eq] at h
  obtain ⟨⟨⟨h1, _⟩, _⟩, _⟩ := h
  rw [toL]
  obtain ⟨⟨l⟩⟩ := x
  cases l with
  | nil => simp [ByteArray.size] at h1
  | cons a l => rfl
theorem nameB_nil {x : ByteArray} (h : x.toList = []) : nameB x = false := by
  cases hn : nameB x with
  | false => rfl
  | true => have := nameB_ne hn; rw [h] at this; cases this
theorem numB_or (n : Int) : (decide (n = 0) || numB n) = numB n := by
  by_cases h : n = 0
  · subst h; rfl
  · simp [h]
theorem nameB_and (x : ByteArray) : (!x.toList.isEmpty && nameB x) = nameB x := by
  cases h : nameB x with
  | false => simp
  | true => simp [nameB_ne h]
theorem sh1 (n : Int) (x : ByteArray) (len : Nat) : shB 1 n x len = (numB n && x.toList.isEmpty && ((len : Int) == 0)) := by
  have h : shB 1 n x len = (decide ((0 : Int) ≤ len) && decide ((len : Int) ≤ 0) && (decide (n = 0) || numB n) && x.toList.isEmpty) := by
    simp [shB, rowB, kNum, kText, kLo, kHi, textB]
  rw [h, numB_or]
  by_cases h0 : (len : Int) = 0
  · rw [decide_eq_true (by omega), decide_eq_true (by omega), beq_iff_eq.2 h0]; simp
  · rw [decide_eq_false (p := (len : Int) ≤ 0) (by omega), beq_eq_false_iff_ne.2 h0]; simp
def ShP (b : Bool) (w : World) (e : Ending) (w' : World) : Prop := e = .returned (.bool b) ∧ Below w.heap.size w w'
set_option maxRecDepth 100000 in
set_option maxHeartbeats 2000000 in
theorem shaped_1 (n : Int) (x : ByteArray) (a : Option Addr) (len cap : Nat) (w : World) (_hs : (x.size : Int) ≤ 9223372036854775807) (_hl : (len : Int) ≤ 9223372036854775807) :
    Calls Tryz.prog 63 #[.agg #[.int .i64 1, .int .i64 n, .string x, .slice a len cap]] w (ShP (shB 1 n x len) w) := by
  obtain ⟨b, hb⟩ : ∃ b, shB 1 n x len = b := ⟨_, rfl⟩
  rw [hb]
  have HB := Lib.hid hb; clear hb
  have hz : 0 < w.heap.size + 1 := by omega
  go_enter Tryz.func63, Tryz.ntmps63
  go_wp2_with (first
    | (go_at_call 72; refine (in_any _ _).mono ?_; rintro e w' ⟨rfl, rfl⟩)
    | (go_at_call 70; refine (rname_any _ _ hs).mono ?_; rintro e w' ⟨rfl, hb1⟩; have HB1 := Lib.hid hb1; clear hb1))
  all_goals
    go_ret
    refine ⟨?_, by first | exact (((Below.refl _ _).alloc (Nat.le_refl _) _).trans (HB1.out.mono (by simp))) | exact (Below.refl _ _).alloc (Nat.le_refl _) _⟩
    rw [← HB.out, sh1]
    clear HB
    first
      | (simp_all; done)
      | (simp_all [shB, rowB, kNum, kText, kLo, kHi, textB, nameB_nil, numB_or, nameB_and]; omega)
      | trace_state
set_option maxRecDepth 100000 in
set_option maxHeartbeats 2000000 in
theorem shaped_2 (n : Int) (x : ByteArray) (a : Option Addr) (len cap : Nat) (w : World) (_hs : (x.size : Int) ≤ 9223372036854775807) (_hl : (len : Int) ≤ 9223372036854775807) :
    Calls Tryz.prog 63 #[.agg #[.int .i64 2, .int .i64 n, .string x, .slice a len cap]] w (ShP (shB 2 n x len) w) := by
  obtain ⟨b, hb⟩ : ∃ b, shB 2 n x len = b := ⟨_, rfl⟩
  rw [hb]
  have HB := Lib.hid hb; clear hb
  have hz : 0 < w.heap.size + 1 := by omega
  go_enter Tryz.func63, Tryz.ntmps63
  go_wp2_with (first
    | (go_at_call 72; refine (in_any _ _).mono ?_; rintro e w' ⟨rfl, rfl⟩)
    | (go_at_call 70; refine (rname_any _ _ hs).mono ?_; rintro e w' ⟨rfl, hb1⟩; have HB1 := Lib.hid hb1; clear hb1))
  all_goals
    go_ret
    refine ⟨?_, by first | exact (((Below.refl _ _).alloc (Nat.le_refl _) _).trans (HB1.out.mono (by simp))) | exact (Below.refl _ _).alloc (Nat.le_refl _) _⟩
    rw [← HB.out]
    clear HB
    first
      | (simp_all [shB, rowB, kNum, kText, kLo, kHi, textB]; done)
      | (simp_all [shB, rowB, kNum, kText, kLo, kHi, textB, nameB_nil, numB_or, nameB_and]; omega)
      | trace_state
set_option maxRecDepth 100000 in
set_option maxHeartbeats 2000000 in
theorem shaped_3 (n : Int) (x : ByteArray) (a : Option Addr) (len cap : Nat) (w : World) (hs : (x.size : Int) ≤ 9223372036854775807) (_hl : (len : Int) ≤ 9223372036854775807) :
    Calls Tryz.prog 63 #[.agg #[.int .i64 3, .int .i64 n, .string x, .slice a len cap]] w (ShP (shB 3 n x len) w) := by
  obtain ⟨b, hb⟩ : ∃ b, shB 3 n x len = b := ⟨_, rfl⟩
  rw [hb]
  have HB := Lib.hid hb; clear hb
  have hz : 0 < w.heap.size + 1 := by omega
  go_enter Tryz.func63, Tryz.ntmps63
  go_wp2_with (first
    | (go_at_call 72; refine (in_any _ _).mono ?_; rintro e w' ⟨rfl, rfl⟩)
    | (go_at_call 70; refine (rname_any _ _ hs).mono ?_; rintro e w' ⟨rfl, hb1⟩; have HB1 := Lib.hid hb1; clear hb1))
  all_goals
    go_ret
    refine ⟨?_, by first | exact (((Below.refl _ _).alloc (Nat.le_refl _) _).trans (HB1.out.mono (by simp))) | exact (Below.refl _ _).alloc (Nat.le_refl _) _⟩
    rw [← HB.out]
    clear HB
    first
      | (simp_all [shB, rowB, kNum, kText, kLo, kHi, textB, nameB_nil, nameB_and]; done)
      | (simp_all [shB, rowB, kNum, kText, kLo, kHi, textB, nameB_nil, numB_or, nameB_and]; omega)
      | trace_state
set_option maxRecDepth 100000 in
set_option maxHeartbeats 2000000 in
theorem shaped_4 (n : Int) (x : ByteArray) (a : Option Addr) (len cap : Nat) (w : World) (hs : (x.size : Int) ≤ 9223372036854775807) (hl : (len : Int) ≤ 9223372036854775807) :
    Calls Tryz.prog 63 #[.agg #[.int .i64 4, .int .i64 n, .string x, .slice a len cap]] w (ShP (shB 4 n x len) w) := by
  obtain ⟨b, hb⟩ : ∃ b, shB 4 n x len = b := ⟨_, rfl⟩
  rw [hb]
  have HB := Lib.hid hb; clear hb
  have hz : 0 < w.heap.size + 1 := by omega
  go_enter Tryz.func63, Tryz.ntmps63
  go_wp2_with (first
    | (go_at_call 72; refine (in_any _ _).mono ?_; rintro e w' ⟨rfl, rfl⟩)
    | (go_at_call 70; refine (rname_any _ _ hs).mono ?_; rintro e w' ⟨rfl, hb1⟩; have HB1 := Lib.hid hb1; clear hb1))
  all_goals
    go_ret
    refine ⟨?_, by first | exact (((Below.refl _ _).alloc (Nat.le_refl _) _).trans (HB1.out.mono (by simp))) | exact (Below.refl _ _).alloc (Nat.le_refl _) _⟩
    rw [← HB.out]
    clear HB
    first
      | (simp_all [shB, rowB, kNum, kText, kLo, kHi, textB, nameB_nil, nameB_and]; done)
      | (simp_all [shB, rowB, kNum, kText, kLo, kHi, textB]; omega)
      | trace_state
set_option maxRecDepth 100000 in
set_option maxHeartbeats 2000000 in
theorem shaped_5 (n : Int) (x : ByteArray) (a : Option Addr) (len cap : Nat) (w : World) (hs : (x.size : Int) ≤ 9223372036854775807) (hl : (len : Int) ≤ 9223372036854775807) :
    Calls Tryz.prog 63 #[.agg #[.int .i64 5, .int .i64 n, .string x, .slice a len cap]] w (ShP (shB 5 n x len) w) := by
  obtain ⟨b, hb⟩ : ∃ b, shB 5 n x len = b := ⟨_, rfl⟩
  rw [hb]
  have HB := Lib.hid hb; clear hb
  have hz : 0 < w.heap.size + 1 := by omega
  rcases (by omega : len = 0 ∨ len = 1 ∨ len = 2 ∨ len = 3 ∨ 3 < len) with rfl | rfl | rfl | rfl | h3
  all_goals
    go_enter Tryz.func63, Tryz.ntmps63
    go_wp2_with (first
      | (go_at_call 72; refine (in_any _ _).mono ?_; rintro e w' ⟨rfl, rfl⟩)
      | (go_at_call 70; refine (rname_any _ _ hs).mono ?_; rintro e w' ⟨rfl, hb1⟩; have HB1 := Lib.hid hb1; clear hb1))
    all_goals
      go_ret
      refine ⟨?_, by first | exact (((Below.refl _ _).alloc (Nat.le_refl _) _).trans (HB1.out.mono (by simp))) | exact (Below.refl _ _).alloc (Nat.le_refl _) _⟩
      rw [← HB.out]
      clear HB
      first
        | (simp_all [shB, rowB, kNum, kText, kLo, kHi, textB, nameB_nil, nameB_and]; done)
        | (simp_all [shB, rowB, kNum, kText, kLo, kHi, textB]; omega)
        | trace_state
set_option maxRecDepth 100000 in
set_option maxHeartbeats 2000000 in
theorem shaped_6 (n : Int) (x : ByteArray) (a : Option Addr) (len cap : Nat) (w : World) (hs : (x.size : Int) ≤ 9223372036854775807) (_hl : (len : Int) ≤ 9223372036854775807) :
    Calls Tryz.prog 63 #[.agg #[.int .i64 6, .int .i64 n, .string x, .slice a len cap]] w (ShP (shB 6 n x len) w) := by
  obtain ⟨b, hb⟩ : ∃ b, shB 6 n x len = b := ⟨_, rfl⟩
  rw [hb]
  have HB := Lib.hid hb; clear hb
  have hz : 0 < w.heap.size + 1 := by omega
  go_enter Tryz.func63, Tryz.ntmps63
  go_wp2_with (first
    | (go_at_call 72; refine (in_any _ _).mono ?_; rintro e w' ⟨rfl, rfl⟩)
    | (go_at_call 70; refine (rname_any _ _ hs).mono ?_; rintro e w' ⟨rfl, hb1⟩; have HB1 := Lib.hid hb1; clear hb1))
  all_goals
    go_ret
    refine ⟨?_, by first | exact (((Below.refl _ _).alloc (Nat.le_refl _) _).trans (HB1.out.mono (by simp))) | exact (Below.refl _ _).alloc (Nat.le_refl _) _⟩
    rw [← HB.out]
    clear HB
    first
      | (simp_all [shB, rowB, kNum, kText, kLo, kHi, textB, nameB_nil, nameB_and]; done)
      | (simp_all [shB, rowB, kNum, kText, kLo, kHi, textB, nameB_nil, numB_or, nameB_and]; omega)
      | trace_state
set_option maxRecDepth 100000 in
set_option maxHeartbeats 2000000 in
theorem shaped_7 (n : Int) (x : ByteArray) (a : Option Addr) (len cap : Nat) (w : World) (hs : (x.size : Int) ≤ 9223372036854775807) (hl : (len : Int) ≤ 9223372036854775807) :
    Calls Tryz.prog 63 #[.agg #[.int .i64 7, .int .i64 n, .string x, .slice a len cap]] w (ShP (shB 7 n x len) w) := by
  obtain ⟨b, hb⟩ : ∃ b, shB 7 n x len = b := ⟨_, rfl⟩
  rw [hb]
  have HB := Lib.hid hb; clear hb
  have hz : 0 < w.heap.size + 1 := by omega
  go_enter Tryz.func63, Tryz.ntmps63
  go_wp2_with (first
    | (go_at_call 72; refine (in_any _ _).mono ?_; rintro e w' ⟨rfl, rfl⟩)
    | (go_at_call 70; refine (rname_any _ _ hs).mono ?_; rintro e w' ⟨rfl, hb1⟩; have HB1 := Lib.hid hb1; clear hb1))
  all_goals
    go_ret
    refine ⟨?_, by first | exact (((Below.refl _ _).alloc (Nat.le_refl _) _).trans (HB1.out.mono (by simp))) | exact (Below.refl _ _).alloc (Nat.le_refl _) _⟩
    rw [← HB.out]
    clear HB
    first
      | (simp_all [shB, rowB, kNum, kText, kLo, kHi, textB, nameB_nil, nameB_and]; done)
      | (simp_all [shB, rowB, kNum, kText, kLo, kHi, textB]; omega)
      | trace_state
set_option maxRecDepth 100000 in
set_option maxHeartbeats 2000000 in
theorem shaped_8 (n : Int) (x : ByteArray) (a : Option Addr) (len cap : Nat) (w : World) (hs : (x.size : Int) ≤ 9223372036854775807) (hl : (len : Int) ≤ 9223372036854775807) :
    Calls Tryz.prog 63 #[.agg #[.int .i64 8, .int .i64 n, .string x, .slice a len cap]] w (ShP (shB 8 n x len) w) := by
  obtain ⟨b, hb⟩ : ∃ b, shB 8 n x len = b := ⟨_, rfl⟩
  rw [hb]
  have HB := Lib.hid hb; clear hb
  have hz : 0 < w.heap.size + 1 := by omega
  go_enter Tryz.func63, Tryz.ntmps63
  go_wp2_with (first
    | (go_at_call 72; refine (in_any _ _).mono ?_; rintro e w' ⟨rfl, rfl⟩)
    | (go_at_call 70; refine (rname_any _ _ hs).mono ?_; rintro e w' ⟨rfl, hb1⟩; have HB1 := Lib.hid hb1; clear hb1))
  all_goals
    go_ret
    refine ⟨?_, by first | exact (((Below.refl _ _).alloc (Nat.le_refl _) _).trans (HB1.out.mono (by simp))) | exact (Below.refl _ _).alloc (Nat.le_refl _) _⟩
    rw [← HB.out]
    clear HB
    first
      | (simp_all [shB, rowB, kNum, kText, kLo, kHi, textB, nameB_nil, nameB_and]; done)
      | (simp_all [shB, rowB, kNum, kText, kLo, kHi, textB]; omega)
      | trace_state
set_option maxRecDepth 100000 in
set_option maxHeartbeats 2000000 in
theorem shaped_9 (n : Int) (x : ByteArray) (a : Option Addr) (len cap : Nat) (w : World) (hs : (x.size : Int) ≤ 9223372036854775807) (hl : (len : Int) ≤ 9223372036854775807) :
    Calls Tryz.prog 63 #[.agg #[.int .i64 9, .int .i64 n, .string x, .slice a len cap]] w (ShP (shB 9 n x len) w) := by
  obtain ⟨b, hb⟩ : ∃ b, shB 9 n x len = b := ⟨_, rfl⟩
  rw [hb]
  have HB := Lib.hid hb; clear hb
  have hz : 0 < w.heap.size + 1 := by omega
  go_enter Tryz.func63, Tryz.ntmps63
  go_wp2_with (first
    | (go_at_call 72; refine (in_any _ _).mono ?_; rintro e w' ⟨rfl, rfl⟩)
    | (go_at_call 70; refine (rname_any _ _ hs).mono ?_; rintro e w' ⟨rfl, hb1⟩; have HB1 := Lib.hid hb1; clear hb1))
  all_goals
    go_ret
    refine ⟨?_, by first | exact (((Below.refl _ _).alloc (Nat.le_refl _) _).trans (HB1.out.mono (by simp))) | exact (Below.refl _ _).alloc (Nat.le_refl _) _⟩
    rw [← HB.out]
    clear HB
    first
      | (simp_all [shB, rowB, kNum, kText, kLo, kHi, textB, nameB_nil, nameB_and]; done)
      | (simp_all [shB, rowB, kNum, kText, kLo, kHi, textB]; omega)
      | trace_state
set_option maxRecDepth 100000 in
set_option maxHeartbeats 2000000 in
theorem shaped_10 (n : Int) (x : ByteArray) (a : Option Addr) (len cap : Nat) (w : World) (_hs : (x.size : Int) ≤ 9223372036854775807) (hl : (len : Int) ≤ 9223372036854775807) :
    Calls Tryz.prog 63 #[.agg #[.int .i64 10, .int .i64 n, .string x, .slice a len cap]] w (ShP (shB 10 n x len) w) := by
  obtain ⟨b, hb⟩ : ∃ b, shB 10 n x len = b := ⟨_, rfl⟩
  rw [hb]
  have HB := Lib.hid hb; clear hb
  have hz : 0 < w.heap.size + 1 := by omega
  go_enter Tryz.func63, Tryz.ntmps63
  go_wp2_with (first
    | (go_at_call 72; refine (in_any _ _).mono ?_; rintro e w' ⟨rfl, rfl⟩)
    | (go_at_call 70; refine (rname_any _ _ hs).mono ?_; rintro e w' ⟨rfl, hb1⟩; have HB1 := Lib.hid hb1; clear hb1))
  all_goals
    go_ret
    refine ⟨?_, by first | exact (((Below.refl _ _).alloc (Nat.le_refl _) _).trans (HB1.out.mono (by simp))) | exact (Below.refl _ _).alloc (Nat.le_refl _) _⟩
    rw [← HB.out]
    clear HB
    first
      | (simp_all [shB, rowB, kNum, kText, kLo, kHi, textB]; done)
      | (simp_all [shB, rowB, kNum, kText, kLo, kHi, textB]; omega)
      | trace_state
set_option maxRecDepth 100000 in
set_option maxHeartbeats 2000000 in
theorem shaped_11 (n : Int) (x : ByteArray) (a : Option Addr) (len cap : Nat) (w : World) (_hs : (x.size : Int) ≤ 9223372036854775807) (hl : (len : Int) ≤ 9223372036854775807) :
    Calls Tryz.prog 63 #[.agg #[.int .i64 11, .int .i64 n, .string x, .slice a len cap]] w (ShP (shB 11 n x len) w) := by
  obtain ⟨b, hb⟩ : ∃ b, shB 11 n x len = b := ⟨_, rfl⟩
  rw [hb]
  have HB := Lib.hid hb; clear hb
  have hz : 0 < w.heap.size + 1 := by omega
  go_enter Tryz.func63, Tryz.ntmps63
  go_wp2_with (first
    | (go_at_call 72; refine (in_any _ _).mono ?_; rintro e w' ⟨rfl, rfl⟩)
    | (go_at_call 70; refine (rname_any _ _ hs).mono ?_; rintro e w' ⟨rfl, hb1⟩; have HB1 := Lib.hid hb1; clear hb1))
  all_goals
    go_ret
    refine ⟨?_, by first | exact (((Below.refl _ _).alloc (Nat.le_refl _) _).trans (HB1.out.mono (by simp))) | exact (Below.refl _ _).alloc (Nat.le_refl _) _⟩
    rw [← HB.out]
    clear HB
    first
      | (simp_all [shB, rowB, kNum, kText, kLo, kHi, textB]; done)
      | (simp_all [shB, rowB, kNum, kText, kLo, kHi, textB]; omega)
      | trace_state
set_option maxRecDepth 100000 in
set_option maxHeartbeats 2000000 in
theorem shaped_12 (n : Int) (x : ByteArray) (a : Option Addr) (len cap : Nat) (w : World) (_hs : (x.size : Int) ≤ 9223372036854775807) (hl : (len : Int) ≤ 9223372036854775807) :
    Calls Tryz.prog 63 #[.agg #[.int .i64 12, .int .i64 n, .string x, .slice a len cap]] w (ShP (shB 12 n x len) w) := by
  obtain ⟨b, hb⟩ : ∃ b, shB 12 n x len = b := ⟨_, rfl⟩
  rw [hb]
  have HB := Lib.hid hb; clear hb
  have hz : 0 < w.heap.size + 1 := by omega
  go_enter Tryz.func63, Tryz.ntmps63
  go_wp2_with (first
    | (go_at_call 72; refine (in_any _ _).mono ?_; rintro e w' ⟨rfl, rfl⟩)
    | (go_at_call 70; refine (rname_any _ _ hs).mono ?_; rintro e w' ⟨rfl, hb1⟩; have HB1 := Lib.hid hb1; clear hb1))
  all_goals
    go_ret
    refine ⟨?_, by first | exact (((Below.refl _ _).alloc (Nat.le_refl _) _).trans (HB1.out.mono (by simp))) | exact (Below.refl _ _).alloc (Nat.le_refl _) _⟩
    rw [← HB.out]
    clear HB
    first
      | (simp_all [shB, rowB, kNum, kText, kLo, kHi, textB]; done)
      | (simp_all [shB, rowB, kNum, kText, kLo, kHi, textB]; omega)
      | trace_state
set_option maxRecDepth 100000 in
set_option maxHeartbeats 2000000 in
theorem shaped_13 (n : Int) (x : ByteArray) (a : Option Addr) (len cap : Nat) (w : World) (_hs : (x.size : Int) ≤ 9223372036854775807) (hl : (len : Int) ≤ 9223372036854775807) :
    Calls Tryz.prog 63 #[.agg #[.int .i64 13, .int .i64 n, .string x, .slice a len cap]] w (ShP (shB 13 n x len) w) := by
  obtain ⟨b, hb⟩ : ∃ b, shB 13 n x len = b := ⟨_, rfl⟩
  rw [hb]
  have HB := Lib.hid hb; clear hb
  have hz : 0 < w.heap.size + 1 := by omega
  go_enter Tryz.func63, Tryz.ntmps63
  go_wp2_with (first
    | (go_at_call 72; refine (in_any _ _).mono ?_; rintro e w' ⟨rfl, rfl⟩)
    | (go_at_call 70; refine (rname_any _ _ hs).mono ?_; rintro e w' ⟨rfl, hb1⟩; have HB1 := Lib.hid hb1; clear hb1))
  all_goals
    go_ret
    refine ⟨?_, by first | exact (((Below.refl _ _).alloc (Nat.le_refl _) _).trans (HB1.out.mono (by simp))) | exact (Below.refl _ _).alloc (Nat.le_refl _) _⟩
    rw [← HB.out]
    clear HB
    first
      | (simp_all [shB, rowB, kNum, kText, kLo, kHi, textB]; done)
      | (simp_all [shB, rowB, kNum, kText, kLo, kHi, textB]; omega)
      | trace_state
set_option maxRecDepth 100000 in
set_option maxHeartbeats 2000000 in
theorem shaped_14 (n : Int) (x : ByteArray) (a : Option Addr) (len cap : Nat) (w : World) (_hs : (x.size : Int) ≤ 9223372036854775807) (hl : (len : Int) ≤ 9223372036854775807) :
    Calls Tryz.prog 63 #[.agg #[.int .i64 14, .int .i64 n, .string x, .slice a len cap]] w (ShP (shB 14 n x len) w) := by
  obtain ⟨b, hb⟩ : ∃ b, shB 14 n x len = b := ⟨_, rfl⟩
  rw [hb]
  have HB := Lib.hid hb; clear hb
  have hz : 0 < w.heap.size + 1 := by omega
  go_enter Tryz.func63, Tryz.ntmps63
  go_wp2_with (first
    | (go_at_call 72; refine (in_any _ _).mono ?_; rintro e w' ⟨rfl, rfl⟩)
    | (go_at_call 70; refine (rname_any _ _ hs).mono ?_; rintro e w' ⟨rfl, hb1⟩; have HB1 := Lib.hid hb1; clear hb1))
  all_goals
    go_ret
    refine ⟨?_, by first | exact (((Below.refl _ _).alloc (Nat.le_refl _) _).trans (HB1.out.mono (by simp))) | exact (Below.refl _ _).alloc (Nat.le_refl _) _⟩
    rw [← HB.out]
    clear HB
    first
      | (simp_all [shB, rowB, kNum, kText, kLo, kHi, textB]; done)
      | (simp_all [shB, rowB, kNum, kText, kLo, kHi, textB]; omega)
      | trace_state
set_option maxRecDepth 100000 in
set_option maxHeartbeats 2000000 in
theorem shaped_15 (n : Int) (x : ByteArray) (a : Option Addr) (len cap : Nat) (w : World) (_hs : (x.size : Int) ≤ 9223372036854775807) (hl : (len : Int) ≤ 9223372036854775807) :
    Calls Tryz.prog 63 #[.agg #[.int .i64 15, .int .i64 n, .string x, .slice a len cap]] w (ShP (shB 15 n x len) w) := by
  obtain ⟨b, hb⟩ : ∃ b, shB 15 n x len = b := ⟨_, rfl⟩
  rw [hb]
  have HB := Lib.hid hb; clear hb
  have hz : 0 < w.heap.size + 1 := by omega
  go_enter Tryz.func63, Tryz.ntmps63
  go_wp2_with (first
    | (go_at_call 72; refine (in_any _ _).mono ?_; rintro e w' ⟨rfl, rfl⟩)
    | (go_at_call 70; refine (rname_any _ _ hs).mono ?_; rintro e w' ⟨rfl, hb1⟩; have HB1 := Lib.hid hb1; clear hb1))
  all_goals
    go_ret
    refine ⟨?_, by first | exact (((Below.refl _ _).alloc (Nat.le_refl _) _).trans (HB1.out.mono (by simp))) | exact (Below.refl _ _).alloc (Nat.le_refl _) _⟩
    rw [← HB.out]
    clear HB
    first
      | (simp_all [shB, rowB, kNum, kText, kLo, kHi, textB]; done)
      | (simp_all [shB, rowB, kNum, kText, kLo, kHi, textB]; omega)
      | trace_state
set_option maxRecDepth 100000 in
set_option maxHeartbeats 2000000 in
theorem shaped_16 (n : Int) (x : ByteArray) (a : Option Addr) (len cap : Nat) (w : World) (_hs : (x.size : Int) ≤ 9223372036854775807) (hl : (len : Int) ≤ 9223372036854775807) :
    Calls Tryz.prog 63 #[.agg #[.int .i64 16, .int .i64 n, .string x, .slice a len cap]] w (ShP (shB 16 n x len) w) := by
  obtain ⟨b, hb⟩ : ∃ b, shB 16 n x len = b := ⟨_, rfl⟩
  rw [hb]
  have HB := Lib.hid hb; clear hb
  have hz : 0 < w.heap.size + 1 := by omega
  go_enter Tryz.func63, Tryz.ntmps63
  go_wp2_with (first
    | (go_at_call 72; refine (in_any _ _).mono ?_; rintro e w' ⟨rfl, rfl⟩)
    | (go_at_call 70; refine (rname_any _ _ hs).mono ?_; rintro e w' ⟨rfl, hb1⟩; have HB1 := Lib.hid hb1; clear hb1))
  all_goals
    go_ret
    refine ⟨?_, by first | exact (((Below.refl _ _).alloc (Nat.le_refl _) _).trans (HB1.out.mono (by simp))) | exact (Below.refl _ _).alloc (Nat.le_refl _) _⟩
    rw [← HB.out]
    clear HB
    first
      | (simp_all [shB, rowB, kNum, kText, kLo, kHi, textB]; done)
      | (simp_all [shB, rowB, kNum, kText, kLo, kHi, textB]; omega)
      | trace_state
set_option maxRecDepth 100000 in
set_option maxHeartbeats 2000000 in
theorem shaped_17 (n : Int) (x : ByteArray) (a : Option Addr) (len cap : Nat) (w : World) (_hs : (x.size : Int) ≤ 9223372036854775807) (hl : (len : Int) ≤ 9223372036854775807) :
    Calls Tryz.prog 63 #[.agg #[.int .i64 17, .int .i64 n, .string x, .slice a len cap]] w (ShP (shB 17 n x len) w) := by
  obtain ⟨b, hb⟩ : ∃ b, shB 17 n x len = b := ⟨_, rfl⟩
  rw [hb]
  have HB := Lib.hid hb; clear hb
  have hz : 0 < w.heap.size + 1 := by omega
  go_enter Tryz.func63, Tryz.ntmps63
  go_wp2_with (first
    | (go_at_call 72; refine (in_any _ _).mono ?_; rintro e w' ⟨rfl, rfl⟩)
    | (go_at_call 70; refine (rname_any _ _ hs).mono ?_; rintro e w' ⟨rfl, hb1⟩; have HB1 := Lib.hid hb1; clear hb1))
  all_goals
    go_ret
    refine ⟨?_, by first | exact (((Below.refl _ _).alloc (Nat.le_refl _) _).trans (HB1.out.mono (by simp))) | exact (Below.refl _ _).alloc (Nat.le_refl _) _⟩
    rw [← HB.out]
    clear HB
    first
      | (simp_all [shB, rowB, kNum, kText, kLo, kHi, textB]; done)
      | (simp_all [shB, rowB, kNum, kText, kLo, kHi, textB]; omega)
      | trace_state
set_option maxRecDepth 100000 in
set_option maxHeartbeats 2000000 in
theorem shaped_18 (n : Int) (x : ByteArray) (a : Option Addr) (len cap : Nat) (w : World) (_hs : (x.size : Int) ≤ 9223372036854775807) (_hl : (len : Int) ≤ 9223372036854775807) :
    Calls Tryz.prog 63 #[.agg #[.int .i64 18, .int .i64 n, .string x, .slice a len cap]] w (ShP (shB 18 n x len) w) := by
  obtain ⟨b, hb⟩ : ∃ b, shB 18 n x len = b := ⟨_, rfl⟩
  rw [hb]
  have HB := Lib.hid hb; clear hb
  have hz : 0 < w.heap.size + 1 := by omega
  go_enter Tryz.func63, Tryz.ntmps63
  go_wp2_with (first
    | (go_at_call 72; refine (in_any _ _).mono ?_; rintro e w' ⟨rfl, rfl⟩)
    | (go_at_call 70; refine (rname_any _ _ hs).mono ?_; rintro e w' ⟨rfl, hb1⟩; have HB1 := Lib.hid hb1; clear hb1))
  all_goals
    go_ret
    refine ⟨?_, by first | exact (((Below.refl _ _).alloc (Nat.le_refl _) _).trans (HB1.out.mono (by simp))) | exact (Below.refl _ _).alloc (Nat.le_refl _) _⟩
    rw [← HB.out]
    clear HB
    first
      | (simp_all [shB, rowB, kNum, kText, kLo, kHi, textB]; done)
      | (simp_all [shB, rowB, kNum, kText, kLo, kHi, textB, nameB_nil, numB_or, nameB_and]; omega)
      | trace_state
set_option maxRecDepth 100000 in
set_option maxHeartbeats 2000000 in
theorem shaped_out (op n : Int) (x : ByteArray) (a : Option Addr) (len cap : Nat) (w : World) (ho : op < 1 ∨ 18 < op) :
    Calls Tryz.prog 63 #[.agg #[.int .i64 op, .int .i64 n, .string x, .slice a len cap]] w (ShP (shB op n x len) w) := by
  have e : shB op n x len = false := by
    unfold shB rowB
    rcases ho with h | h
    · rw [decide_eq_false (by omega)]; rfl
    · rw [decide_eq_false (p := op ≤ 18) (by omega)]; simp
  rw [e]; clear e
  have q1 : (op == 1) = false := by rw [beq_eq_false_iff_ne]; omega
  have q2 : (op == 2) = false := by rw [beq_eq_false_iff_ne]; omega
  have q3 : (op == 3) = false := by rw [beq_eq_false_iff_ne]; omega
  have q4 : (op == 4) = false := by rw [beq_eq_false_iff_ne]; omega
  have q5 : (op == 5) = false := by rw [beq_eq_false_iff_ne]; omega
  have q6 : (op == 6) = false := by rw [beq_eq_false_iff_ne]; omega
  have q7 : (op == 7) = false := by rw [beq_eq_false_iff_ne]; omega
  have q8 : (op == 8) = false := by rw [beq_eq_false_iff_ne]; omega
  have q9 : (op == 9) = false := by rw [beq_eq_false_iff_ne]; omega
  have q10 : (op == 10) = false := by rw [beq_eq_false_iff_ne]; omega
  have q11 : (op == 11) = false := by rw [beq_eq_false_iff_ne]; omega
  have q12 : (op == 12) = false := by rw [beq_eq_false_iff_ne]; omega
  have q13 : (op == 13) = false := by rw [beq_eq_false_iff_ne]; omega
  have q14 : (op == 14) = false := by rw [beq_eq_false_iff_ne]; omega
  have q15 : (op == 15) = false := by rw [beq_eq_false_iff_ne]; omega
  have q16 : (op == 16) = false := by rw [beq_eq_false_iff_ne]; omega
  have q17 : (op == 17) = false := by rw [beq_eq_false_iff_ne]; omega
  have q18 : (op == 18) = false := by rw [beq_eq_false_iff_ne]; omega
  clear ho
  go_enter Tryz.func63, Tryz.ntmps63
  go_wp2
  go_ret
  exact ⟨rfl, (Below.refl _ _).alloc (Nat.le_refl _) _⟩
theorem shaped_any (op n : Int) (x : ByteArray) (a : Option Addr) (len cap : Nat) (w : World) (hs : (x.size : Int) ≤ 9223372036854775807) (hl : (len : Int) ≤ 9223372036854775807) :
    Calls Tryz.prog 63 #[.agg #[.int .i64 op, .int .i64 n, .string x, .slice a len cap]] w (ShP (shB op n x len) w) := by
  by_cases ho : op < 1 ∨ 18 < op
  · exact shaped_out op n x a len cap w ho
  · have : op = 1 ∨ op = 2 ∨ op = 3 ∨ op = 4 ∨ op = 5 ∨ op = 6 ∨ op = 7 ∨ op = 8 ∨ op = 9 ∨ op = 10 ∨ op = 11 ∨ op = 12 ∨ op = 13 ∨ op = 14 ∨ op = 15 ∨ op = 16 ∨ op = 17 ∨ op = 18 := by omega
    rcases this with rfl | rfl | rfl | rfl | rfl | rfl | rfl | rfl | rfl | rfl | rfl | rfl | rfl | rfl | rfl | rfl | rfl | rfl
    · exact shaped_1 n x a len cap w hs hl
    · exact shaped_2 n x a len cap w hs hl
    · exact shaped_3 n x a len cap w hs hl
    · exact shaped_4 n x a len cap w hs hl
    · exact shaped_5 n x a len cap w hs hl
    · exact shaped_6 n x a len cap w hs hl
    · exact shaped_7 n x a len cap w hs hl
    · exact shaped_8 n x a len cap w hs hl
    · exact shaped_9 n x a len cap w hs hl
    · exact shaped_10 n x a len cap w hs hl
    · exact shaped_11 n x a len cap w hs hl
    · exact shaped_12 n x a len cap w hs hl
    · exact shaped_13 n x a len cap w hs hl
    · exact shaped_14 n x a len cap w hs hl
    · exact shaped_15 n x a len cap w hs hl
    · exact shaped_16 n x a len cap w hs hl
    · exact shaped_17 n x a len cap w hs hl
    · exact shaped_18 n x a len cap w hs hl
end Go.Proofs.YtnipdjkopmjoeaaGreatDoor
namespace Go.Proofs.YtnipdjkopmjoeaaGreatDoor
open Go.ChangeShapes Go.WideShapes Go.ChangeAt Go.RowKit Go.Fs
abbrev shF (op n : Int) (x : ByteArray) (len : Nat) : Bool := shB op n x len
/-- what count comes to: whether all is shaped and not too deep and there are enough left; how many are left then -/
def CntP (L : Nat) (b : Bool) (left : Int) (w : World) (e : Ending) (w' : World) : Prop :=
  e = .returned (.bool b) ∧ Upd [L] w w' ∧ (b = true → w'.heap[L]? = some (.cells #[.int .i64 left] 3 (0, 0)))
abbrev cells4 (op n : Int) (x : ByteArray) (a : Option Addr) (len cap : Nat) : Array Value := #[.int .i64 op, .int .i64 n, .string x, .slice a len cap]
theorem updL (L : Nat) (w : World) (v : Value) (o : Obj) : Upd [L] w ((w.setCell ⟨L, 0, none⟩ v).alloc o) := ((Upd.refl _ _).setCell (fun _ => by simp) _).alloc _
set_option maxRecDepth 100000 in
set_option maxHeartbeats 2000000 in
theorem count_no (L : Nat) (op n d left : Int) (x : ByteArray) (a : Option Addr) (len cap : Nat) (w : World) (hL : w.heap[L]? = some (.cells #[.int .i64 left] 3 (0, 0))) (h0 : 0 ≤ left) (h120 : left ≤ 120)
    (hs : (x.size : Int) ≤ 9223372036854775807) (hl : (len : Int) ≤ 9223372036854775807) (hno : left < 1 ∨ 12 < d ∨ shF op n x len = false) :
    Calls Tryz.prog 37 #[.agg #[.int .i64 op, .int .i64 n, .string x, .slice a len cap], .int .i64 d, .pointer (some ⟨L, 0, none⟩)] w (CntP L false 0 w) := by
  have hLz := lt_of_block hL
  have hc := cell_of_one hL
  have hf := free_of_one hL
  clear hL
  by_cases k1 : left < 1
  · have k1' : left - 1 < 0 := by omega
    clear hno
    go_enter Tryz.func37, Tryz.ntmps37
    go_wp2_with fail
    go_ret
    exact ⟨rfl, updL _ _ _ _, fun h => by cases h⟩
  · have k1' : ¬ left - 1 < 0 := by omega
    by_cases k2 : 12 < d
    · clear hno
      go_enter Tryz.func37, Tryz.ntmps37
      go_wp2_with fail
      go_ret
      exact ⟨rfl, updL _ _ _ _, fun h => by cases h⟩
    · have k3 : shF op n x len = false := by rcases hno with h | h | h <;> first | exact h | omega
      have K3 := Lib.hid k3
      clear hno k3
      go_enter Tryz.func37, Tryz.ntmps37
      go_wp2_with (go_at_call 63; refine (shaped_any _ _ _ _ _ _ _ hs hl).mono ?_; rintro e w1 ⟨rfl, hb1⟩; rw [show shB op n x len = false from K3.out]; have HB1 := Lib.hid hb1; clear hb1)
      go_ret
      exact ⟨rfl, (updL _ _ _ _).trans (Upd.ofBelow _ HB1.out), fun h => by cases h⟩
end Go.Proofs.YtnipdjkopmjoeaaGreatDoor
namespace Go.Proofs.YtnipdjkopmjoeaaGreatDoor
open Go.ChangeShapes Go.WideShapes Go.ChangeAt Go.RowKit Go.Fs
def shE (op n : Int) (x : ByteArray) (len : Nat) : Bool := shB op n x len
/-- what a round of count has -/
def CntRel (L : Nat) (ks : List ET) (d left : Int) (w : World) (a : Option Addr) (cap : Nat) (i : Value) (wr : World) : Prop :=
  ∃ k : Nat, k ≤ ks.length ∧ i = .int .i64 k ∧ okL shE (d + 1) (ks.take k) = true ∧ 1 + (sizeL (ks.take k) : Int) ≤ left ∧
    wr.heap[L]? = some (.cells #[.int .i64 (left - 1 - sizeL (ks.take k))] 3 (0, 0)) ∧ Upd [L] w wr ∧ wr.cell? ⟨w.heap.size, 3, none⟩ = some (.slice a ks.length cap) ∧ w.heap.size < wr.heap.size
def cntB (e : ET) (d left : Int) : Bool := okE shE d e && decide ((sizeE e : Int) ≤ left)
theorem cnt_no {op n : Int} {t : ByteArray} {ks : List ET} {d left : Int} (h : left < 1 ∨ 12 < d ∨ shF op n t ks.length = false) : cntB (.mk op n t ks) d left = false := by
  unfold cntB
  rcases h with h | h | h
  · have : ¬ (sizeE (.mk op n t ks) : Int) ≤ left := by simp [sizeE]; omega
    rw [decide_eq_false this]; simp
  · have : okE shE d (.mk op n t ks) = false := by simp [okE]; omega
    rw [this]; rfl
  · have : okE shE d (.mk op n t ks) = false := by simp only [okE]; rw [show shE op n t ks.length = false from h]; simp
    rw [this]; rfl
theorem cnt_stop {op n : Int} {t : ByteArray} {ks : List ET} {d left : Int} {k : Nat} {x : ET} (hx : ks[k]? = some x) (h : cntB x (d + 1) (left - 1 - sizeL (ks.take k)) = false) : cntB (.mk op n t ks) d left = false := by
  unfold cntB at h ⊢
  rcases Bool.and_eq_false_iff.1 h with h | h
  · have := okL_stop shE (d + 1) ks k x hx h
    simp [okE, this]
  · have h := of_decide_eq_false h
    have := sizeL_stop ks k x hx
    have : ¬ (sizeE (.mk op n t ks) : Int) ≤ left := by simp [sizeE]; omega
    rw [decide_eq_false this]; simp
theorem cnt_all {op n : Int} {t : ByteArray} {ks : List ET} {d left : Int} (h1 : d ≤ 12) (h2 : shF op n t ks.length = true) (h3 : okL shE (d + 1) ks = true) (h4 : 1 + (sizeL ks : Int) ≤ left) : cntB (.mk op n t ks) d left = true := by
  unfold cntB
  have : (sizeE (.mk op n t ks) : Int) ≤ left := by simp [sizeE]; omega
  rw [decide_eq_true this]
  simp only [okE]
  rw [show shE op n t ks.length = true from h2, decide_eq_true h1, h3]; rfl
theorem left_next (ks : List ET) (k : Nat) (x : ET) (left : Int) (h : ks[k]? = some x) : left - 1 - (sizeL (ks.take (k + 1)) : Int) = left - 1 - (sizeL (ks.take k) : Int) - (sizeE x : Int) := by
  rw [sizeL_take ks k x h]; omega
def CntC (e : ET) (cs : List Value) (W : World) : Prop := ∀ (d left : Int) (L : Nat) (w : World), Below W.heap.size W w → W.heap.size ≤ L → w.heap[L]? = some (.cells #[.int .i64 left] 3 (0, 0)) → 0 ≤ left → left ≤ 120 → 1 ≤ d → d ≤ 13 →
    Calls Tryz.prog 37 #[.agg cs.toArray, .int .i64 d, .pointer (some ⟨L, 0, none⟩)] w (CntP L (cntB e d left) (left - sizeE e) w)
def Kid (W : World) (a : Option Addr) (C : ET → List Value → World → Prop) (k : Nat) (x : ET) : Prop :=
  ∃ b off cs, a = some ⟨b, off, none⟩ ∧ b < W.heap.size ∧ At W b (off + k * 4) cs ∧ ExpR W x cs ∧ C x cs W
set_option maxRecDepth 100000 in
set_option maxHeartbeats 4000000 in
theorem count_step (W : World) (op n : Int) (t : ByteArray) (ks : List ET) (a : Option Addr) (cap : Nat) (h3' : (t.size : Int) ≤ 9223372036854775807) (h4' : (ks.length : Int) ≤ 9223372036854775807)
    (hk : ∀ k x, ks[k]? = some x → Kid W a CntC k x) : CntC (.mk op n t ks) [.int .i64 op, .int .i64 n, .string t, .slice a ks.length cap] W := by
  intro d left L w hB hL hc h0 h120 hd1 hd13
  have HK := Lib.hid hk; clear hk
  by_cases hno : left < 1 ∨ 12 < d ∨ shF op n t ks.length = false
  · rw [cnt_no hno]
    have := count_no L op n d left t a ks.length cap w hc h0 h120 h3' h4' hno
    exact this.mono fun e w' ⟨p, q, _⟩ => ⟨p, q, fun h => by cases h⟩
  · have k1 : ¬ left - 1 < 0 := by omega
    have k2 : ¬ 12 < d := by omega
    have k3 : shF op n t ks.length = true := by
      cases h : shF op n t ks.length with
      | true => rfl
      | false => exact absurd (.inr (.inr h)) hno
    have K3 := Lib.hid k3
    clear hno k3
    have hLz := lt_of_block hc
    have hcl := cell_of_one hc
    have hf := free_of_one hc
    have HC := Lib.hid hc; clear hc
    have HBW := Lib.hid hB; clear hB
    go_enter Tryz.func37, Tryz.ntmps37
    go_wp2_with (go_at_call 63; refine (shaped_any _ _ _ _ _ _ _ h3' h4').mono ?_; rintro e w1 ⟨rfl, hb1⟩; rw [show shB op n t ks.length = true from K3.out]; have HB1 := Lib.hid hb1; clear hb1)
    go_loopw [7] (fun i wr => CntRel L ks d left w a cap i wr) (fun i _ => ks.length - (intOf i).toNat)
    case atStart =>
      refine ⟨0, Nat.zero_le _, rfl, rfl, by show 1 + ((0 : Nat) : Int) ≤ left; omega, ?_, (updL _ _ _ _).trans (Upd.ofBelow _ HB1.out), ?_, ?_⟩
      · rw [HB1.out.block L (by simp; omega), Below.heap_alloc (w.setCell ⟨L, 0, none⟩ (.int .i64 (left - 1))) _ L (by simp [World.setCell]; omega), one_setCell HC.out]; simp [sizeL]
      · refine (HB1.out.cell (p := ⟨w.heap.size, 3, none⟩) ?_).trans ?_
        · show w.heap.size < _
          simp
        · rw [World.cell?_alloc_at _ _ _ _ (by simp [World.setCell])]; rfl
      · have := HB1.out.size; simp at this; omega
    case round =>
      obtain ⟨k, hkl, rfl, hok, hsz, hwl, hup, hbx, hsz2⟩ := hrel
      have HWL := Lib.hid hwl; clear hwl
      have HOK := Lib.hid hok; clear hok
      have hBW : Below W.heap.size W wr := HBW.out.trans (hup.below W.heap.size HBW.out.size (by intro y hy; simp at hy; omega))
      have HUP := Lib.hid hup; clear hup
      by_cases hlt : k < ks.length
      · obtain ⟨x, hx⟩ : ∃ x, ks[k]? = some x := ⟨ks[k], List.getElem?_eq_getElem hlt⟩
        obtain ⟨b, off, cs, ha, hb, hat, hxr, ih⟩ := HK.out k x hx
        subst ha
        obtain ⟨v, rfl, a', cap', rfl⟩ := hxr.four
        have q0 : wr.cell? ⟨b, off + k * 4, none⟩ = some (.int .i64 x.op) := (hBW.cell (p := ⟨b, off + k * 4, none⟩) hb).trans (by simpa using hat 0 _ rfl)
        have q1 : wr.cell? ⟨b, off + k * 4 + 1, none⟩ = some (.int .i64 x.n) := (hBW.cell (p := ⟨b, off + k * 4 + 1, none⟩) hb).trans (by simpa using hat 1 _ rfl)
        have q2 : wr.cell? ⟨b, off + k * 4 + 2, none⟩ = some (.string x.text) := (hBW.cell (p := ⟨b, off + k * 4 + 2, none⟩) hb).trans (by simpa using hat 2 _ rfl)
        have q3 : wr.cell? ⟨b, off + k * 4 + 3, none⟩ = some (.slice a' x.kids.length cap') := (hBW.cell (p := ⟨b, off + k * 4 + 3, none⟩) hb).trans (by simpa using hat 3 _ rfl)
        have IH := Lib.hid ih; clear ih
        have HX := Lib.hid hx; clear hx
        have HBWr := Lib.hid hBW; clear hBW hat hxr
        cases hbk : cntB x (d + 1) (left - 1 - sizeL (ks.take k)) with
        | false =>
          have HBK := Lib.hid hbk; clear hbk
          go_wp2_with (go_at_call 37; refine (IH.out (d + 1) _ L _ HBWr.out hL HWL.out (by omega) (by omega) (by omega) (by omega)).mono ?_; rintro e w2 ⟨rfl, hu2, -⟩; rw [HBK.out]; have HU2 := Lib.hid hu2; clear hu2)
          go_ret
          exact ⟨by rw [cnt_stop HX.out HBK.out]; rfl, HUP.out.trans HU2.out, fun h => by rw [cnt_stop HX.out HBK.out] at h; cases h⟩
        | true =>
          have HBK := Lib.hid hbk; clear hbk
          go_wp2_with (go_at_call 37; refine (IH.out (d + 1) _ L _ HBWr.out hL HWL.out (by omega) (by omega) (by omega) (by omega)).mono ?_; rintro e w2 ⟨rfl, hu2, hl2⟩; have HL2 := Lib.hid (hl2 HBK.out); clear hl2; rw [HBK.out]; have HU2 := Lib.hid hu2; clear hu2)
          have hbk := HBK.out
          unfold cntB at hbk
          obtain ⟨e1, e2⟩ := Bool.and_eq_true_iff.1 hbk
          have e2 := of_decide_eq_true e2
          refine ⟨⟨k + 1, by omega, by go_num, by rw [okL_take shE (d + 1) ks k x HX.out, HOK.out, e1]; rfl, by rw [sizeL_take ks k x HX.out]; omega, by rw [left_next ks k x left HX.out]; exact HL2.out, HUP.out.trans HU2.out, (HU2.out.cells _ _ hsz2 (by simp; omega)).trans hbx, Nat.lt_of_lt_of_le hsz2 HU2.out.size⟩, by simp [intOf]; omega⟩
      · obtain rfl : k = ks.length := by omega
        go_wp2
        go_ret
        have hall := HOK.out
        have hw := HWL.out
        rw [List.take_length] at hall hw hsz
        exact ⟨by rw [cnt_all k2 K3.out hall hsz]; rfl, HUP.out, fun _ => by rw [hw]; simp [sizeE]; omega⟩
theorem count_tree (W : World) (e : ET) (cs : List Value) (hr : ExpR W e cs) : CntC e cs W := by
  induction hr with
  | none op n t a cap h1 h2 h3 => exact count_step W op n t [] a cap (by unfold maxLen at h3; omega) (by simp) (fun k x h => by simp at h)
  | some op n t ks b off cap cs h1 h2 h3 h4 h5 hb hc hk ih =>
    refine count_step W op n t ks (some ⟨b, off, none⟩) cap (by unfold maxLen at h3; omega) (by unfold maxLen at h4; omega) (fun k x hx => ?_)
    have hlt : k < ks.length := (List.getElem?_eq_some_iff.1 hx).1
    exact ⟨b, off, cs k, rfl, hb, hc k hlt, hk k x hx, ih k x hx⟩
end Go.Proofs.YtnipdjkopmjoeaaGreatDoor
namespace Go.Proofs.YtnipdjkopmjoeaaGreatDoor
open Go.ChangeShapes Go.WideShapes Go.ChangeAt Go.RowKit Go.Fs
def formB (e : ET) : Bool := cntB e 1 120
set_option maxRecDepth 100000 in
set_option maxHeartbeats 2000000 in
theorem formed_any (W : World) (e : ET) (cs : List Value) (hr : ExpR W e cs) (w : World) (hB : Below W.heap.size W w) : Calls Tryz.prog 12 #[.agg cs.toArray] w (ShP (formB e) w) := by
  have hc := count_tree W e cs hr
  obtain ⟨v, rfl, a, cap, rfl⟩ := hr.four
  have HC := Lib.hid hc; clear hc
  have HB := Lib.hid hB; clear hB
  have hz := HB.out.size
  go_enter Tryz.func12, Tryz.ntmps12
  go_wp2_with (go_at_call 37; refine (HC.out 1 120 (w.heap.size + 1) _ (by exact (HB.out.alloc hz _).alloc (by simp; omega) _) (by omega) (by rw [show w.heap.size + 1 = (w.alloc (.cells #[.int .i64 e.op, .int .i64 e.n, .string e.text, .slice a e.kids.length cap] 25)).heap.size by simp]; exact World.alloc_heap_new _ _) (by omega) (by omega) (by omega) (by omega)).mono ?_; rintro e1 w1 ⟨rfl, hu, -⟩; have HU := Lib.hid hu; clear hu)
  go_ret
  exact ⟨rfl, (((Below.refl _ _).alloc (Nat.le_refl _) _).alloc (by simp) _).trans (HU.out.below _ (by simp; omega) (by intro x hx; simp at hx; omega))⟩
set_option maxRecDepth 100000 in
set_option maxHeartbeats 2000000 in
theorem rcheckExp_any (W : World) (e : ET) (cs : List Value) (hr : ExpR W e cs) (w : World) (hB : Below W.heap.size W w) : Calls Tryz.prog 7 #[.agg cs.toArray] w fun en w' => en = .returned (.int .i64 (if formB e = true then 0 else 2)) ∧ Below w.heap.size w w' := by
  have hc := formed_any W e cs hr
  obtain ⟨v, rfl, a, cap, rfl⟩ := hr.four
  have HC := Lib.hid hc; clear hc
  have HB := Lib.hid hB; clear hB
  have hz := HB.out.size
  cases hb : formB e with
  | true =>
    have HF := Lib.hid hb; clear hb
    go_enter Tryz.func7, Tryz.ntmps7
    go_wp2_with (go_at_call 12; refine (HC.out _ (by exact (HB.out.alloc hz _))).mono ?_; rintro e1 w1 ⟨rfl, hu⟩; rw [HF.out]; have HU := Lib.hid hu; clear hu)
    go_ret
    exact ⟨rfl, ((Below.refl _ _).alloc (Nat.le_refl _) _).trans (HU.out.mono (by simp))⟩
  | false =>
    have HF := Lib.hid hb; clear hb
    go_enter Tryz.func7, Tryz.ntmps7
    go_wp2_with (go_at_call 12; refine (HC.out _ (by exact (HB.out.alloc hz _))).mono ?_; rintro e1 w1 ⟨rfl, hu⟩; rw [HF.out]; have HU := Lib.hid hu; clear hu)
    go_ret
    exact ⟨rfl, ((Below.refl _ _).alloc (Nat.le_refl _) _).trans (HU.out.mono (by simp))⟩
end Go.Proofs.YtnipdjkopmjoeaaGreatDoor
namespace Go.Proofs.YtnipdjkopmjoeaaGreatDoor
open Go.ChangeShapes Go.WideShapes Go.ChangeAt Go.RowKit Go.Fs
theorem bcell {W w1 : World} (hb : Below W.heap.size W w1) : (∀ b o, b < W.heap.size → w1.cell? ⟨b, o, none⟩ = W.cell? ⟨b, o, none⟩) ∧ (∀ b o, b < W.heap.size → w1.frozen? ⟨b, o, none⟩ = W.frozen? ⟨b, o, none⟩) :=
  ⟨fun b o h => hb.cell (p := ⟨b, o, none⟩) h, fun b o h => hb.frozen (p := ⟨b, o, none⟩) h⟩
mutual
theorem ok_deep (d : Int) : ∀ e : ET, okE shE d e = true → d + (deepE e : Int) ≤ 13
  | .mk o n t ks, h => by
    simp only [okE, Bool.and_eq_true, decide_eq_true_eq] at h
    have := ok_deepL (d + 1) ks h.2
    simp only [deepE]
    rcases this with h | h <;> omega
theorem ok_deepL (d : Int) : ∀ l : List ET, okL shE d l = true → deepL l = 0 ∨ d + (deepL l : Int) ≤ 13
  | [], _ => .inl rfl
  | x :: l, h => by
    simp only [okL, Bool.and_eq_true] at h
    have h1 := ok_deep d x h.1
    have h2 := ok_deepL d l h.2
    simp only [deepL]
    right
    rcases h2 with h2 | h2 <;> omega
end
def DepC (e : ET) (cs : List Value) (W : World) : Prop := ∀ (w : World), Below W.heap.size W w → deepE e ≤ 20 →
    Calls Tryz.prog 13 #[.agg cs.toArray] w fun en w' => en = .returned (.int .i64 (deepE e)) ∧ Below w.heap.size w w'
theorem deep_kid (ks : List ET) (k : Nat) (x : ET) (h : ks[k]? = some x) : deepE x ≤ deepL ks := by
  have := congrArg deepL (take_split ks k x h)
  rw [deepL_append] at this
  simp only [deepL] at this
  omega
set_option maxRecDepth 100000 in
set_option maxHeartbeats 4000000 in
theorem dep_step (W : World) (op n : Int) (t : ByteArray) (ks : List ET) (a : Option Addr) (cap : Nat) (h4' : (ks.length : Int) ≤ 9223372036854775807)
    (hk : ∀ k x, ks[k]? = some x → Kid W a DepC k x) : DepC (.mk op n t ks) [.int .i64 op, .int .i64 n, .string t, .slice a ks.length cap] W := by
  intro w hB hd
  have hd' : deepL ks + 1 ≤ 20 := hd
  have HK := Lib.hid hk; clear hk
  have HBW := Lib.hid hB; clear hB
  clear hd
  go_enter Tryz.func13, Tryz.ntmps13
  go_wp2_with fail
  go_loopw [3, 4] (fun m i wr => ∃ k : Nat, k ≤ ks.length ∧ i = .int .i64 k ∧ m = .int .i64 (deepL (ks.take k)) ∧ deepL (ks.take k) ≤ deepL ks ∧ Below w.heap.size w wr ∧ wr.cell? ⟨w.heap.size, 3, none⟩ = some (.slice a ks.length cap) ∧ w.heap.size < wr.heap.size) (fun _ i _ => ks.length - (intOf i).toNat)
  case atStart => exact ⟨0, Nat.zero_le _, rfl, rfl, Nat.zero_le _, (Below.refl _ _).alloc (Nat.le_refl _) _, by simp, by simp⟩
  case round =>
    obtain ⟨k, hkl, rfl, rfl, hm, hup, hbx, hsz2⟩ := hrel
    have HUP := Lib.hid hup; clear hup
    by_cases hlt : k < ks.length
    · obtain ⟨x, hx⟩ : ∃ x, ks[k]? = some x := ⟨ks[k], List.getElem?_eq_getElem hlt⟩
      obtain ⟨b, off, cs, ha, hb, hat, hxr, ih⟩ := HK.out k x hx
      subst ha
      have hBW : Below W.heap.size W wr := HBW.out.trans (HUP.out.mono HBW.out.size)
      obtain ⟨v, rfl, a', cap', rfl⟩ := hxr.four
      have q0 : wr.cell? ⟨b, off + k * 4, none⟩ = some (.int .i64 x.op) := (hBW.cell (p := ⟨b, off + k * 4, none⟩) hb).trans (by simpa using hat 0 _ rfl)
      have q1 : wr.cell? ⟨b, off + k * 4 + 1, none⟩ = some (.int .i64 x.n) := (hBW.cell (p := ⟨b, off + k * 4 + 1, none⟩) hb).trans (by simpa using hat 1 _ rfl)
      have q2 : wr.cell? ⟨b, off + k * 4 + 2, none⟩ = some (.string x.text) := (hBW.cell (p := ⟨b, off + k * 4 + 2, none⟩) hb).trans (by simpa using hat 2 _ rfl)
      have q3 : wr.cell? ⟨b, off + k * 4 + 3, none⟩ = some (.slice a' x.kids.length cap') := (hBW.cell (p := ⟨b, off + k * 4 + 3, none⟩) hb).trans (by simpa using hat 3 _ rfl)
      have IH := Lib.hid ih; clear ih
      have hdx := deep_kid ks k x hx
      have hnext := deepL_take ks k x hx
      have HN := Lib.hid hnext; clear hnext
      have HX := Lib.hid hx; clear hx
      have HBWr := Lib.hid hBW; clear hBW hat hxr
      go_wp2_with (go_at_call 13; refine (IH.out _ HBWr.out (by omega)).mono ?_; rintro e w2 ⟨rfl, hu2⟩; have HU2 := Lib.hid hu2; clear hu2)
      refine ⟨⟨k + 1, by omega, by go_num, by rw [HN.out]; congr 1; split <;> omega, by rw [HN.out]; omega, HUP.out.trans (HU2.out.mono HUP.out.size), (HU2.out.cell (p := ⟨w.heap.size, 3, none⟩) hsz2).trans hbx, Nat.lt_of_lt_of_le hsz2 HU2.out.size⟩, by simp [intOf]; omega⟩
    · obtain rfl : k = ks.length := by omega
      go_wp2
      go_ret
      exact ⟨rfl, HUP.out⟩
theorem dep_tree (W : World) (e : ET) (cs : List Value) (hr : ExpR W e cs) : DepC e cs W := by
  induction hr with
  | none op n t a cap h1 h2 h3 => exact dep_step W op n t [] a cap (by simp) (fun k x h => by simp at h)
  | some op n t ks b off cap cs h1 h2 h3 h4 h5 hb hc hk ih =>
    refine dep_step W op n t ks (some ⟨b, off, none⟩) cap (by unfold maxLen at h4; omega) (fun k x hx => ?_)
    have hlt : k < ks.length := (List.getElem?_eq_some_iff.1 hx).1
    exact ⟨b, off, cs k, rfl, hb, hc k hlt, hk k x hx, ih k x hx⟩
theorem form_deep (e : ET) (h : formB e = true) : deepE e ≤ 12 := by
  unfold formB cntB at h
  have := ok_deep 1 e (Bool.and_eq_true_iff.1 h).1
  omega
def DepV (e : ET) : Value := .tuple (if formB e = true then #[.int .i64 (deepE e), .int .i64 0] else #[.int .i64 0, .int .i64 2])
set_option maxRecDepth 100000 in
set_option maxHeartbeats 2000000 in
theorem rdepth_any (W : World) (e : ET) (cs : List Value) (hr : ExpR W e cs) (w : World) (hB : Below W.heap.size W w) : Calls Tryz.prog 5 #[.agg cs.toArray] w fun en w' => en = .returned (DepV e) ∧ Below w.heap.size w w' := by
  have hc := formed_any W e cs hr
  have hd := dep_tree W e cs hr
  obtain ⟨v, rfl, a, cap, rfl⟩ := hr.four
  have HC := Lib.hid hc; clear hc
  have HD := Lib.hid hd; clear hd
  have HB := Lib.hid hB; clear hB
  have hz := HB.out.size
  unfold DepV
  cases hb : formB e with
  | true =>
    have hdp := form_deep e hb
    have HF := Lib.hid hb; clear hb
    go_enter Tryz.func5, Tryz.ntmps5
    go_wp2_with (first
      | (go_at_call 12; refine (HC.out _ (by exact (HB.out.alloc hz _))).mono ?_; rintro e1 w1 ⟨rfl, hu⟩; rw [HF.out]; obtain ⟨hc1, hf1⟩ := bcell hu; have HU := Lib.hid hu; clear hu)
      | (go_at_call 13; refine (HD.out _ (by exact (HB.out.alloc hz _).trans (HU.out.mono (by simp; omega))) (by omega)).mono ?_; rintro e1 w2 ⟨rfl, hu2⟩; have HU2 := Lib.hid hu2; clear hu2))
    go_ret2
    exact ⟨rfl, (((Below.refl _ _).alloc (Nat.le_refl _) _).trans (HU.out.mono (by simp))).trans (HU2.out.mono (by have := HU.out.size; simp at this; omega))⟩
  | false =>
    have HF := Lib.hid hb; clear hb
    go_enter Tryz.func5, Tryz.ntmps5
    go_wp2_with (go_at_call 12; refine (HC.out _ (by exact (HB.out.alloc hz _))).mono ?_; rintro e1 w1 ⟨rfl, hu⟩; rw [HF.out]; have HU := Lib.hid hu; clear hu)
    go_ret2
    exact ⟨rfl, ((Below.refl _ _).alloc (Nat.le_refl _) _).trans (HU.out.mono (by simp))⟩
end Go.Proofs.YtnipdjkopmjoeaaGreatDoor
