/-
  The specification on facts: every way in which a node is no fact. No condition.
-/
import Derived.Test.YtnipdjkopmjoeaaGreatDoorFsD
import Derived.Deep.RegionWith
namespace Go.Proofs.YtnipdjkopmjoeaaGreatDoor
open Go.ChangeShapes Go.WideShapes Go.ChangeAt Go.RowKit Go.Fs
/-- a slice of strings that lies apart from a block -/
structure SlX (L : Nat) (w : World) (v : Value) (ss : List ByteArray) : Prop where
  is : SlR w v ss
  off : ∀ b o n cap, v = .slice (some ⟨b, o, none⟩) n cap → b ≠ L
theorem SlX.up {L : Nat} {w w' : World} {v : Value} {ss : List ByteArray} (h : SlX L w v ss) (hb : Upd [L] w w') : SlX L w' v ss := by
  refine ⟨?_, h.off⟩
  rcases h.is with h1 | ⟨b, off, cap, rfl, hc⟩
  · exact .inl h1
  · exact .inr ⟨b, off, cap, rfl, fun i s hi => (hb.cells b (off + i) (cell_lt (hc i s hi)) (by have := h.off _ _ _ _ rfl; simp; exact this)).trans (hc i s hi)⟩
theorem hasX {L : Nat} {w : World} {v : Value} {ss : List ByteArray} (h : SlX L w v ss) (hl : (ss.length : Int) ≤ 9223372036854775807) (s : ByteArray) (w' : World) (hb : Upd [L] w w') : Calls Tryz.prog 71 #[v, .string s] w' fun e w2 => e = .returned (.bool (hasB ss s)) ∧ w' = w2 :=
  has_any v ss s w' hl (h.up hb).is
/-- what every walk of fact has -/
structure REnv (ps ss cl : List ByteArray) (pv sv cv : Value) (pl nk L : Nat) (left d : Int) (w : World) : Prop where
  L_ : w.heap[L]? = some (.cells #[.int .i64 left] 3 (0, 0))
  l1 : 1 ≤ left
  l2 : left ≤ 120
  d1 : 1 ≤ d
  d2 : d ≤ 12
  p : SlX L w pv ps
  s : SlX L w sv ss
  c : SlX L w cv cl
  p1 : (ps.length : Int) ≤ 9223372036854775807
  s1 : (ss.length : Int) ≤ 9223372036854775807
  c1 : (cl.length : Int) ≤ 9223372036854775807
  q1 : (pl : Int) ≤ 9223372036854775807
  q2 : (nk : Int) ≤ 9223372036854775807
theorem updL2 (L : Nat) (w : World) (v : Value) (o1 o2 : Obj) : Upd [L] w (((w.setCell ⟨L, 0, none⟩ v).alloc o1).alloc o2) := (((Upd.refl _ _).setCell (fun _ => by simp) _).alloc _).alloc _
variable (ps ss cl : List ByteArray) (pv sv cv : Value) (nm c : ByteArray) (pa a : Option Addr) (pl pc nk cap L : Nat) (n d left : Int) (w : World)
set_option maxRecDepth 100000 in
set_option maxHeartbeats 1000000 in
theorem rf1a (hv : REnv ps ss cl pv sv cv pl nk L left d w) (k1 : ¬ nk = 0) :
    Calls Tryz.prog 44 #[.agg #[pv, sv, cv], .agg #[.int .i64 1, .string nm, .slice pa pl pc, .string c, .int .i64 n, .slice a nk cap], .int .i64 d, .pointer (some ⟨L, 0, none⟩)] w (CntP L false 0 w) := by
  obtain ⟨hL, h0, h120, hd1, hd2, hpv, hsv, hcv, hp1, hs1, hc1, hq1, hq2⟩ := hv
  have hLz := lt_of_block hL
  have hc := cell_of_one hL
  have hf := free_of_one hL
  clear hL
  have HP := Lib.hid (hasX hpv hp1)
  have HC := Lib.hid (hasX hcv hc1)
  have g1 : ¬ left - 1 < 0 := by omega
  have g2 : ¬ 12 < d := by omega
  clear hpv hcv hsv
  have k1' : ((nk : Int) != 0) = true := by rw [bne_iff_ne]; omega
  have k1'' : ¬ (nk : Int) = 0 := by omega
  go_enter Tryz.func44, Tryz.ntmps44
  go_wp2_with (first | (go_at_call_of 71 (Value.string nm); refine (HP.out _ _ (by repeat (first | exact Upd.refl _ _ | refine Upd.alloc ?_ _ | refine Upd.setCell ?_ (fun _ => by simp) _ | refine Upd.drew ?_))).mono ?_; rintro e w' ⟨rfl, rfl⟩) | (go_at_call 71; refine (HC.out _ _ (by repeat (first | exact Upd.refl _ _ | refine Upd.alloc ?_ _ | refine Upd.setCell ?_ (fun _ => by simp) _ | refine Upd.drew ?_))).mono ?_; rintro e w' ⟨rfl, rfl⟩) | (go_at_call 72; refine (in_any _ _).mono ?_; rintro e w' ⟨rfl, rfl⟩))
  go_ret
  exact ⟨rfl, updL2 _ _ _ _ _, fun h => by cases h⟩
set_option maxRecDepth 100000 in
set_option maxHeartbeats 1000000 in
theorem rf1b (hv : REnv ps ss cl pv sv cv pl nk L left d w) (k1 : nk = 0) (k2 : nm.toList.isEmpty = false) :
    Calls Tryz.prog 44 #[.agg #[pv, sv, cv], .agg #[.int .i64 1, .string nm, .slice pa pl pc, .string c, .int .i64 n, .slice a nk cap], .int .i64 d, .pointer (some ⟨L, 0, none⟩)] w (CntP L false 0 w) := by
  obtain ⟨hL, h0, h120, hd1, hd2, hpv, hsv, hcv, hp1, hs1, hc1, hq1, hq2⟩ := hv
  have hLz := lt_of_block hL
  have hc := cell_of_one hL
  have hf := free_of_one hL
  clear hL
  have HP := Lib.hid (hasX hpv hp1)
  have HC := Lib.hid (hasX hcv hc1)
  have g1 : ¬ left - 1 < 0 := by omega
  have g2 : ¬ 12 < d := by omega
  clear hpv hcv hsv
  subst k1
  go_enter Tryz.func44, Tryz.ntmps44
  go_wp2_with (first | (go_at_call_of 71 (Value.string nm); refine (HP.out _ _ (by repeat (first | exact Upd.refl _ _ | refine Upd.alloc ?_ _ | refine Upd.setCell ?_ (fun _ => by simp) _ | refine Upd.drew ?_))).mono ?_; rintro e w' ⟨rfl, rfl⟩) | (go_at_call 71; refine (HC.out _ _ (by repeat (first | exact Upd.refl _ _ | refine Upd.alloc ?_ _ | refine Upd.setCell ?_ (fun _ => by simp) _ | refine Upd.drew ?_))).mono ?_; rintro e w' ⟨rfl, rfl⟩) | (go_at_call 72; refine (in_any _ _).mono ?_; rintro e w' ⟨rfl, rfl⟩))
  go_ret
  exact ⟨rfl, updL2 _ _ _ _ _, fun h => by cases h⟩
set_option maxRecDepth 100000 in
set_option maxHeartbeats 1000000 in
theorem rf1c (hv : REnv ps ss cl pv sv cv pl nk L left d w) (k1 : nk = 0) (k2 : nm.toList.isEmpty = true) (k3 : 0 < pl) :
    Calls Tryz.prog 44 #[.agg #[pv, sv, cv], .agg #[.int .i64 1, .string nm, .slice pa pl pc, .string c, .int .i64 n, .slice a nk cap], .int .i64 d, .pointer (some ⟨L, 0, none⟩)] w (CntP L false 0 w) := by
  obtain ⟨hL, h0, h120, hd1, hd2, hpv, hsv, hcv, hp1, hs1, hc1, hq1, hq2⟩ := hv
  have hLz := lt_of_block hL
  have hc := cell_of_one hL
  have hf := free_of_one hL
  clear hL
  have HP := Lib.hid (hasX hpv hp1)
  have HC := Lib.hid (hasX hcv hc1)
  have g1 : ¬ left - 1 < 0 := by omega
  have g2 : ¬ 12 < d := by omega
  clear hpv hcv hsv
  subst k1
  have k3' : 0 < (pl : Int) := by omega
  go_enter Tryz.func44, Tryz.ntmps44
  go_wp2_with (first | (go_at_call_of 71 (Value.string nm); refine (HP.out _ _ (by repeat (first | exact Upd.refl _ _ | refine Upd.alloc ?_ _ | refine Upd.setCell ?_ (fun _ => by simp) _ | refine Upd.drew ?_))).mono ?_; rintro e w' ⟨rfl, rfl⟩) | (go_at_call 71; refine (HC.out _ _ (by repeat (first | exact Upd.refl _ _ | refine Upd.alloc ?_ _ | refine Upd.setCell ?_ (fun _ => by simp) _ | refine Upd.drew ?_))).mono ?_; rintro e w' ⟨rfl, rfl⟩) | (go_at_call 72; refine (in_any _ _).mono ?_; rintro e w' ⟨rfl, rfl⟩))
  go_ret
  exact ⟨rfl, updL2 _ _ _ _ _, fun h => by cases h⟩
set_option maxRecDepth 100000 in
set_option maxHeartbeats 1000000 in
theorem rf1d (hv : REnv ps ss cl pv sv cv pl nk L left d w) (k1 : nk = 0) (k2 : nm.toList.isEmpty = true) (k3 : pl = 0) (k4 : c.toList.isEmpty = false) :
    Calls Tryz.prog 44 #[.agg #[pv, sv, cv], .agg #[.int .i64 1, .string nm, .slice pa pl pc, .string c, .int .i64 n, .slice a nk cap], .int .i64 d, .pointer (some ⟨L, 0, none⟩)] w (CntP L false 0 w) := by
  obtain ⟨hL, h0, h120, hd1, hd2, hpv, hsv, hcv, hp1, hs1, hc1, hq1, hq2⟩ := hv
  have hLz := lt_of_block hL
  have hc := cell_of_one hL
  have hf := free_of_one hL
  clear hL
  have HP := Lib.hid (hasX hpv hp1)
  have HC := Lib.hid (hasX hcv hc1)
  have g1 : ¬ left - 1 < 0 := by omega
  have g2 : ¬ 12 < d := by omega
  clear hpv hcv hsv
  subst k1
  subst k3
  go_enter Tryz.func44, Tryz.ntmps44
  go_wp2_with (first | (go_at_call_of 71 (Value.string nm); refine (HP.out _ _ (by repeat (first | exact Upd.refl _ _ | refine Upd.alloc ?_ _ | refine Upd.setCell ?_ (fun _ => by simp) _ | refine Upd.drew ?_))).mono ?_; rintro e w' ⟨rfl, rfl⟩) | (go_at_call 71; refine (HC.out _ _ (by repeat (first | exact Upd.refl _ _ | refine Upd.alloc ?_ _ | refine Upd.setCell ?_ (fun _ => by simp) _ | refine Upd.drew ?_))).mono ?_; rintro e w' ⟨rfl, rfl⟩) | (go_at_call 72; refine (in_any _ _).mono ?_; rintro e w' ⟨rfl, rfl⟩))
  go_ret
  exact ⟨rfl, updL2 _ _ _ _ _, fun h => by cases h⟩
set_option maxRecDepth 100000 in
set_option maxHeartbeats 1000000 in
theorem rf1f (hv : REnv ps ss cl pv sv cv pl nk L left d w) (k1 : nk = 0) (k2 : nm.toList.isEmpty = true) (k3 : pl = 0) (k4 : c.toList.isEmpty = true) (k6 : ¬ n = 0) :
    Calls Tryz.prog 44 #[.agg #[pv, sv, cv], .agg #[.int .i64 1, .string nm, .slice pa pl pc, .string c, .int .i64 n, .slice a nk cap], .int .i64 d, .pointer (some ⟨L, 0, none⟩)] w (CntP L false 0 w) := by
  obtain ⟨hL, h0, h120, hd1, hd2, hpv, hsv, hcv, hp1, hs1, hc1, hq1, hq2⟩ := hv
  have hLz := lt_of_block hL
  have hc := cell_of_one hL
  have hf := free_of_one hL
  clear hL
  have HP := Lib.hid (hasX hpv hp1)
  have HC := Lib.hid (hasX hcv hc1)
  have g1 : ¬ left - 1 < 0 := by omega
  have g2 : ¬ 12 < d := by omega
  clear hpv hcv hsv
  subst k1
  subst k3
  go_enter Tryz.func44, Tryz.ntmps44
  go_wp2_with (first | (go_at_call_of 71 (Value.string nm); refine (HP.out _ _ (by repeat (first | exact Upd.refl _ _ | refine Upd.alloc ?_ _ | refine Upd.setCell ?_ (fun _ => by simp) _ | refine Upd.drew ?_))).mono ?_; rintro e w' ⟨rfl, rfl⟩) | (go_at_call 71; refine (HC.out _ _ (by repeat (first | exact Upd.refl _ _ | refine Upd.alloc ?_ _ | refine Upd.setCell ?_ (fun _ => by simp) _ | refine Upd.drew ?_))).mono ?_; rintro e w' ⟨rfl, rfl⟩) | (go_at_call 72; refine (in_any _ _).mono ?_; rintro e w' ⟨rfl, rfl⟩))
  go_ret
  exact ⟨rfl, updL2 _ _ _ _ _, fun h => by cases h⟩
set_option maxRecDepth 100000 in
set_option maxHeartbeats 1000000 in
theorem rf2a (hv : REnv ps ss cl pv sv cv pl nk L left d w) (k1 : ¬ nk = 0) :
    Calls Tryz.prog 44 #[.agg #[pv, sv, cv], .agg #[.int .i64 2, .string nm, .slice pa pl pc, .string c, .int .i64 n, .slice a nk cap], .int .i64 d, .pointer (some ⟨L, 0, none⟩)] w (CntP L false 0 w) := by
  obtain ⟨hL, h0, h120, hd1, hd2, hpv, hsv, hcv, hp1, hs1, hc1, hq1, hq2⟩ := hv
  have hLz := lt_of_block hL
  have hc := cell_of_one hL
  have hf := free_of_one hL
  clear hL
  have HP := Lib.hid (hasX hpv hp1)
  have HC := Lib.hid (hasX hcv hc1)
  have g1 : ¬ left - 1 < 0 := by omega
  have g2 : ¬ 12 < d := by omega
  clear hpv hcv hsv
  have k1' : ((nk : Int) != 0) = true := by rw [bne_iff_ne]; omega
  have k1'' : ¬ (nk : Int) = 0 := by omega
  go_enter Tryz.func44, Tryz.ntmps44
  go_wp2_with (first | (go_at_call_of 71 (Value.string nm); refine (HP.out _ _ (by repeat (first | exact Upd.refl _ _ | refine Upd.alloc ?_ _ | refine Upd.setCell ?_ (fun _ => by simp) _ | refine Upd.drew ?_))).mono ?_; rintro e w' ⟨rfl, rfl⟩) | (go_at_call 71; refine (HC.out _ _ (by repeat (first | exact Upd.refl _ _ | refine Upd.alloc ?_ _ | refine Upd.setCell ?_ (fun _ => by simp) _ | refine Upd.drew ?_))).mono ?_; rintro e w' ⟨rfl, rfl⟩) | (go_at_call 72; refine (in_any _ _).mono ?_; rintro e w' ⟨rfl, rfl⟩))
  go_ret
  exact ⟨rfl, updL2 _ _ _ _ _, fun h => by cases h⟩
set_option maxRecDepth 100000 in
set_option maxHeartbeats 1000000 in
theorem rf2b (hv : REnv ps ss cl pv sv cv pl nk L left d w) (k1 : nk = 0) (k2 : hasB ps nm = false) :
    Calls Tryz.prog 44 #[.agg #[pv, sv, cv], .agg #[.int .i64 2, .string nm, .slice pa pl pc, .string c, .int .i64 n, .slice a nk cap], .int .i64 d, .pointer (some ⟨L, 0, none⟩)] w (CntP L false 0 w) := by
  obtain ⟨hL, h0, h120, hd1, hd2, hpv, hsv, hcv, hp1, hs1, hc1, hq1, hq2⟩ := hv
  have hLz := lt_of_block hL
  have hc := cell_of_one hL
  have hf := free_of_one hL
  clear hL
  have HP := Lib.hid (hasX hpv hp1)
  have HC := Lib.hid (hasX hcv hc1)
  have g1 : ¬ left - 1 < 0 := by omega
  have g2 : ¬ 12 < d := by omega
  clear hpv hcv hsv
  subst k1
  go_enter Tryz.func44, Tryz.ntmps44
  go_wp2_with (first | (go_at_call_of 71 (Value.string nm); refine (HP.out _ _ (by repeat (first | exact Upd.refl _ _ | refine Upd.alloc ?_ _ | refine Upd.setCell ?_ (fun _ => by simp) _ | refine Upd.drew ?_))).mono ?_; rintro e w' ⟨rfl, rfl⟩) | (go_at_call 71; refine (HC.out _ _ (by repeat (first | exact Upd.refl _ _ | refine Upd.alloc ?_ _ | refine Upd.setCell ?_ (fun _ => by simp) _ | refine Upd.drew ?_))).mono ?_; rintro e w' ⟨rfl, rfl⟩) | (go_at_call 72; refine (in_any _ _).mono ?_; rintro e w' ⟨rfl, rfl⟩))
  go_ret
  exact ⟨rfl, updL2 _ _ _ _ _, fun h => by cases h⟩
set_option maxRecDepth 100000 in
set_option maxHeartbeats 1000000 in
theorem rf2c (hv : REnv ps ss cl pv sv cv pl nk L left d w) (k1 : nk = 0) (k2 : hasB ps nm = true) (k3 : 2 < (pl : Int)) :
    Calls Tryz.prog 44 #[.agg #[pv, sv, cv], .agg #[.int .i64 2, .string nm, .slice pa pl pc, .string c, .int .i64 n, .slice a nk cap], .int .i64 d, .pointer (some ⟨L, 0, none⟩)] w (CntP L false 0 w) := by
  obtain ⟨hL, h0, h120, hd1, hd2, hpv, hsv, hcv, hp1, hs1, hc1, hq1, hq2⟩ := hv
  have hLz := lt_of_block hL
  have hc := cell_of_one hL
  have hf := free_of_one hL
  clear hL
  have HP := Lib.hid (hasX hpv hp1)
  have HC := Lib.hid (hasX hcv hc1)
  have g1 : ¬ left - 1 < 0 := by omega
  have g2 : ¬ 12 < d := by omega
  clear hpv hcv hsv
  subst k1
  go_enter Tryz.func44, Tryz.ntmps44
  go_wp2_with (first | (go_at_call_of 71 (Value.string nm); refine (HP.out _ _ (by repeat (first | exact Upd.refl _ _ | refine Upd.alloc ?_ _ | refine Upd.setCell ?_ (fun _ => by simp) _ | refine Upd.drew ?_))).mono ?_; rintro e w' ⟨rfl, rfl⟩) | (go_at_call 71; refine (HC.out _ _ (by repeat (first | exact Upd.refl _ _ | refine Upd.alloc ?_ _ | refine Upd.setCell ?_ (fun _ => by simp) _ | refine Upd.drew ?_))).mono ?_; rintro e w' ⟨rfl, rfl⟩) | (go_at_call 72; refine (in_any _ _).mono ?_; rintro e w' ⟨rfl, rfl⟩))
  go_ret
  exact ⟨rfl, updL2 _ _ _ _ _, fun h => by cases h⟩
set_option maxRecDepth 100000 in
set_option maxHeartbeats 1000000 in
theorem rf2d (hv : REnv ps ss cl pv sv cv pl nk L left d w) (k1 : nk = 0) (k2 : hasB ps nm = true) (k3 : (pl : Int) ≤ 2) (k4 : c.toList.isEmpty = true) :
    Calls Tryz.prog 44 #[.agg #[pv, sv, cv], .agg #[.int .i64 2, .string nm, .slice pa pl pc, .string c, .int .i64 n, .slice a nk cap], .int .i64 d, .pointer (some ⟨L, 0, none⟩)] w (CntP L false 0 w) := by
  obtain ⟨hL, h0, h120, hd1, hd2, hpv, hsv, hcv, hp1, hs1, hc1, hq1, hq2⟩ := hv
  have hLz := lt_of_block hL
  have hc := cell_of_one hL
  have hf := free_of_one hL
  clear hL
  have HP := Lib.hid (hasX hpv hp1)
  have HC := Lib.hid (hasX hcv hc1)
  have g1 : ¬ left - 1 < 0 := by omega
  have g2 : ¬ 12 < d := by omega
  clear hpv hcv hsv
  subst k1
  go_enter Tryz.func44, Tryz.ntmps44
  go_wp2_with (first | (go_at_call_of 71 (Value.string nm); refine (HP.out _ _ (by repeat (first | exact Upd.refl _ _ | refine Upd.alloc ?_ _ | refine Upd.setCell ?_ (fun _ => by simp) _ | refine Upd.drew ?_))).mono ?_; rintro e w' ⟨rfl, rfl⟩) | (go_at_call 71; refine (HC.out _ _ (by repeat (first | exact Upd.refl _ _ | refine Upd.alloc ?_ _ | refine Upd.setCell ?_ (fun _ => by simp) _ | refine Upd.drew ?_))).mono ?_; rintro e w' ⟨rfl, rfl⟩) | (go_at_call 72; refine (in_any _ _).mono ?_; rintro e w' ⟨rfl, rfl⟩))
  go_ret
  exact ⟨rfl, updL2 _ _ _ _ _, fun h => by cases h⟩
set_option maxRecDepth 100000 in
set_option maxHeartbeats 1000000 in
theorem rf2e (hv : REnv ps ss cl pv sv cv pl nk L left d w) (k1 : nk = 0) (k2 : hasB ps nm = true) (k3 : (pl : Int) ≤ 2) (k4 : c.toList.isEmpty = false) (k5 : hasB cl c = false) :
    Calls Tryz.prog 44 #[.agg #[pv, sv, cv], .agg #[.int .i64 2, .string nm, .slice pa pl pc, .string c, .int .i64 n, .slice a nk cap], .int .i64 d, .pointer (some ⟨L, 0, none⟩)] w (CntP L false 0 w) := by
  obtain ⟨hL, h0, h120, hd1, hd2, hpv, hsv, hcv, hp1, hs1, hc1, hq1, hq2⟩ := hv
  have hLz := lt_of_block hL
  have hc := cell_of_one hL
  have hf := free_of_one hL
  clear hL
  have HP := Lib.hid (hasX hpv hp1)
  have HC := Lib.hid (hasX hcv hc1)
  have g1 : ¬ left - 1 < 0 := by omega
  have g2 : ¬ 12 < d := by omega
  clear hpv hcv hsv
  subst k1
  go_enter Tryz.func44, Tryz.ntmps44
  go_wp2_with (first | (go_at_call_of 71 (Value.string nm); refine (HP.out _ _ (by repeat (first | exact Upd.refl _ _ | refine Upd.alloc ?_ _ | refine Upd.setCell ?_ (fun _ => by simp) _ | refine Upd.drew ?_))).mono ?_; rintro e w' ⟨rfl, rfl⟩) | (go_at_call 71; refine (HC.out _ _ (by repeat (first | exact Upd.refl _ _ | refine Upd.alloc ?_ _ | refine Upd.setCell ?_ (fun _ => by simp) _ | refine Upd.drew ?_))).mono ?_; rintro e w' ⟨rfl, rfl⟩) | (go_at_call 72; refine (in_any _ _).mono ?_; rintro e w' ⟨rfl, rfl⟩))
  go_ret
  exact ⟨rfl, updL2 _ _ _ _ _, fun h => by cases h⟩
set_option maxRecDepth 100000 in
set_option maxHeartbeats 1000000 in
theorem rf2f (hv : REnv ps ss cl pv sv cv pl nk L left d w) (k1 : nk = 0) (k2 : hasB ps nm = true) (k3 : (pl : Int) ≤ 2) (k4 : c.toList.isEmpty = false) (k5 : hasB cl c = true) (k6 : ¬ n = 0) :
    Calls Tryz.prog 44 #[.agg #[pv, sv, cv], .agg #[.int .i64 2, .string nm, .slice pa pl pc, .string c, .int .i64 n, .slice a nk cap], .int .i64 d, .pointer (some ⟨L, 0, none⟩)] w (CntP L false 0 w) := by
  obtain ⟨hL, h0, h120, hd1, hd2, hpv, hsv, hcv, hp1, hs1, hc1, hq1, hq2⟩ := hv
  have hLz := lt_of_block hL
  have hc := cell_of_one hL
  have hf := free_of_one hL
  clear hL
  have HP := Lib.hid (hasX hpv hp1)
  have HC := Lib.hid (hasX hcv hc1)
  have g1 : ¬ left - 1 < 0 := by omega
  have g2 : ¬ 12 < d := by omega
  clear hpv hcv hsv
  subst k1
  go_enter Tryz.func44, Tryz.ntmps44
  go_wp2_with (first | (go_at_call_of 71 (Value.string nm); refine (HP.out _ _ (by repeat (first | exact Upd.refl _ _ | refine Upd.alloc ?_ _ | refine Upd.setCell ?_ (fun _ => by simp) _ | refine Upd.drew ?_))).mono ?_; rintro e w' ⟨rfl, rfl⟩) | (go_at_call 71; refine (HC.out _ _ (by repeat (first | exact Upd.refl _ _ | refine Upd.alloc ?_ _ | refine Upd.setCell ?_ (fun _ => by simp) _ | refine Upd.drew ?_))).mono ?_; rintro e w' ⟨rfl, rfl⟩) | (go_at_call 72; refine (in_any _ _).mono ?_; rintro e w' ⟨rfl, rfl⟩))
  go_ret
  exact ⟨rfl, updL2 _ _ _ _ _, fun h => by cases h⟩
set_option maxRecDepth 100000 in
set_option maxHeartbeats 1000000 in
theorem rf3a (hv : REnv ps ss cl pv sv cv pl nk L left d w) (k1 : ¬ nk = 0) :
    Calls Tryz.prog 44 #[.agg #[pv, sv, cv], .agg #[.int .i64 3, .string nm, .slice pa pl pc, .string c, .int .i64 n, .slice a nk cap], .int .i64 d, .pointer (some ⟨L, 0, none⟩)] w (CntP L false 0 w) := by
  obtain ⟨hL, h0, h120, hd1, hd2, hpv, hsv, hcv, hp1, hs1, hc1, hq1, hq2⟩ := hv
  have hLz := lt_of_block hL
  have hc := cell_of_one hL
  have hf := free_of_one hL
  clear hL
  have HP := Lib.hid (hasX hpv hp1)
  have HC := Lib.hid (hasX hcv hc1)
  have g1 : ¬ left - 1 < 0 := by omega
  have g2 : ¬ 12 < d := by omega
  clear hpv hcv hsv
  have k1' : ((nk : Int) != 0) = true := by rw [bne_iff_ne]; omega
  have k1'' : ¬ (nk : Int) = 0 := by omega
  go_enter Tryz.func44, Tryz.ntmps44
  go_wp2_with (first | (go_at_call_of 71 (Value.string nm); refine (HP.out _ _ (by repeat (first | exact Upd.refl _ _ | refine Upd.alloc ?_ _ | refine Upd.setCell ?_ (fun _ => by simp) _ | refine Upd.drew ?_))).mono ?_; rintro e w' ⟨rfl, rfl⟩) | (go_at_call 71; refine (HC.out _ _ (by repeat (first | exact Upd.refl _ _ | refine Upd.alloc ?_ _ | refine Upd.setCell ?_ (fun _ => by simp) _ | refine Upd.drew ?_))).mono ?_; rintro e w' ⟨rfl, rfl⟩) | (go_at_call 72; refine (in_any _ _).mono ?_; rintro e w' ⟨rfl, rfl⟩))
  go_ret
  exact ⟨rfl, updL2 _ _ _ _ _, fun h => by cases h⟩
set_option maxRecDepth 100000 in
set_option maxHeartbeats 1000000 in
theorem rf3b (hv : REnv ps ss cl pv sv cv pl nk L left d w) (k1 : nk = 0) (k2 : hasB ps nm = false) :
    Calls Tryz.prog 44 #[.agg #[pv, sv, cv], .agg #[.int .i64 3, .string nm, .slice pa pl pc, .string c, .int .i64 n, .slice a nk cap], .int .i64 d, .pointer (some ⟨L, 0, none⟩)] w (CntP L false 0 w) := by
  obtain ⟨hL, h0, h120, hd1, hd2, hpv, hsv, hcv, hp1, hs1, hc1, hq1, hq2⟩ := hv
  have hLz := lt_of_block hL
  have hc := cell_of_one hL
  have hf := free_of_one hL
  clear hL
  have HP := Lib.hid (hasX hpv hp1)
  have HC := Lib.hid (hasX hcv hc1)
  have g1 : ¬ left - 1 < 0 := by omega
  have g2 : ¬ 12 < d := by omega
  clear hpv hcv hsv
  subst k1
  go_enter Tryz.func44, Tryz.ntmps44
  go_wp2_with (first | (go_at_call_of 71 (Value.string nm); refine (HP.out _ _ (by repeat (first | exact Upd.refl _ _ | refine Upd.alloc ?_ _ | refine Upd.setCell ?_ (fun _ => by simp) _ | refine Upd.drew ?_))).mono ?_; rintro e w' ⟨rfl, rfl⟩) | (go_at_call 71; refine (HC.out _ _ (by repeat (first | exact Upd.refl _ _ | refine Upd.alloc ?_ _ | refine Upd.setCell ?_ (fun _ => by simp) _ | refine Upd.drew ?_))).mono ?_; rintro e w' ⟨rfl, rfl⟩) | (go_at_call 72; refine (in_any _ _).mono ?_; rintro e w' ⟨rfl, rfl⟩))
  go_ret
  exact ⟨rfl, updL2 _ _ _ _ _, fun h => by cases h⟩
set_option maxRecDepth 100000 in
set_option maxHeartbeats 1000000 in
theorem rf3c (hv : REnv ps ss cl pv sv cv pl nk L left d w) (k1 : nk = 0) (k2 : hasB ps nm = true) (k3 : 2 < (pl : Int)) :
    Calls Tryz.prog 44 #[.agg #[pv, sv, cv], .agg #[.int .i64 3, .string nm, .slice pa pl pc, .string c, .int .i64 n, .slice a nk cap], .int .i64 d, .pointer (some ⟨L, 0, none⟩)] w (CntP L false 0 w) := by
  obtain ⟨hL, h0, h120, hd1, hd2, hpv, hsv, hcv, hp1, hs1, hc1, hq1, hq2⟩ := hv
  have hLz := lt_of_block hL
  have hc := cell_of_one hL
  have hf := free_of_one hL
  clear hL
  have HP := Lib.hid (hasX hpv hp1)
  have HC := Lib.hid (hasX hcv hc1)
  have g1 : ¬ left - 1 < 0 := by omega
  have g2 : ¬ 12 < d := by omega
  clear hpv hcv hsv
  subst k1
  go_enter Tryz.func44, Tryz.ntmps44
  go_wp2_with (first | (go_at_call_of 71 (Value.string nm); refine (HP.out _ _ (by repeat (first | exact Upd.refl _ _ | refine Upd.alloc ?_ _ | refine Upd.setCell ?_ (fun _ => by simp) _ | refine Upd.drew ?_))).mono ?_; rintro e w' ⟨rfl, rfl⟩) | (go_at_call 71; refine (HC.out _ _ (by repeat (first | exact Upd.refl _ _ | refine Upd.alloc ?_ _ | refine Upd.setCell ?_ (fun _ => by simp) _ | refine Upd.drew ?_))).mono ?_; rintro e w' ⟨rfl, rfl⟩) | (go_at_call 72; refine (in_any _ _).mono ?_; rintro e w' ⟨rfl, rfl⟩))
  go_ret
  exact ⟨rfl, updL2 _ _ _ _ _, fun h => by cases h⟩
set_option maxRecDepth 100000 in
set_option maxHeartbeats 1000000 in
theorem rf3d (hv : REnv ps ss cl pv sv cv pl nk L left d w) (k1 : nk = 0) (k2 : hasB ps nm = true) (k3 : (pl : Int) ≤ 2) (k4 : c.toList.isEmpty = false) :
    Calls Tryz.prog 44 #[.agg #[pv, sv, cv], .agg #[.int .i64 3, .string nm, .slice pa pl pc, .string c, .int .i64 n, .slice a nk cap], .int .i64 d, .pointer (some ⟨L, 0, none⟩)] w (CntP L false 0 w) := by
  obtain ⟨hL, h0, h120, hd1, hd2, hpv, hsv, hcv, hp1, hs1, hc1, hq1, hq2⟩ := hv
  have hLz := lt_of_block hL
  have hc := cell_of_one hL
  have hf := free_of_one hL
  clear hL
  have HP := Lib.hid (hasX hpv hp1)
  have HC := Lib.hid (hasX hcv hc1)
  have g1 : ¬ left - 1 < 0 := by omega
  have g2 : ¬ 12 < d := by omega
  clear hpv hcv hsv
  subst k1
  go_enter Tryz.func44, Tryz.ntmps44
  go_wp2_with (first | (go_at_call_of 71 (Value.string nm); refine (HP.out _ _ (by repeat (first | exact Upd.refl _ _ | refine Upd.alloc ?_ _ | refine Upd.setCell ?_ (fun _ => by simp) _ | refine Upd.drew ?_))).mono ?_; rintro e w' ⟨rfl, rfl⟩) | (go_at_call 71; refine (HC.out _ _ (by repeat (first | exact Upd.refl _ _ | refine Upd.alloc ?_ _ | refine Upd.setCell ?_ (fun _ => by simp) _ | refine Upd.drew ?_))).mono ?_; rintro e w' ⟨rfl, rfl⟩) | (go_at_call 72; refine (in_any _ _).mono ?_; rintro e w' ⟨rfl, rfl⟩))
  go_ret
  exact ⟨rfl, updL2 _ _ _ _ _, fun h => by cases h⟩
set_option maxRecDepth 100000 in
set_option maxHeartbeats 1000000 in
theorem rf3f (hv : REnv ps ss cl pv sv cv pl nk L left d w) (k1 : nk = 0) (k2 : hasB ps nm = true) (k3 : (pl : Int) ≤ 2) (k4 : c.toList.isEmpty = true) (k6 : numB n = false) :
    Calls Tryz.prog 44 #[.agg #[pv, sv, cv], .agg #[.int .i64 3, .string nm, .slice pa pl pc, .string c, .int .i64 n, .slice a nk cap], .int .i64 d, .pointer (some ⟨L, 0, none⟩)] w (CntP L false 0 w) := by
  obtain ⟨hL, h0, h120, hd1, hd2, hpv, hsv, hcv, hp1, hs1, hc1, hq1, hq2⟩ := hv
  have hLz := lt_of_block hL
  have hc := cell_of_one hL
  have hf := free_of_one hL
  clear hL
  have HP := Lib.hid (hasX hpv hp1)
  have HC := Lib.hid (hasX hcv hc1)
  have g1 : ¬ left - 1 < 0 := by omega
  have g2 : ¬ 12 < d := by omega
  clear hpv hcv hsv
  subst k1
  go_enter Tryz.func44, Tryz.ntmps44
  go_wp2_with (first | (go_at_call_of 71 (Value.string nm); refine (HP.out _ _ (by repeat (first | exact Upd.refl _ _ | refine Upd.alloc ?_ _ | refine Upd.setCell ?_ (fun _ => by simp) _ | refine Upd.drew ?_))).mono ?_; rintro e w' ⟨rfl, rfl⟩) | (go_at_call 71; refine (HC.out _ _ (by repeat (first | exact Upd.refl _ _ | refine Upd.alloc ?_ _ | refine Upd.setCell ?_ (fun _ => by simp) _ | refine Upd.drew ?_))).mono ?_; rintro e w' ⟨rfl, rfl⟩) | (go_at_call 72; refine (in_any _ _).mono ?_; rintro e w' ⟨rfl, rfl⟩))
  go_ret
  exact ⟨rfl, updL2 _ _ _ _ _, fun h => by cases h⟩
set_option maxRecDepth 100000 in
set_option maxHeartbeats 1000000 in
theorem rf4a (hv : REnv ps ss cl pv sv cv pl nk L left d w) (k1 : ¬ nk = 0) :
    Calls Tryz.prog 44 #[.agg #[pv, sv, cv], .agg #[.int .i64 4, .string nm, .slice pa pl pc, .string c, .int .i64 n, .slice a nk cap], .int .i64 d, .pointer (some ⟨L, 0, none⟩)] w (CntP L false 0 w) := by
  obtain ⟨hL, h0, h120, hd1, hd2, hpv, hsv, hcv, hp1, hs1, hc1, hq1, hq2⟩ := hv
  have hLz := lt_of_block hL
  have hc := cell_of_one hL
  have hf := free_of_one hL
  clear hL
  have HP := Lib.hid (hasX hpv hp1)
  have HC := Lib.hid (hasX hcv hc1)
  have g1 : ¬ left - 1 < 0 := by omega
  have g2 : ¬ 12 < d := by omega
  clear hpv hcv hsv
  have k1' : ((nk : Int) != 0) = true := by rw [bne_iff_ne]; omega
  have k1'' : ¬ (nk : Int) = 0 := by omega
  go_enter Tryz.func44, Tryz.ntmps44
  go_wp2_with (first | (go_at_call_of 71 (Value.string nm); refine (HP.out _ _ (by repeat (first | exact Upd.refl _ _ | refine Upd.alloc ?_ _ | refine Upd.setCell ?_ (fun _ => by simp) _ | refine Upd.drew ?_))).mono ?_; rintro e w' ⟨rfl, rfl⟩) | (go_at_call 71; refine (HC.out _ _ (by repeat (first | exact Upd.refl _ _ | refine Upd.alloc ?_ _ | refine Upd.setCell ?_ (fun _ => by simp) _ | refine Upd.drew ?_))).mono ?_; rintro e w' ⟨rfl, rfl⟩) | (go_at_call 72; refine (in_any _ _).mono ?_; rintro e w' ⟨rfl, rfl⟩))
  go_ret
  exact ⟨rfl, updL2 _ _ _ _ _, fun h => by cases h⟩
set_option maxRecDepth 100000 in
set_option maxHeartbeats 1000000 in
theorem rf4b (hv : REnv ps ss cl pv sv cv pl nk L left d w) (k1 : nk = 0) (k2 : hasB ps nm = false) :
    Calls Tryz.prog 44 #[.agg #[pv, sv, cv], .agg #[.int .i64 4, .string nm, .slice pa pl pc, .string c, .int .i64 n, .slice a nk cap], .int .i64 d, .pointer (some ⟨L, 0, none⟩)] w (CntP L false 0 w) := by
  obtain ⟨hL, h0, h120, hd1, hd2, hpv, hsv, hcv, hp1, hs1, hc1, hq1, hq2⟩ := hv
  have hLz := lt_of_block hL
  have hc := cell_of_one hL
  have hf := free_of_one hL
  clear hL
  have HP := Lib.hid (hasX hpv hp1)
  have HC := Lib.hid (hasX hcv hc1)
  have g1 : ¬ left - 1 < 0 := by omega
  have g2 : ¬ 12 < d := by omega
  clear hpv hcv hsv
  subst k1
  go_enter Tryz.func44, Tryz.ntmps44
  go_wp2_with (first | (go_at_call_of 71 (Value.string nm); refine (HP.out _ _ (by repeat (first | exact Upd.refl _ _ | refine Upd.alloc ?_ _ | refine Upd.setCell ?_ (fun _ => by simp) _ | refine Upd.drew ?_))).mono ?_; rintro e w' ⟨rfl, rfl⟩) | (go_at_call 71; refine (HC.out _ _ (by repeat (first | exact Upd.refl _ _ | refine Upd.alloc ?_ _ | refine Upd.setCell ?_ (fun _ => by simp) _ | refine Upd.drew ?_))).mono ?_; rintro e w' ⟨rfl, rfl⟩) | (go_at_call 72; refine (in_any _ _).mono ?_; rintro e w' ⟨rfl, rfl⟩))
  go_ret
  exact ⟨rfl, updL2 _ _ _ _ _, fun h => by cases h⟩
set_option maxRecDepth 100000 in
set_option maxHeartbeats 1000000 in
theorem rf4c (hv : REnv ps ss cl pv sv cv pl nk L left d w) (k1 : nk = 0) (k2 : hasB ps nm = true) (k3 : 2 < (pl : Int)) :
    Calls Tryz.prog 44 #[.agg #[pv, sv, cv], .agg #[.int .i64 4, .string nm, .slice pa pl pc, .string c, .int .i64 n, .slice a nk cap], .int .i64 d, .pointer (some ⟨L, 0, none⟩)] w (CntP L false 0 w) := by
  obtain ⟨hL, h0, h120, hd1, hd2, hpv, hsv, hcv, hp1, hs1, hc1, hq1, hq2⟩ := hv
  have hLz := lt_of_block hL
  have hc := cell_of_one hL
  have hf := free_of_one hL
  clear hL
  have HP := Lib.hid (hasX hpv hp1)
  have HC := Lib.hid (hasX hcv hc1)
  have g1 : ¬ left - 1 < 0 := by omega
  have g2 : ¬ 12 < d := by omega
  clear hpv hcv hsv
  subst k1
  go_enter Tryz.func44, Tryz.ntmps44
  go_wp2_with (first | (go_at_call_of 71 (Value.string nm); refine (HP.out _ _ (by repeat (first | exact Upd.refl _ _ | refine Upd.alloc ?_ _ | refine Upd.setCell ?_ (fun _ => by simp) _ | refine Upd.drew ?_))).mono ?_; rintro e w' ⟨rfl, rfl⟩) | (go_at_call 71; refine (HC.out _ _ (by repeat (first | exact Upd.refl _ _ | refine Upd.alloc ?_ _ | refine Upd.setCell ?_ (fun _ => by simp) _ | refine Upd.drew ?_))).mono ?_; rintro e w' ⟨rfl, rfl⟩) | (go_at_call 72; refine (in_any _ _).mono ?_; rintro e w' ⟨rfl, rfl⟩))
  go_ret
  exact ⟨rfl, updL2 _ _ _ _ _, fun h => by cases h⟩
set_option maxRecDepth 100000 in
set_option maxHeartbeats 1000000 in
theorem rf4d (hv : REnv ps ss cl pv sv cv pl nk L left d w) (k1 : nk = 0) (k2 : hasB ps nm = true) (k3 : (pl : Int) ≤ 2) (k4 : c.toList.isEmpty = false) :
    Calls Tryz.prog 44 #[.agg #[pv, sv, cv], .agg #[.int .i64 4, .string nm, .slice pa pl pc, .string c, .int .i64 n, .slice a nk cap], .int .i64 d, .pointer (some ⟨L, 0, none⟩)] w (CntP L false 0 w) := by
  obtain ⟨hL, h0, h120, hd1, hd2, hpv, hsv, hcv, hp1, hs1, hc1, hq1, hq2⟩ := hv
  have hLz := lt_of_block hL
  have hc := cell_of_one hL
  have hf := free_of_one hL
  clear hL
  have HP := Lib.hid (hasX hpv hp1)
  have HC := Lib.hid (hasX hcv hc1)
  have g1 : ¬ left - 1 < 0 := by omega
  have g2 : ¬ 12 < d := by omega
  clear hpv hcv hsv
  subst k1
  go_enter Tryz.func44, Tryz.ntmps44
  go_wp2_with (first | (go_at_call_of 71 (Value.string nm); refine (HP.out _ _ (by repeat (first | exact Upd.refl _ _ | refine Upd.alloc ?_ _ | refine Upd.setCell ?_ (fun _ => by simp) _ | refine Upd.drew ?_))).mono ?_; rintro e w' ⟨rfl, rfl⟩) | (go_at_call 71; refine (HC.out _ _ (by repeat (first | exact Upd.refl _ _ | refine Upd.alloc ?_ _ | refine Upd.setCell ?_ (fun _ => by simp) _ | refine Upd.drew ?_))).mono ?_; rintro e w' ⟨rfl, rfl⟩) | (go_at_call 72; refine (in_any _ _).mono ?_; rintro e w' ⟨rfl, rfl⟩))
  go_ret
  exact ⟨rfl, updL2 _ _ _ _ _, fun h => by cases h⟩
set_option maxRecDepth 100000 in
set_option maxHeartbeats 1000000 in
theorem rf4f (hv : REnv ps ss cl pv sv cv pl nk L left d w) (k1 : nk = 0) (k2 : hasB ps nm = true) (k3 : (pl : Int) ≤ 2) (k4 : c.toList.isEmpty = true) (k6 : numB n = false) :
    Calls Tryz.prog 44 #[.agg #[pv, sv, cv], .agg #[.int .i64 4, .string nm, .slice pa pl pc, .string c, .int .i64 n, .slice a nk cap], .int .i64 d, .pointer (some ⟨L, 0, none⟩)] w (CntP L false 0 w) := by
  obtain ⟨hL, h0, h120, hd1, hd2, hpv, hsv, hcv, hp1, hs1, hc1, hq1, hq2⟩ := hv
  have hLz := lt_of_block hL
  have hc := cell_of_one hL
  have hf := free_of_one hL
  clear hL
  have HP := Lib.hid (hasX hpv hp1)
  have HC := Lib.hid (hasX hcv hc1)
  have g1 : ¬ left - 1 < 0 := by omega
  have g2 : ¬ 12 < d := by omega
  clear hpv hcv hsv
  subst k1
  go_enter Tryz.func44, Tryz.ntmps44
  go_wp2_with (first | (go_at_call_of 71 (Value.string nm); refine (HP.out _ _ (by repeat (first | exact Upd.refl _ _ | refine Upd.alloc ?_ _ | refine Upd.setCell ?_ (fun _ => by simp) _ | refine Upd.drew ?_))).mono ?_; rintro e w' ⟨rfl, rfl⟩) | (go_at_call 71; refine (HC.out _ _ (by repeat (first | exact Upd.refl _ _ | refine Upd.alloc ?_ _ | refine Upd.setCell ?_ (fun _ => by simp) _ | refine Upd.drew ?_))).mono ?_; rintro e w' ⟨rfl, rfl⟩) | (go_at_call 72; refine (in_any _ _).mono ?_; rintro e w' ⟨rfl, rfl⟩))
  go_ret
  exact ⟨rfl, updL2 _ _ _ _ _, fun h => by cases h⟩
set_option maxRecDepth 100000 in
set_option maxHeartbeats 1000000 in
theorem rf5a (hv : REnv ps ss cl pv sv cv pl nk L left d w) (k1 : ¬ nk = 1) :
    Calls Tryz.prog 44 #[.agg #[pv, sv, cv], .agg #[.int .i64 5, .string nm, .slice pa pl pc, .string c, .int .i64 n, .slice a nk cap], .int .i64 d, .pointer (some ⟨L, 0, none⟩)] w (CntP L false 0 w) := by
  obtain ⟨hL, h0, h120, hd1, hd2, hpv, hsv, hcv, hp1, hs1, hc1, hq1, hq2⟩ := hv
  have hLz := lt_of_block hL
  have hc := cell_of_one hL
  have hf := free_of_one hL
  clear hL
  have HP := Lib.hid (hasX hpv hp1)
  have HC := Lib.hid (hasX hcv hc1)
  have g1 : ¬ left - 1 < 0 := by omega
  have g2 : ¬ 12 < d := by omega
  clear hpv hcv hsv
  have k1' : ((nk : Int) != 1) = true := by rw [bne_iff_ne]; omega
  have k1'' : ¬ (nk : Int) = 1 := by omega
  go_enter Tryz.func44, Tryz.ntmps44
  go_wp2_with (first | (go_at_call_of 71 (Value.string nm); refine (HP.out _ _ (by repeat (first | exact Upd.refl _ _ | refine Upd.alloc ?_ _ | refine Upd.setCell ?_ (fun _ => by simp) _ | refine Upd.drew ?_))).mono ?_; rintro e w' ⟨rfl, rfl⟩) | (go_at_call 71; refine (HC.out _ _ (by repeat (first | exact Upd.refl _ _ | refine Upd.alloc ?_ _ | refine Upd.setCell ?_ (fun _ => by simp) _ | refine Upd.drew ?_))).mono ?_; rintro e w' ⟨rfl, rfl⟩) | (go_at_call 72; refine (in_any _ _).mono ?_; rintro e w' ⟨rfl, rfl⟩))
  go_ret
  exact ⟨rfl, updL2 _ _ _ _ _, fun h => by cases h⟩
set_option maxRecDepth 100000 in
set_option maxHeartbeats 1000000 in
theorem rf5b (hv : REnv ps ss cl pv sv cv pl nk L left d w) (k1 : nk = 1) (k2 : nm.toList.isEmpty = false) :
    Calls Tryz.prog 44 #[.agg #[pv, sv, cv], .agg #[.int .i64 5, .string nm, .slice pa pl pc, .string c, .int .i64 n, .slice a nk cap], .int .i64 d, .pointer (some ⟨L, 0, none⟩)] w (CntP L false 0 w) := by
  obtain ⟨hL, h0, h120, hd1, hd2, hpv, hsv, hcv, hp1, hs1, hc1, hq1, hq2⟩ := hv
  have hLz := lt_of_block hL
  have hc := cell_of_one hL
  have hf := free_of_one hL
  clear hL
  have HP := Lib.hid (hasX hpv hp1)
  have HC := Lib.hid (hasX hcv hc1)
  have g1 : ¬ left - 1 < 0 := by omega
  have g2 : ¬ 12 < d := by omega
  clear hpv hcv hsv
  subst k1
  go_enter Tryz.func44, Tryz.ntmps44
  go_wp2_with (first | (go_at_call_of 71 (Value.string nm); refine (HP.out _ _ (by repeat (first | exact Upd.refl _ _ | refine Upd.alloc ?_ _ | refine Upd.setCell ?_ (fun _ => by simp) _ | refine Upd.drew ?_))).mono ?_; rintro e w' ⟨rfl, rfl⟩) | (go_at_call 71; refine (HC.out _ _ (by repeat (first | exact Upd.refl _ _ | refine Upd.alloc ?_ _ | refine Upd.setCell ?_ (fun _ => by simp) _ | refine Upd.drew ?_))).mono ?_; rintro e w' ⟨rfl, rfl⟩) | (go_at_call 72; refine (in_any _ _).mono ?_; rintro e w' ⟨rfl, rfl⟩))
  go_ret
  exact ⟨rfl, updL2 _ _ _ _ _, fun h => by cases h⟩
set_option maxRecDepth 100000 in
set_option maxHeartbeats 1000000 in
theorem rf5c (hv : REnv ps ss cl pv sv cv pl nk L left d w) (k1 : nk = 1) (k2 : nm.toList.isEmpty = true) (k3 : 0 < pl) :
    Calls Tryz.prog 44 #[.agg #[pv, sv, cv], .agg #[.int .i64 5, .string nm, .slice pa pl pc, .string c, .int .i64 n, .slice a nk cap], .int .i64 d, .pointer (some ⟨L, 0, none⟩)] w (CntP L false 0 w) := by
  obtain ⟨hL, h0, h120, hd1, hd2, hpv, hsv, hcv, hp1, hs1, hc1, hq1, hq2⟩ := hv
  have hLz := lt_of_block hL
  have hc := cell_of_one hL
  have hf := free_of_one hL
  clear hL
  have HP := Lib.hid (hasX hpv hp1)
  have HC := Lib.hid (hasX hcv hc1)
  have g1 : ¬ left - 1 < 0 := by omega
  have g2 : ¬ 12 < d := by omega
  clear hpv hcv hsv
  subst k1
  have k3' : 0 < (pl : Int) := by omega
  go_enter Tryz.func44, Tryz.ntmps44
  go_wp2_with (first | (go_at_call_of 71 (Value.string nm); refine (HP.out _ _ (by repeat (first | exact Upd.refl _ _ | refine Upd.alloc ?_ _ | refine Upd.setCell ?_ (fun _ => by simp) _ | refine Upd.drew ?_))).mono ?_; rintro e w' ⟨rfl, rfl⟩) | (go_at_call 71; refine (HC.out _ _ (by repeat (first | exact Upd.refl _ _ | refine Upd.alloc ?_ _ | refine Upd.setCell ?_ (fun _ => by simp) _ | refine Upd.drew ?_))).mono ?_; rintro e w' ⟨rfl, rfl⟩) | (go_at_call 72; refine (in_any _ _).mono ?_; rintro e w' ⟨rfl, rfl⟩))
  go_ret
  exact ⟨rfl, updL2 _ _ _ _ _, fun h => by cases h⟩
set_option maxRecDepth 100000 in
set_option maxHeartbeats 1000000 in
theorem rf5d (hv : REnv ps ss cl pv sv cv pl nk L left d w) (k1 : nk = 1) (k2 : nm.toList.isEmpty = true) (k3 : pl = 0) (k4 : c.toList.isEmpty = false) :
    Calls Tryz.prog 44 #[.agg #[pv, sv, cv], .agg #[.int .i64 5, .string nm, .slice pa pl pc, .string c, .int .i64 n, .slice a nk cap], .int .i64 d, .pointer (some ⟨L, 0, none⟩)] w (CntP L false 0 w) := by
  obtain ⟨hL, h0, h120, hd1, hd2, hpv, hsv, hcv, hp1, hs1, hc1, hq1, hq2⟩ := hv
  have hLz := lt_of_block hL
  have hc := cell_of_one hL
  have hf := free_of_one hL
  clear hL
  have HP := Lib.hid (hasX hpv hp1)
  have HC := Lib.hid (hasX hcv hc1)
  have g1 : ¬ left - 1 < 0 := by omega
  have g2 : ¬ 12 < d := by omega
  clear hpv hcv hsv
  subst k1
  subst k3
  go_enter Tryz.func44, Tryz.ntmps44
  go_wp2_with (first | (go_at_call_of 71 (Value.string nm); refine (HP.out _ _ (by repeat (first | exact Upd.refl _ _ | refine Upd.alloc ?_ _ | refine Upd.setCell ?_ (fun _ => by simp) _ | refine Upd.drew ?_))).mono ?_; rintro e w' ⟨rfl, rfl⟩) | (go_at_call 71; refine (HC.out _ _ (by repeat (first | exact Upd.refl _ _ | refine Upd.alloc ?_ _ | refine Upd.setCell ?_ (fun _ => by simp) _ | refine Upd.drew ?_))).mono ?_; rintro e w' ⟨rfl, rfl⟩) | (go_at_call 72; refine (in_any _ _).mono ?_; rintro e w' ⟨rfl, rfl⟩))
  go_ret
  exact ⟨rfl, updL2 _ _ _ _ _, fun h => by cases h⟩
set_option maxRecDepth 100000 in
set_option maxHeartbeats 1000000 in
theorem rf5f (hv : REnv ps ss cl pv sv cv pl nk L left d w) (k1 : nk = 1) (k2 : nm.toList.isEmpty = true) (k3 : pl = 0) (k4 : c.toList.isEmpty = true) (k6 : ¬ n = 0) :
    Calls Tryz.prog 44 #[.agg #[pv, sv, cv], .agg #[.int .i64 5, .string nm, .slice pa pl pc, .string c, .int .i64 n, .slice a nk cap], .int .i64 d, .pointer (some ⟨L, 0, none⟩)] w (CntP L false 0 w) := by
  obtain ⟨hL, h0, h120, hd1, hd2, hpv, hsv, hcv, hp1, hs1, hc1, hq1, hq2⟩ := hv
  have hLz := lt_of_block hL
  have hc := cell_of_one hL
  have hf := free_of_one hL
  clear hL
  have HP := Lib.hid (hasX hpv hp1)
  have HC := Lib.hid (hasX hcv hc1)
  have g1 : ¬ left - 1 < 0 := by omega
  have g2 : ¬ 12 < d := by omega
  clear hpv hcv hsv
  subst k1
  subst k3
  go_enter Tryz.func44, Tryz.ntmps44
  go_wp2_with (first | (go_at_call_of 71 (Value.string nm); refine (HP.out _ _ (by repeat (first | exact Upd.refl _ _ | refine Upd.alloc ?_ _ | refine Upd.setCell ?_ (fun _ => by simp) _ | refine Upd.drew ?_))).mono ?_; rintro e w' ⟨rfl, rfl⟩) | (go_at_call 71; refine (HC.out _ _ (by repeat (first | exact Upd.refl _ _ | refine Upd.alloc ?_ _ | refine Upd.setCell ?_ (fun _ => by simp) _ | refine Upd.drew ?_))).mono ?_; rintro e w' ⟨rfl, rfl⟩) | (go_at_call 72; refine (in_any _ _).mono ?_; rintro e w' ⟨rfl, rfl⟩))
  go_ret
  exact ⟨rfl, updL2 _ _ _ _ _, fun h => by cases h⟩
set_option maxRecDepth 100000 in
set_option maxHeartbeats 1000000 in
theorem rf6a (hv : REnv ps ss cl pv sv cv pl nk L left d w) (k1 : ¬ nk = 2) :
    Calls Tryz.prog 44 #[.agg #[pv, sv, cv], .agg #[.int .i64 6, .string nm, .slice pa pl pc, .string c, .int .i64 n, .slice a nk cap], .int .i64 d, .pointer (some ⟨L, 0, none⟩)] w (CntP L false 0 w) := by
  obtain ⟨hL, h0, h120, hd1, hd2, hpv, hsv, hcv, hp1, hs1, hc1, hq1, hq2⟩ := hv
  have hLz := lt_of_block hL
  have hc := cell_of_one hL
  have hf := free_of_one hL
  clear hL
  have HP := Lib.hid (hasX hpv hp1)
  have HC := Lib.hid (hasX hcv hc1)
  have g1 : ¬ left - 1 < 0 := by omega
  have g2 : ¬ 12 < d := by omega
  clear hpv hcv hsv
  have k1' : ((nk : Int) != 2) = true := by rw [bne_iff_ne]; omega
  have k1'' : ¬ (nk : Int) = 2 := by omega
  go_enter Tryz.func44, Tryz.ntmps44
  go_wp2_with (first | (go_at_call_of 71 (Value.string nm); refine (HP.out _ _ (by repeat (first | exact Upd.refl _ _ | refine Upd.alloc ?_ _ | refine Upd.setCell ?_ (fun _ => by simp) _ | refine Upd.drew ?_))).mono ?_; rintro e w' ⟨rfl, rfl⟩) | (go_at_call 71; refine (HC.out _ _ (by repeat (first | exact Upd.refl _ _ | refine Upd.alloc ?_ _ | refine Upd.setCell ?_ (fun _ => by simp) _ | refine Upd.drew ?_))).mono ?_; rintro e w' ⟨rfl, rfl⟩) | (go_at_call 72; refine (in_any _ _).mono ?_; rintro e w' ⟨rfl, rfl⟩))
  go_ret
  exact ⟨rfl, updL2 _ _ _ _ _, fun h => by cases h⟩
set_option maxRecDepth 100000 in
set_option maxHeartbeats 1000000 in
theorem rf6b (hv : REnv ps ss cl pv sv cv pl nk L left d w) (k1 : nk = 2) (k2 : nm.toList.isEmpty = false) :
    Calls Tryz.prog 44 #[.agg #[pv, sv, cv], .agg #[.int .i64 6, .string nm, .slice pa pl pc, .string c, .int .i64 n, .slice a nk cap], .int .i64 d, .pointer (some ⟨L, 0, none⟩)] w (CntP L false 0 w) := by
  obtain ⟨hL, h0, h120, hd1, hd2, hpv, hsv, hcv, hp1, hs1, hc1, hq1, hq2⟩ := hv
  have hLz := lt_of_block hL
  have hc := cell_of_one hL
  have hf := free_of_one hL
  clear hL
  have HP := Lib.hid (hasX hpv hp1)
  have HC := Lib.hid (hasX hcv hc1)
  have g1 : ¬ left - 1 < 0 := by omega
  have g2 : ¬ 12 < d := by omega
  clear hpv hcv hsv
  subst k1
  go_enter Tryz.func44, Tryz.ntmps44
  go_wp2_with (first | (go_at_call_of 71 (Value.string nm); refine (HP.out _ _ (by repeat (first | exact Upd.refl _ _ | refine Upd.alloc ?_ _ | refine Upd.setCell ?_ (fun _ => by simp) _ | refine Upd.drew ?_))).mono ?_; rintro e w' ⟨rfl, rfl⟩) | (go_at_call 71; refine (HC.out _ _ (by repeat (first | exact Upd.refl _ _ | refine Upd.alloc ?_ _ | refine Upd.setCell ?_ (fun _ => by simp) _ | refine Upd.drew ?_))).mono ?_; rintro e w' ⟨rfl, rfl⟩) | (go_at_call 72; refine (in_any _ _).mono ?_; rintro e w' ⟨rfl, rfl⟩))
  go_ret
  exact ⟨rfl, updL2 _ _ _ _ _, fun h => by cases h⟩
set_option maxRecDepth 100000 in
set_option maxHeartbeats 1000000 in
theorem rf6c (hv : REnv ps ss cl pv sv cv pl nk L left d w) (k1 : nk = 2) (k2 : nm.toList.isEmpty = true) (k3 : 0 < pl) :
    Calls Tryz.prog 44 #[.agg #[pv, sv, cv], .agg #[.int .i64 6, .string nm, .slice pa pl pc, .string c, .int .i64 n, .slice a nk cap], .int .i64 d, .pointer (some ⟨L, 0, none⟩)] w (CntP L false 0 w) := by
  obtain ⟨hL, h0, h120, hd1, hd2, hpv, hsv, hcv, hp1, hs1, hc1, hq1, hq2⟩ := hv
  have hLz := lt_of_block hL
  have hc := cell_of_one hL
  have hf := free_of_one hL
  clear hL
  have HP := Lib.hid (hasX hpv hp1)
  have HC := Lib.hid (hasX hcv hc1)
  have g1 : ¬ left - 1 < 0 := by omega
  have g2 : ¬ 12 < d := by omega
  clear hpv hcv hsv
  subst k1
  have k3' : 0 < (pl : Int) := by omega
  go_enter Tryz.func44, Tryz.ntmps44
  go_wp2_with (first | (go_at_call_of 71 (Value.string nm); refine (HP.out _ _ (by repeat (first | exact Upd.refl _ _ | refine Upd.alloc ?_ _ | refine Upd.setCell ?_ (fun _ => by simp) _ | refine Upd.drew ?_))).mono ?_; rintro e w' ⟨rfl, rfl⟩) | (go_at_call 71; refine (HC.out _ _ (by repeat (first | exact Upd.refl _ _ | refine Upd.alloc ?_ _ | refine Upd.setCell ?_ (fun _ => by simp) _ | refine Upd.drew ?_))).mono ?_; rintro e w' ⟨rfl, rfl⟩) | (go_at_call 72; refine (in_any _ _).mono ?_; rintro e w' ⟨rfl, rfl⟩))
  go_ret
  exact ⟨rfl, updL2 _ _ _ _ _, fun h => by cases h⟩
set_option maxRecDepth 100000 in
set_option maxHeartbeats 1000000 in
theorem rf6d (hv : REnv ps ss cl pv sv cv pl nk L left d w) (k1 : nk = 2) (k2 : nm.toList.isEmpty = true) (k3 : pl = 0) (k4 : c.toList.isEmpty = false) :
    Calls Tryz.prog 44 #[.agg #[pv, sv, cv], .agg #[.int .i64 6, .string nm, .slice pa pl pc, .string c, .int .i64 n, .slice a nk cap], .int .i64 d, .pointer (some ⟨L, 0, none⟩)] w (CntP L false 0 w) := by
  obtain ⟨hL, h0, h120, hd1, hd2, hpv, hsv, hcv, hp1, hs1, hc1, hq1, hq2⟩ := hv
  have hLz := lt_of_block hL
  have hc := cell_of_one hL
  have hf := free_of_one hL
  clear hL
  have HP := Lib.hid (hasX hpv hp1)
  have HC := Lib.hid (hasX hcv hc1)
  have g1 : ¬ left - 1 < 0 := by omega
  have g2 : ¬ 12 < d := by omega
  clear hpv hcv hsv
  subst k1
  subst k3
  go_enter Tryz.func44, Tryz.ntmps44
  go_wp2_with (first | (go_at_call_of 71 (Value.string nm); refine (HP.out _ _ (by repeat (first | exact Upd.refl _ _ | refine Upd.alloc ?_ _ | refine Upd.setCell ?_ (fun _ => by simp) _ | refine Upd.drew ?_))).mono ?_; rintro e w' ⟨rfl, rfl⟩) | (go_at_call 71; refine (HC.out _ _ (by repeat (first | exact Upd.refl _ _ | refine Upd.alloc ?_ _ | refine Upd.setCell ?_ (fun _ => by simp) _ | refine Upd.drew ?_))).mono ?_; rintro e w' ⟨rfl, rfl⟩) | (go_at_call 72; refine (in_any _ _).mono ?_; rintro e w' ⟨rfl, rfl⟩))
  go_ret
  exact ⟨rfl, updL2 _ _ _ _ _, fun h => by cases h⟩
set_option maxRecDepth 100000 in
set_option maxHeartbeats 1000000 in
theorem rf6f (hv : REnv ps ss cl pv sv cv pl nk L left d w) (k1 : nk = 2) (k2 : nm.toList.isEmpty = true) (k3 : pl = 0) (k4 : c.toList.isEmpty = true) (k6 : ¬ n = 0) :
    Calls Tryz.prog 44 #[.agg #[pv, sv, cv], .agg #[.int .i64 6, .string nm, .slice pa pl pc, .string c, .int .i64 n, .slice a nk cap], .int .i64 d, .pointer (some ⟨L, 0, none⟩)] w (CntP L false 0 w) := by
  obtain ⟨hL, h0, h120, hd1, hd2, hpv, hsv, hcv, hp1, hs1, hc1, hq1, hq2⟩ := hv
  have hLz := lt_of_block hL
  have hc := cell_of_one hL
  have hf := free_of_one hL
  clear hL
  have HP := Lib.hid (hasX hpv hp1)
  have HC := Lib.hid (hasX hcv hc1)
  have g1 : ¬ left - 1 < 0 := by omega
  have g2 : ¬ 12 < d := by omega
  clear hpv hcv hsv
  subst k1
  subst k3
  go_enter Tryz.func44, Tryz.ntmps44
  go_wp2_with (first | (go_at_call_of 71 (Value.string nm); refine (HP.out _ _ (by repeat (first | exact Upd.refl _ _ | refine Upd.alloc ?_ _ | refine Upd.setCell ?_ (fun _ => by simp) _ | refine Upd.drew ?_))).mono ?_; rintro e w' ⟨rfl, rfl⟩) | (go_at_call 71; refine (HC.out _ _ (by repeat (first | exact Upd.refl _ _ | refine Upd.alloc ?_ _ | refine Upd.setCell ?_ (fun _ => by simp) _ | refine Upd.drew ?_))).mono ?_; rintro e w' ⟨rfl, rfl⟩) | (go_at_call 72; refine (in_any _ _).mono ?_; rintro e w' ⟨rfl, rfl⟩))
  go_ret
  exact ⟨rfl, updL2 _ _ _ _ _, fun h => by cases h⟩
set_option maxRecDepth 100000 in
set_option maxHeartbeats 1000000 in
theorem rf7a (hv : REnv ps ss cl pv sv cv pl nk L left d w) (k1 : ¬ nk = 2) :
    Calls Tryz.prog 44 #[.agg #[pv, sv, cv], .agg #[.int .i64 7, .string nm, .slice pa pl pc, .string c, .int .i64 n, .slice a nk cap], .int .i64 d, .pointer (some ⟨L, 0, none⟩)] w (CntP L false 0 w) := by
  obtain ⟨hL, h0, h120, hd1, hd2, hpv, hsv, hcv, hp1, hs1, hc1, hq1, hq2⟩ := hv
  have hLz := lt_of_block hL
  have hc := cell_of_one hL
  have hf := free_of_one hL
  clear hL
  have HP := Lib.hid (hasX hpv hp1)
  have HC := Lib.hid (hasX hcv hc1)
  have g1 : ¬ left - 1 < 0 := by omega
  have g2 : ¬ 12 < d := by omega
  clear hpv hcv hsv
  have k1' : ((nk : Int) != 2) = true := by rw [bne_iff_ne]; omega
  have k1'' : ¬ (nk : Int) = 2 := by omega
  go_enter Tryz.func44, Tryz.ntmps44
  go_wp2_with (first | (go_at_call_of 71 (Value.string nm); refine (HP.out _ _ (by repeat (first | exact Upd.refl _ _ | refine Upd.alloc ?_ _ | refine Upd.setCell ?_ (fun _ => by simp) _ | refine Upd.drew ?_))).mono ?_; rintro e w' ⟨rfl, rfl⟩) | (go_at_call 71; refine (HC.out _ _ (by repeat (first | exact Upd.refl _ _ | refine Upd.alloc ?_ _ | refine Upd.setCell ?_ (fun _ => by simp) _ | refine Upd.drew ?_))).mono ?_; rintro e w' ⟨rfl, rfl⟩) | (go_at_call 72; refine (in_any _ _).mono ?_; rintro e w' ⟨rfl, rfl⟩))
  go_ret
  exact ⟨rfl, updL2 _ _ _ _ _, fun h => by cases h⟩
set_option maxRecDepth 100000 in
set_option maxHeartbeats 1000000 in
theorem rf7b (hv : REnv ps ss cl pv sv cv pl nk L left d w) (k1 : nk = 2) (k2 : nm.toList.isEmpty = false) :
    Calls Tryz.prog 44 #[.agg #[pv, sv, cv], .agg #[.int .i64 7, .string nm, .slice pa pl pc, .string c, .int .i64 n, .slice a nk cap], .int .i64 d, .pointer (some ⟨L, 0, none⟩)] w (CntP L false 0 w) := by
  obtain ⟨hL, h0, h120, hd1, hd2, hpv, hsv, hcv, hp1, hs1, hc1, hq1, hq2⟩ := hv
  have hLz := lt_of_block hL
  have hc := cell_of_one hL
  have hf := free_of_one hL
  clear hL
  have HP := Lib.hid (hasX hpv hp1)
  have HC := Lib.hid (hasX hcv hc1)
  have g1 : ¬ left - 1 < 0 := by omega
  have g2 : ¬ 12 < d := by omega
  clear hpv hcv hsv
  subst k1
  go_enter Tryz.func44, Tryz.ntmps44
  go_wp2_with (first | (go_at_call_of 71 (Value.string nm); refine (HP.out _ _ (by repeat (first | exact Upd.refl _ _ | refine Upd.alloc ?_ _ | refine Upd.setCell ?_ (fun _ => by simp) _ | refine Upd.drew ?_))).mono ?_; rintro e w' ⟨rfl, rfl⟩) | (go_at_call 71; refine (HC.out _ _ (by repeat (first | exact Upd.refl _ _ | refine Upd.alloc ?_ _ | refine Upd.setCell ?_ (fun _ => by simp) _ | refine Upd.drew ?_))).mono ?_; rintro e w' ⟨rfl, rfl⟩) | (go_at_call 72; refine (in_any _ _).mono ?_; rintro e w' ⟨rfl, rfl⟩))
  go_ret
  exact ⟨rfl, updL2 _ _ _ _ _, fun h => by cases h⟩
set_option maxRecDepth 100000 in
set_option maxHeartbeats 1000000 in
theorem rf7c (hv : REnv ps ss cl pv sv cv pl nk L left d w) (k1 : nk = 2) (k2 : nm.toList.isEmpty = true) (k3 : 0 < pl) :
    Calls Tryz.prog 44 #[.agg #[pv, sv, cv], .agg #[.int .i64 7, .string nm, .slice pa pl pc, .string c, .int .i64 n, .slice a nk cap], .int .i64 d, .pointer (some ⟨L, 0, none⟩)] w (CntP L false 0 w) := by
  obtain ⟨hL, h0, h120, hd1, hd2, hpv, hsv, hcv, hp1, hs1, hc1, hq1, hq2⟩ := hv
  have hLz := lt_of_block hL
  have hc := cell_of_one hL
  have hf := free_of_one hL
  clear hL
  have HP := Lib.hid (hasX hpv hp1)
  have HC := Lib.hid (hasX hcv hc1)
  have g1 : ¬ left - 1 < 0 := by omega
  have g2 : ¬ 12 < d := by omega
  clear hpv hcv hsv
  subst k1
  have k3' : 0 < (pl : Int) := by omega
  go_enter Tryz.func44, Tryz.ntmps44
  go_wp2_with (first | (go_at_call_of 71 (Value.string nm); refine (HP.out _ _ (by repeat (first | exact Upd.refl _ _ | refine Upd.alloc ?_ _ | refine Upd.setCell ?_ (fun _ => by simp) _ | refine Upd.drew ?_))).mono ?_; rintro e w' ⟨rfl, rfl⟩) | (go_at_call 71; refine (HC.out _ _ (by repeat (first | exact Upd.refl _ _ | refine Upd.alloc ?_ _ | refine Upd.setCell ?_ (fun _ => by simp) _ | refine Upd.drew ?_))).mono ?_; rintro e w' ⟨rfl, rfl⟩) | (go_at_call 72; refine (in_any _ _).mono ?_; rintro e w' ⟨rfl, rfl⟩))
  go_ret
  exact ⟨rfl, updL2 _ _ _ _ _, fun h => by cases h⟩
set_option maxRecDepth 100000 in
set_option maxHeartbeats 1000000 in
theorem rf7d (hv : REnv ps ss cl pv sv cv pl nk L left d w) (k1 : nk = 2) (k2 : nm.toList.isEmpty = true) (k3 : pl = 0) (k4 : c.toList.isEmpty = false) :
    Calls Tryz.prog 44 #[.agg #[pv, sv, cv], .agg #[.int .i64 7, .string nm, .slice pa pl pc, .string c, .int .i64 n, .slice a nk cap], .int .i64 d, .pointer (some ⟨L, 0, none⟩)] w (CntP L false 0 w) := by
  obtain ⟨hL, h0, h120, hd1, hd2, hpv, hsv, hcv, hp1, hs1, hc1, hq1, hq2⟩ := hv
  have hLz := lt_of_block hL
  have hc := cell_of_one hL
  have hf := free_of_one hL
  clear hL
  have HP := Lib.hid (hasX hpv hp1)
  have HC := Lib.hid (hasX hcv hc1)
  have g1 : ¬ left - 1 < 0 := by omega
  have g2 : ¬ 12 < d := by omega
  clear hpv hcv hsv
  subst k1
  subst k3
  go_enter Tryz.func44, Tryz.ntmps44
  go_wp2_with (first | (go_at_call_of 71 (Value.string nm); refine (HP.out _ _ (by repeat (first | exact Upd.refl _ _ | refine Upd.alloc ?_ _ | refine Upd.setCell ?_ (fun _ => by simp) _ | refine Upd.drew ?_))).mono ?_; rintro e w' ⟨rfl, rfl⟩) | (go_at_call 71; refine (HC.out _ _ (by repeat (first | exact Upd.refl _ _ | refine Upd.alloc ?_ _ | refine Upd.setCell ?_ (fun _ => by simp) _ | refine Upd.drew ?_))).mono ?_; rintro e w' ⟨rfl, rfl⟩) | (go_at_call 72; refine (in_any _ _).mono ?_; rintro e w' ⟨rfl, rfl⟩))
  go_ret
  exact ⟨rfl, updL2 _ _ _ _ _, fun h => by cases h⟩
set_option maxRecDepth 100000 in
set_option maxHeartbeats 1000000 in
theorem rf7f (hv : REnv ps ss cl pv sv cv pl nk L left d w) (k1 : nk = 2) (k2 : nm.toList.isEmpty = true) (k3 : pl = 0) (k4 : c.toList.isEmpty = true) (k6 : ¬ n = 0) :
    Calls Tryz.prog 44 #[.agg #[pv, sv, cv], .agg #[.int .i64 7, .string nm, .slice pa pl pc, .string c, .int .i64 n, .slice a nk cap], .int .i64 d, .pointer (some ⟨L, 0, none⟩)] w (CntP L false 0 w) := by
  obtain ⟨hL, h0, h120, hd1, hd2, hpv, hsv, hcv, hp1, hs1, hc1, hq1, hq2⟩ := hv
  have hLz := lt_of_block hL
  have hc := cell_of_one hL
  have hf := free_of_one hL
  clear hL
  have HP := Lib.hid (hasX hpv hp1)
  have HC := Lib.hid (hasX hcv hc1)
  have g1 : ¬ left - 1 < 0 := by omega
  have g2 : ¬ 12 < d := by omega
  clear hpv hcv hsv
  subst k1
  subst k3
  go_enter Tryz.func44, Tryz.ntmps44
  go_wp2_with (first | (go_at_call_of 71 (Value.string nm); refine (HP.out _ _ (by repeat (first | exact Upd.refl _ _ | refine Upd.alloc ?_ _ | refine Upd.setCell ?_ (fun _ => by simp) _ | refine Upd.drew ?_))).mono ?_; rintro e w' ⟨rfl, rfl⟩) | (go_at_call 71; refine (HC.out _ _ (by repeat (first | exact Upd.refl _ _ | refine Upd.alloc ?_ _ | refine Upd.setCell ?_ (fun _ => by simp) _ | refine Upd.drew ?_))).mono ?_; rintro e w' ⟨rfl, rfl⟩) | (go_at_call 72; refine (in_any _ _).mono ?_; rintro e w' ⟨rfl, rfl⟩))
  go_ret
  exact ⟨rfl, updL2 _ _ _ _ _, fun h => by cases h⟩
set_option maxRecDepth 100000 in
set_option maxHeartbeats 1000000 in
theorem rf_out (op : Int) (ho : op < 1 ∨ 7 < op) (hv : REnv ps ss cl pv sv cv pl nk L left d w) :
    Calls Tryz.prog 44 #[.agg #[pv, sv, cv], .agg #[.int .i64 op, .string nm, .slice pa pl pc, .string c, .int .i64 n, .slice a nk cap], .int .i64 d, .pointer (some ⟨L, 0, none⟩)] w (CntP L false 0 w) := by
  obtain ⟨hL, h0, h120, hd1, hd2, hpv, hsv, hcv, hp1, hs1, hc1, hq1, hq2⟩ := hv
  have hLz := lt_of_block hL
  have hc := cell_of_one hL
  have hf := free_of_one hL
  clear hL
  have HP := Lib.hid (hasX hpv hp1)
  have HC := Lib.hid (hasX hcv hc1)
  have g1 : ¬ left - 1 < 0 := by omega
  have g2 : ¬ 12 < d := by omega
  clear hpv hcv hsv
  have z1 : (op == 1) = false := by rw [beq_eq_false_iff_ne]; omega
  have z2 : (op == 2) = false := by rw [beq_eq_false_iff_ne]; omega
  have z3 : (op == 3) = false := by rw [beq_eq_false_iff_ne]; omega
  have z4 : (op == 4) = false := by rw [beq_eq_false_iff_ne]; omega
  have z5 : (op == 5) = false := by rw [beq_eq_false_iff_ne]; omega
  have z6 : (op == 6) = false := by rw [beq_eq_false_iff_ne]; omega
  have z7 : (op == 7) = false := by rw [beq_eq_false_iff_ne]; omega
  clear ho
  go_enter Tryz.func44, Tryz.ntmps44
  go_wp2_with (first | (go_at_call_of 71 (Value.string nm); refine (HP.out _ _ (by repeat (first | exact Upd.refl _ _ | refine Upd.alloc ?_ _ | refine Upd.setCell ?_ (fun _ => by simp) _ | refine Upd.drew ?_))).mono ?_; rintro e w' ⟨rfl, rfl⟩) | (go_at_call 71; refine (HC.out _ _ (by repeat (first | exact Upd.refl _ _ | refine Upd.alloc ?_ _ | refine Upd.setCell ?_ (fun _ => by simp) _ | refine Upd.drew ?_))).mono ?_; rintro e w' ⟨rfl, rfl⟩) | (go_at_call 72; refine (in_any _ _).mono ?_; rintro e w' ⟨rfl, rfl⟩))
  go_ret
  exact ⟨rfl, updL2 _ _ _ _ _, fun h => by cases h⟩
set_option maxRecDepth 100000 in
set_option maxHeartbeats 1000000 in
theorem rf_end (op : Int) (hL : w.heap[L]? = some (.cells #[.int .i64 left] 3 (0, 0))) (h0 : 0 ≤ left) (h120 : left ≤ 120) (hno : left < 1 ∨ 12 < d) :
    Calls Tryz.prog 44 #[.agg #[pv, sv, cv], .agg #[.int .i64 op, .string nm, .slice pa pl pc, .string c, .int .i64 n, .slice a nk cap], .int .i64 d, .pointer (some ⟨L, 0, none⟩)] w (CntP L false 0 w) := by
  have hLz := lt_of_block hL
  have hc := cell_of_one hL
  have hf := free_of_one hL
  clear hL
  by_cases k1 : left < 1
  · have k1' : left - 1 < 0 := by omega
    clear hno
    go_enter Tryz.func44, Tryz.ntmps44
    go_wp2_with fail
    go_ret
    exact ⟨rfl, updL2 _ _ _ _ _, fun h => by cases h⟩
  · have k1' : ¬ left - 1 < 0 := by omega
    have k2 : 12 < d := by rcases hno with h | h <;> first | exact h | omega
    clear hno
    go_enter Tryz.func44, Tryz.ntmps44
    go_wp2_with fail
    go_ret
    exact ⟨rfl, updL2 _ _ _ _ _, fun h => by cases h⟩
end Go.Proofs.YtnipdjkopmjoeaaGreatDoor
