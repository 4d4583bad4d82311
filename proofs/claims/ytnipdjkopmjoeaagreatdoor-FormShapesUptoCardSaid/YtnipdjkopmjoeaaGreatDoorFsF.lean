/-
  The specification on facts: nodes whose own parts are right, and whole facts. No condition.
-/
import Derived.Test.YtnipdjkopmjoeaaGreatDoorFsE
import Derived.IntWalk
namespace Go.Proofs.YtnipdjkopmjoeaaGreatDoor
open Go.ChangeShapes Go.WideShapes Go.ChangeAt Go.RowKit Go.Fs
/-- what the specification asks of a fact's own parts but for its path -/
def headB (ps cl : List ByteArray) (op : Int) (nm : ByteArray) (pl : Nat) (c : ByteArray) (n : Int) (nk : Nat) : Bool :=
  decide (1 ≤ op) && decide (op ≤ 7) && decide ((nk : Int) = fKid op) && (if fPth op = true then hasB ps nm else nm.toList.isEmpty && decide (pl = 0)) && decide ((pl : Int) ≤ 2) &&
    (if fCls op = true then !c.toList.isEmpty && hasB cl c else c.toList.isEmpty) && (if fNum op = true then numB n else decide (n = 0))
def rfS (ps ss cl : List ByteArray) (op : Int) (nm : ByteArray) (path : List ByteArray) (c : ByteArray) (n : Int) (nk : Nat) : Bool := headB ps cl op nm path.length c n nk && path.all (hasB ss)
def facB (ps ss cl : List ByteArray) (f : FT) (d left : Int) : Bool := okF (rfS ps ss cl) d f && decide ((sizeF f : Int) ≤ left)
section
variable {ps ss cl : List ByteArray}
theorem fac_no {op n : Int} {s c : ByteArray} {path : List ByteArray} {ks : List FT} {d left : Int} (h : left < 1 ∨ 12 < d ∨ rfS ps ss cl op s path c n ks.length = false) : facB ps ss cl (.mk op s path c n ks) d left = false := by
  unfold facB
  rcases h with h | h | h
  · have : ¬ (sizeF (.mk op s path c n ks) : Int) ≤ left := by simp [sizeF]; omega
    rw [decide_eq_false this]; simp
  · have : okF (rfS ps ss cl) d (.mk op s path c n ks) = false := by simp [okF]; omega
    rw [this]; rfl
  · have : okF (rfS ps ss cl) d (.mk op s path c n ks) = false := by simp only [okF]; rw [h]; simp
    rw [this]; rfl
theorem fac_stop {op n : Int} {s c : ByteArray} {path : List ByteArray} {ks : List FT} {d left : Int} {k : Nat} {x : FT} (hx : ks[k]? = some x) (h : facB ps ss cl x (d + 1) (left - 1 - sizeFL (ks.take k)) = false) : facB ps ss cl (.mk op s path c n ks) d left = false := by
  unfold facB at h ⊢
  rcases Bool.and_eq_false_iff.1 h with h | h
  · have := okFL_stop (rfS ps ss cl) (d + 1) ks k x hx h
    simp [okF, this]
  · have h := of_decide_eq_false h
    have := sizeFL_stop ks k x hx
    have : ¬ (sizeF (.mk op s path c n ks) : Int) ≤ left := by simp [sizeF]; omega
    rw [decide_eq_false this]; simp
theorem fac_all {op n : Int} {s c : ByteArray} {path : List ByteArray} {ks : List FT} {d left : Int} (h1 : d ≤ 12) (h2 : rfS ps ss cl op s path c n ks.length = true) (h3 : okFL (rfS ps ss cl) (d + 1) ks = true) (h4 : 1 + (sizeFL ks : Int) ≤ left) : facB ps ss cl (.mk op s path c n ks) d left = true := by
  unfold facB
  have : (sizeF (.mk op s path c n ks) : Int) ≤ left := by simp [sizeF]; omega
  rw [decide_eq_true this]
  simp only [okF]
  rw [h2, decide_eq_true h1, h3]; rfl
theorem leftF_next (ks : List FT) (k : Nat) (x : FT) (left : Int) (h : ks[k]? = some x) : left - 1 - (sizeFL (ks.take (k + 1)) : Int) = left - 1 - (sizeFL (ks.take k) : Int) - (sizeF x : Int) := by
  rw [sizeFL_take ks k x h]; omega
theorem allH_take (l : List ByteArray) (k : Nat) (x : ByteArray) (h : l[k]? = some x) : (l.take (k + 1)).all (hasB ss) = ((l.take k).all (hasB ss) && hasB ss x) := by
  rw [take_snoc l k x h, List.all_append]; simp
theorem allH_stop (l : List ByteArray) (k : Nat) (x : ByteArray) (h : l[k]? = some x) (hx : hasB ss x = false) : l.all (hasB ss) = false := by
  rw [take_split l k x h, List.all_append]; simp [hx]
end
def FacC (ps ss cl : List ByteArray) (pv sv cv : Value) (f : FT) (cs : List Value) (W : World) : Prop := ∀ (d left : Int) (L : Nat) (w : World), Below W.heap.size W w → W.heap.size ≤ L → w.heap[L]? = some (.cells #[.int .i64 left] 3 (0, 0)) → 0 ≤ left → left ≤ 120 → 1 ≤ d → d ≤ 13 →
    SlX L w pv ps → SlX L w sv ss → SlX L w cv cl → Calls Tryz.prog 44 #[.agg #[pv, sv, cv], .agg cs.toArray, .int .i64 d, .pointer (some ⟨L, 0, none⟩)] w (CntP L (facB ps ss cl f d left) (left - sizeF f) w)
/-- what a round has: the counter, and the blocks of the two arguments -/
def FacBase (pv sv cv : Value) (L : Nat) (lf : Int) (w : World) (pt kv : Value) (wr : World) : Prop :=
  wr.heap[L]? = some (.cells #[.int .i64 lf] 3 (0, 0)) ∧ Upd [L] w wr ∧ wr.cell? ⟨w.heap.size + 1, 2, none⟩ = some pt ∧ wr.cell? ⟨w.heap.size + 1, 5, none⟩ = some kv ∧
    wr.cell? ⟨w.heap.size, 0, none⟩ = some pv ∧ wr.cell? ⟨w.heap.size, 1, none⟩ = some sv ∧ wr.cell? ⟨w.heap.size, 2, none⟩ = some cv ∧ w.heap.size + 1 < wr.heap.size
theorem FacBase.upd {pv sv cv : Value} {L : Nat} {lf lf' : Int} {w wr w' : World} {pt kv : Value} (h : FacBase pv sv cv L lf w pt kv wr) (hL : L < w.heap.size) (hu : Upd [L] wr w') (hl : w'.heap[L]? = some (.cells #[.int .i64 lf'] 3 (0, 0))) : FacBase pv sv cv L lf' w pt kv w' := by
  obtain ⟨h1, h2, h3, h4, h5, h6, h7, h8⟩ := h
  have e : ∀ b o, b < wr.heap.size → b ≠ L → w'.cell? ⟨b, o, none⟩ = wr.cell? ⟨b, o, none⟩ := fun b o h1 h2 => hu.cells b o h1 (by simpa using h2)
  exact ⟨hl, h2.trans hu, (e _ _ h8 (by omega)).trans h3, (e _ _ h8 (by omega)).trans h4, (e _ _ (by omega) (by omega)).trans h5, (e _ _ (by omega) (by omega)).trans h6, (e _ _ (by omega) (by omega)).trans h7, Nat.lt_of_lt_of_le h8 hu.size⟩
theorem FacBase.drew {pv sv cv : Value} {L : Nat} {lf : Int} {w wr : World} {pt kv : Value} (h : FacBase pv sv cv L lf w pt kv wr) : FacBase pv sv cv L lf w pt kv wr.drew := by
  obtain ⟨h1, h2, h3, h4, h5, h6, h7, h8⟩ := h
  exact ⟨h1, h2.drew, h3, h4, h5, h6, h7, h8⟩
/-- what a round over the kids has -/
def FacRel (ps ss cl : List ByteArray) (pv sv cv : Value) (L : Nat) (ks : List FT) (d left : Int) (w : World) (pt kv : Value) (i : Value) (wr : World) : Prop :=
  ∃ k : Nat, k ≤ ks.length ∧ i = .int .i64 k ∧ okFL (rfS ps ss cl) (d + 1) (ks.take k) = true ∧ 1 + (sizeFL (ks.take k) : Int) ≤ left ∧
    FacBase pv sv cv L (left - 1 - sizeFL (ks.take k)) w pt kv wr
/-- what a round over the path has -/
def PthRel (ss : List ByteArray) (pv sv cv : Value) (L : Nat) (path : List ByteArray) (left : Int) (w : World) (pt kv : Value) (i : Value) (wr : World) : Prop :=
  ∃ j : Nat, j ≤ path.length ∧ i = .int .i64 j ∧ (path.take j).all (hasB ss) = true ∧ FacBase pv sv cv L (left - 1) w pt kv wr
set_option maxRecDepth 100000 in
set_option maxHeartbeats 4000000 in
theorem fs1 (W : World) (ps ss cl : List ByteArray) (pv sv cv : Value) (nm c : ByteArray) (path : List ByteArray) (ks : List FT) (pa a : Option Addr) (pc nk cap L : Nat) (n d left : Int) (w : World) (hnk : nk = ks.length) (hW : Below W.heap.size W w) (_hWL : W.heap.size ≤ L) (ho : SlO W pa path)
    (hk : ∀ k x, ks[k]? = some x → KidF W a (FacC ps ss cl pv sv cv) k x) (hrf : headB ps cl 1 nm path.length c n nk = true)
    (hv : REnv ps ss cl pv sv cv path.length nk L left d w) (k1 : nk = 0) (k2 : nm.toList.isEmpty = true) (k3 : path.length = 0) (k4 : c.toList.isEmpty = true) (k6 : n = 0)  :
    Calls Tryz.prog 44 #[.agg #[pv, sv, cv], .agg #[.int .i64 1, .string nm, .slice pa path.length pc, .string c, .int .i64 n, .slice a nk cap], .int .i64 d, .pointer (some ⟨L, 0, none⟩)] w (CntP L (facB ps ss cl (.mk 1 nm path c n ks) d left) (left - sizeF (.mk 1 nm path c n ks)) w) := by
  obtain ⟨hL, h0, h120, hd1, hd2, hpv, hsv, hcv, hp1, hs1, hc1, hq1, hq2⟩ := hv
  have hLz := lt_of_block hL
  have hc := cell_of_one hL
  have hf := free_of_one hL
  have HL := Lib.hid hL; clear hL
  have HP := Lib.hid (hasX hpv hp1)
  have HC := Lib.hid (hasX hcv hc1)
  have HS := Lib.hid (hasX hsv hs1)
  have HXp := Lib.hid hpv
  have HXs := Lib.hid hsv
  have HXc := Lib.hid hcv
  have HO := Lib.hid ho; clear ho
  have HK := Lib.hid hk; clear hk
  have HW := Lib.hid hW; clear hW
  have HRF := Lib.hid hrf; clear hrf
  have HNK := Lib.hid hnk; clear hnk
  have g1 : ¬ left - 1 < 0 := by omega
  have g2 : ¬ 12 < d := by omega
  have g2' : d ≤ 12 := by omega
  clear hpv hcv hsv
  subst k1
  obtain rfl : path = [] := List.length_eq_zero_iff.1 k3
  clear k3
  subst k6
  have k7 : numB 0 = true := rfl
  go_enter Tryz.func44, Tryz.ntmps44
  go_wp2_with (first | (go_at_call_of 71 (Value.string nm); refine (HP.out _ _ (by repeat (first | exact Upd.refl _ _ | refine Upd.alloc ?_ _ | refine Upd.setCell ?_ (fun _ => by simp) _ | refine Upd.drew ?_))).mono ?_; rintro e w' ⟨rfl, rfl⟩) | (go_at_call 71; refine (HC.out _ _ (by repeat (first | exact Upd.refl _ _ | refine Upd.alloc ?_ _ | refine Upd.setCell ?_ (fun _ => by simp) _ | refine Upd.drew ?_))).mono ?_; rintro e w' ⟨rfl, rfl⟩) | (go_at_call 72; refine (in_any _ _).mono ?_; rintro e w' ⟨rfl, rfl⟩))
  go_loopw [11] (fun i wr => PthRel ss pv sv cv L ([] : List ByteArray) left w (.slice pa 0 pc) (.slice a 0 cap) i wr) (fun i _ => 0 - (intOf i).toNat)
  case atStart =>
    refine ⟨0, Nat.zero_le _, rfl, rfl, ?_, updL2 _ _ _ _ _, ?_, ?_, ?_, ?_, ?_, ?_⟩
    · rw [Below.heap_alloc _ _ _ (by simp; omega), Below.heap_alloc _ _ _ (by simp; omega), one_setCell HL.out]
    · simp [go_sem]
    · simp [go_sem]
    · simp [go_sem]
    · simp [go_sem]
    · simp [go_sem]
    · simp
  case round =>
    obtain ⟨j, hj, rfl, hal, hbase⟩ := hrel
    have HAL := Lib.hid hal; clear hal
    have HB := Lib.hid hbase
    obtain ⟨-, hup, c2, c5, k0, k1', k2', hsz⟩ := hbase
    have HUP := Lib.hid hup; clear hup
    · obtain rfl : j = 0 := by simpa using hj
      have hall : ([] : List ByteArray).all (hasB ss) = true := rfl

      have hrs : rfS ps ss cl 1 nm ([] : List ByteArray) c 0 ks.length = true := by unfold rfS; rw [hall, ← HNK.out, HRF.out]; rfl
      have HRS := Lib.hid hrs; clear hrs hall
      go_wp2_with fail
      go_loopw [12] (fun i wr2 => FacRel ps ss cl pv sv cv L ks d left w (.slice pa 0 pc) (.slice a 0 cap) i wr2) (fun i _ => 0 - (intOf i).toNat)
      case atStart => exact ⟨0, Nat.zero_le _, rfl, rfl, by show 1 + ((0 : Nat) : Int) ≤ left; omega, by simpa [sizeFL] using HB.out⟩
      case round =>
        clear HAL HB HUP c2 c5 k0 k1' k2' hsz hj
        obtain ⟨k, hkl, rfl, hok, hsz, hbase⟩ := hrel
        have HOK := Lib.hid hok; clear hok
        have HB := Lib.hid hbase
        obtain ⟨hwl, hup, c2, c5, k0, k1', k2', hsz2⟩ := hbase
        have HUP := Lib.hid hup; clear hup
        have HWL := Lib.hid hwl; clear hwl
        by_cases hlt : k < 0
        · obtain ⟨x, hx⟩ : ∃ x, ks[k]? = some x := ⟨ks[k]'(by have := HNK.out; omega), List.getElem?_eq_getElem _⟩
          omega
        · obtain rfl : k = 0 := by have := HNK.out; omega
          have htk : ks.take 0 = ks := List.take_of_length_le (by have := HNK.out; omega)
          have hrs := HRS.out
          have hok := HOK.out
          have hwl := HWL.out
          rw [htk] at hok hwl hsz
          have hyes : facB ps ss cl (.mk 1 nm ([] : List ByteArray) c 0 ks) d left = true := fac_all g2' hrs hok hsz
          clear htk hok hwl hrs
          have HY := Lib.hid hyes; clear hyes
          go_wp2_with fail
          go_ret
          exact ⟨by rw [HY.out]; rfl, HUP.out, fun _ => by have hwl := HWL.out; rw [List.take_of_length_le (show ks.length ≤ 0 by have := HNK.out; omega)] at hwl; rw [hwl]; simp [sizeF]; omega⟩
set_option maxRecDepth 100000 in
set_option maxHeartbeats 4000000 in
theorem fs2 (W : World) (ps ss cl : List ByteArray) (pv sv cv : Value) (nm c : ByteArray) (path : List ByteArray) (ks : List FT) (pa a : Option Addr) (pc nk cap L : Nat) (n d left : Int) (w : World) (hnk : nk = ks.length) (hW : Below W.heap.size W w) (hWL : W.heap.size ≤ L) (ho : SlO W pa path)
    (hk : ∀ k x, ks[k]? = some x → KidF W a (FacC ps ss cl pv sv cv) k x) (hrf : headB ps cl 2 nm path.length c n nk = true)
    (hv : REnv ps ss cl pv sv cv path.length nk L left d w) (k1 : nk = 0) (k2 : hasB ps nm = true) (k3 : (path.length : Int) ≤ 2) (k4 : c.toList.isEmpty = false) (k5 : hasB cl c = true) (k6 : n = 0)  :
    Calls Tryz.prog 44 #[.agg #[pv, sv, cv], .agg #[.int .i64 2, .string nm, .slice pa path.length pc, .string c, .int .i64 n, .slice a nk cap], .int .i64 d, .pointer (some ⟨L, 0, none⟩)] w (CntP L (facB ps ss cl (.mk 2 nm path c n ks) d left) (left - sizeF (.mk 2 nm path c n ks)) w) := by
  obtain ⟨hL, h0, h120, hd1, hd2, hpv, hsv, hcv, hp1, hs1, hc1, hq1, hq2⟩ := hv
  have hLz := lt_of_block hL
  have hc := cell_of_one hL
  have hf := free_of_one hL
  have HL := Lib.hid hL; clear hL
  have HP := Lib.hid (hasX hpv hp1)
  have HC := Lib.hid (hasX hcv hc1)
  have HS := Lib.hid (hasX hsv hs1)
  have HXp := Lib.hid hpv
  have HXs := Lib.hid hsv
  have HXc := Lib.hid hcv
  have HO := Lib.hid ho; clear ho
  have HK := Lib.hid hk; clear hk
  have HW := Lib.hid hW; clear hW
  have HRF := Lib.hid hrf; clear hrf
  have HNK := Lib.hid hnk; clear hnk
  have g1 : ¬ left - 1 < 0 := by omega
  have g2 : ¬ 12 < d := by omega
  have g2' : d ≤ 12 := by omega
  clear hpv hcv hsv
  subst k1
  subst k6
  have k7 : numB 0 = true := rfl
  go_enter Tryz.func44, Tryz.ntmps44
  go_wp2_with (first | (go_at_call_of 71 (Value.string nm); refine (HP.out _ _ (by repeat (first | exact Upd.refl _ _ | refine Upd.alloc ?_ _ | refine Upd.setCell ?_ (fun _ => by simp) _ | refine Upd.drew ?_))).mono ?_; rintro e w' ⟨rfl, rfl⟩) | (go_at_call 71; refine (HC.out _ _ (by repeat (first | exact Upd.refl _ _ | refine Upd.alloc ?_ _ | refine Upd.setCell ?_ (fun _ => by simp) _ | refine Upd.drew ?_))).mono ?_; rintro e w' ⟨rfl, rfl⟩) | (go_at_call 72; refine (in_any _ _).mono ?_; rintro e w' ⟨rfl, rfl⟩))
  go_loopw [11] (fun i wr => PthRel ss pv sv cv L path left w (.slice pa path.length pc) (.slice a 0 cap) i wr) (fun i _ => path.length - (intOf i).toNat)
  case atStart =>
    refine ⟨0, Nat.zero_le _, rfl, rfl, ?_, updL2 _ _ _ _ _, ?_, ?_, ?_, ?_, ?_, ?_⟩
    · rw [Below.heap_alloc _ _ _ (by simp; omega), Below.heap_alloc _ _ _ (by simp; omega), one_setCell HL.out]
    · simp [go_sem]
    · simp [go_sem]
    · simp [go_sem]
    · simp [go_sem]
    · simp [go_sem]
    · simp
  case round =>
    obtain ⟨j, hj, rfl, hal, hbase⟩ := hrel
    have HAL := Lib.hid hal; clear hal
    have HB := Lib.hid hbase
    obtain ⟨-, hup, c2, c5, k0, k1', k2', hsz⟩ := hbase
    have HUP := Lib.hid hup; clear hup
    by_cases hlt : j < path.length
    · obtain ⟨x, hx⟩ : ∃ x, path[j]? = some x := ⟨path[j], List.getElem?_eq_getElem hlt⟩
      obtain ⟨b, off, ha, hb, hcx⟩ := HO.out.at_ j x hx
      subst ha
      have hbW := (HW.out.trans (HUP.out.below W.heap.size HW.out.size (by intro y hy; simp at hy; omega)))
      have q : wr.cell? ⟨b, off + j, none⟩ = some (.string x) := (hbW.cell (p := ⟨b, off + j, none⟩) hb).trans hcx
      have HX := Lib.hid hx; clear hx hcx hbW
      cases hbx : hasB ss x with
      | false =>
        have HBX := Lib.hid hbx; clear hbx
        go_wp2_with fail
        refine still_drew 7 (by kernel_rfl) (by kernel_rfl) ?_
        simp only [List.take_succ_cons, List.take_zero, List.drop_succ_cons, List.drop_zero]
        repeat still_step
        refine wpStill_nil ?_
        go_wp2_with (go_at_call 71; refine (HS.out _ _ (by first | exact HUP.out.drew | exact HUP.out)).mono ?_; rintro e w' ⟨rfl, rfl⟩; rw [HBX.out])
        go_ret
        have hno : facB ps ss cl (.mk 2 nm path c 0 ks) d left = false := fac_no (.inr (.inr (by unfold rfS; rw [allH_stop path j x HX.out HBX.out]; simp)))
        exact ⟨by rw [hno]; rfl, HUP.out.drew, fun h => by rw [hno] at h; cases h⟩
      | true =>
        have HBX := Lib.hid hbx; clear hbx
        go_wp2_with fail
        refine still_drew 7 (by kernel_rfl) (by kernel_rfl) ?_
        simp only [List.take_succ_cons, List.take_zero, List.drop_succ_cons, List.drop_zero]
        repeat still_step
        refine wpStill_nil ?_
        go_wp2_with (go_at_call 71; refine (HS.out _ _ (by first | exact HUP.out.drew | exact HUP.out)).mono ?_; rintro e w' ⟨rfl, rfl⟩; rw [HBX.out])
        exact ⟨⟨j + 1, by omega, by go_num, by rw [allH_take path j x HX.out, HAL.out, HBX.out]; rfl, HB.out.drew⟩, by simp [intOf]; omega⟩
    · obtain rfl : j = path.length := by omega
      have hall := HAL.out
      rw [List.take_length] at hall

      have hrs : rfS ps ss cl 2 nm path c 0 ks.length = true := by unfold rfS; rw [hall, ← HNK.out, HRF.out]; rfl
      have HRS := Lib.hid hrs; clear hrs hall
      go_wp2_with fail
      go_loopw [12] (fun i wr2 => FacRel ps ss cl pv sv cv L ks d left w (.slice pa path.length pc) (.slice a 0 cap) i wr2) (fun i _ => 0 - (intOf i).toNat)
      case atStart => exact ⟨0, Nat.zero_le _, rfl, rfl, by show 1 + ((0 : Nat) : Int) ≤ left; omega, by simpa [sizeFL] using HB.out⟩
      case round =>
        clear HAL HB HUP c2 c5 k0 k1' k2' hsz hj hlt
        obtain ⟨k, hkl, rfl, hok, hsz, hbase⟩ := hrel
        have HOK := Lib.hid hok; clear hok
        have HB := Lib.hid hbase
        obtain ⟨hwl, hup, c2, c5, k0, k1', k2', hsz2⟩ := hbase
        have HUP := Lib.hid hup; clear hup
        have HWL := Lib.hid hwl; clear hwl
        by_cases hlt : k < 0
        · obtain ⟨x, hx⟩ : ∃ x, ks[k]? = some x := ⟨ks[k]'(by have := HNK.out; omega), List.getElem?_eq_getElem _⟩
          omega
        · obtain rfl : k = 0 := by have := HNK.out; omega
          have htk : ks.take 0 = ks := List.take_of_length_le (by have := HNK.out; omega)
          have hrs := HRS.out
          have hok := HOK.out
          have hwl := HWL.out
          rw [htk] at hok hwl hsz
          have hyes : facB ps ss cl (.mk 2 nm path c 0 ks) d left = true := fac_all g2' hrs hok hsz
          clear htk hok hwl hrs
          have HY := Lib.hid hyes; clear hyes
          go_wp2_with fail
          go_ret
          exact ⟨by rw [HY.out]; rfl, HUP.out, fun _ => by have hwl := HWL.out; rw [List.take_of_length_le (show ks.length ≤ 0 by have := HNK.out; omega)] at hwl; rw [hwl]; simp [sizeF]; omega⟩
set_option maxRecDepth 100000 in
set_option maxHeartbeats 4000000 in
theorem fs3 (W : World) (ps ss cl : List ByteArray) (pv sv cv : Value) (nm c : ByteArray) (path : List ByteArray) (ks : List FT) (pa a : Option Addr) (pc nk cap L : Nat) (n d left : Int) (w : World) (hnk : nk = ks.length) (hW : Below W.heap.size W w) (hWL : W.heap.size ≤ L) (ho : SlO W pa path)
    (hk : ∀ k x, ks[k]? = some x → KidF W a (FacC ps ss cl pv sv cv) k x) (hrf : headB ps cl 3 nm path.length c n nk = true)
    (hv : REnv ps ss cl pv sv cv path.length nk L left d w) (k1 : nk = 0) (k2 : hasB ps nm = true) (k3 : (path.length : Int) ≤ 2) (k4 : c.toList.isEmpty = true) (k6 : numB n = true)  :
    Calls Tryz.prog 44 #[.agg #[pv, sv, cv], .agg #[.int .i64 3, .string nm, .slice pa path.length pc, .string c, .int .i64 n, .slice a nk cap], .int .i64 d, .pointer (some ⟨L, 0, none⟩)] w (CntP L (facB ps ss cl (.mk 3 nm path c n ks) d left) (left - sizeF (.mk 3 nm path c n ks)) w) := by
  obtain ⟨hL, h0, h120, hd1, hd2, hpv, hsv, hcv, hp1, hs1, hc1, hq1, hq2⟩ := hv
  have hLz := lt_of_block hL
  have hc := cell_of_one hL
  have hf := free_of_one hL
  have HL := Lib.hid hL; clear hL
  have HP := Lib.hid (hasX hpv hp1)
  have HC := Lib.hid (hasX hcv hc1)
  have HS := Lib.hid (hasX hsv hs1)
  have HXp := Lib.hid hpv
  have HXs := Lib.hid hsv
  have HXc := Lib.hid hcv
  have HO := Lib.hid ho; clear ho
  have HK := Lib.hid hk; clear hk
  have HW := Lib.hid hW; clear hW
  have HRF := Lib.hid hrf; clear hrf
  have HNK := Lib.hid hnk; clear hnk
  have g1 : ¬ left - 1 < 0 := by omega
  have g2 : ¬ 12 < d := by omega
  have g2' : d ≤ 12 := by omega
  clear hpv hcv hsv
  subst k1
  go_enter Tryz.func44, Tryz.ntmps44
  go_wp2_with (first | (go_at_call_of 71 (Value.string nm); refine (HP.out _ _ (by repeat (first | exact Upd.refl _ _ | refine Upd.alloc ?_ _ | refine Upd.setCell ?_ (fun _ => by simp) _ | refine Upd.drew ?_))).mono ?_; rintro e w' ⟨rfl, rfl⟩) | (go_at_call 71; refine (HC.out _ _ (by repeat (first | exact Upd.refl _ _ | refine Upd.alloc ?_ _ | refine Upd.setCell ?_ (fun _ => by simp) _ | refine Upd.drew ?_))).mono ?_; rintro e w' ⟨rfl, rfl⟩) | (go_at_call 72; refine (in_any _ _).mono ?_; rintro e w' ⟨rfl, rfl⟩))
  go_loopw [11] (fun i wr => PthRel ss pv sv cv L path left w (.slice pa path.length pc) (.slice a 0 cap) i wr) (fun i _ => path.length - (intOf i).toNat)
  case atStart =>
    refine ⟨0, Nat.zero_le _, rfl, rfl, ?_, updL2 _ _ _ _ _, ?_, ?_, ?_, ?_, ?_, ?_⟩
    · rw [Below.heap_alloc _ _ _ (by simp; omega), Below.heap_alloc _ _ _ (by simp; omega), one_setCell HL.out]
    · simp [go_sem]
    · simp [go_sem]
    · simp [go_sem]
    · simp [go_sem]
    · simp [go_sem]
    · simp
  case round =>
    obtain ⟨j, hj, rfl, hal, hbase⟩ := hrel
    have HAL := Lib.hid hal; clear hal
    have HB := Lib.hid hbase
    obtain ⟨-, hup, c2, c5, k0, k1', k2', hsz⟩ := hbase
    have HUP := Lib.hid hup; clear hup
    by_cases hlt : j < path.length
    · obtain ⟨x, hx⟩ : ∃ x, path[j]? = some x := ⟨path[j], List.getElem?_eq_getElem hlt⟩
      obtain ⟨b, off, ha, hb, hcx⟩ := HO.out.at_ j x hx
      subst ha
      have hbW := (HW.out.trans (HUP.out.below W.heap.size HW.out.size (by intro y hy; simp at hy; omega)))
      have q : wr.cell? ⟨b, off + j, none⟩ = some (.string x) := (hbW.cell (p := ⟨b, off + j, none⟩) hb).trans hcx
      have HX := Lib.hid hx; clear hx hcx hbW
      cases hbx : hasB ss x with
      | false =>
        have HBX := Lib.hid hbx; clear hbx
        go_wp2_with fail
        refine still_drew 7 (by kernel_rfl) (by kernel_rfl) ?_
        simp only [List.take_succ_cons, List.take_zero, List.drop_succ_cons, List.drop_zero]
        repeat still_step
        refine wpStill_nil ?_
        go_wp2_with (go_at_call 71; refine (HS.out _ _ (by first | exact HUP.out.drew | exact HUP.out)).mono ?_; rintro e w' ⟨rfl, rfl⟩; rw [HBX.out])
        go_ret
        have hno : facB ps ss cl (.mk 3 nm path c n ks) d left = false := fac_no (.inr (.inr (by unfold rfS; rw [allH_stop path j x HX.out HBX.out]; simp)))
        exact ⟨by rw [hno]; rfl, HUP.out.drew, fun h => by rw [hno] at h; cases h⟩
      | true =>
        have HBX := Lib.hid hbx; clear hbx
        go_wp2_with fail
        refine still_drew 7 (by kernel_rfl) (by kernel_rfl) ?_
        simp only [List.take_succ_cons, List.take_zero, List.drop_succ_cons, List.drop_zero]
        repeat still_step
        refine wpStill_nil ?_
        go_wp2_with (go_at_call 71; refine (HS.out _ _ (by first | exact HUP.out.drew | exact HUP.out)).mono ?_; rintro e w' ⟨rfl, rfl⟩; rw [HBX.out])
        exact ⟨⟨j + 1, by omega, by go_num, by rw [allH_take path j x HX.out, HAL.out, HBX.out]; rfl, HB.out.drew⟩, by simp [intOf]; omega⟩
    · obtain rfl : j = path.length := by omega
      have hall := HAL.out
      rw [List.take_length] at hall

      have hrs : rfS ps ss cl 3 nm path c n ks.length = true := by unfold rfS; rw [hall, ← HNK.out, HRF.out]; rfl
      have HRS := Lib.hid hrs; clear hrs hall
      go_wp2_with fail
      go_loopw [12] (fun i wr2 => FacRel ps ss cl pv sv cv L ks d left w (.slice pa path.length pc) (.slice a 0 cap) i wr2) (fun i _ => 0 - (intOf i).toNat)
      case atStart => exact ⟨0, Nat.zero_le _, rfl, rfl, by show 1 + ((0 : Nat) : Int) ≤ left; omega, by simpa [sizeFL] using HB.out⟩
      case round =>
        clear HAL HB HUP c2 c5 k0 k1' k2' hsz hj hlt
        obtain ⟨k, hkl, rfl, hok, hsz, hbase⟩ := hrel
        have HOK := Lib.hid hok; clear hok
        have HB := Lib.hid hbase
        obtain ⟨hwl, hup, c2, c5, k0, k1', k2', hsz2⟩ := hbase
        have HUP := Lib.hid hup; clear hup
        have HWL := Lib.hid hwl; clear hwl
        by_cases hlt : k < 0
        · obtain ⟨x, hx⟩ : ∃ x, ks[k]? = some x := ⟨ks[k]'(by have := HNK.out; omega), List.getElem?_eq_getElem _⟩
          omega
        · obtain rfl : k = 0 := by have := HNK.out; omega
          have htk : ks.take 0 = ks := List.take_of_length_le (by have := HNK.out; omega)
          have hrs := HRS.out
          have hok := HOK.out
          have hwl := HWL.out
          rw [htk] at hok hwl hsz
          have hyes : facB ps ss cl (.mk 3 nm path c n ks) d left = true := fac_all g2' hrs hok hsz
          clear htk hok hwl hrs
          have HY := Lib.hid hyes; clear hyes
          go_wp2_with fail
          go_ret
          exact ⟨by rw [HY.out]; rfl, HUP.out, fun _ => by have hwl := HWL.out; rw [List.take_of_length_le (show ks.length ≤ 0 by have := HNK.out; omega)] at hwl; rw [hwl]; simp [sizeF]; omega⟩
set_option maxRecDepth 100000 in
set_option maxHeartbeats 4000000 in
theorem fs4 (W : World) (ps ss cl : List ByteArray) (pv sv cv : Value) (nm c : ByteArray) (path : List ByteArray) (ks : List FT) (pa a : Option Addr) (pc nk cap L : Nat) (n d left : Int) (w : World) (hnk : nk = ks.length) (hW : Below W.heap.size W w) (hWL : W.heap.size ≤ L) (ho : SlO W pa path)
    (hk : ∀ k x, ks[k]? = some x → KidF W a (FacC ps ss cl pv sv cv) k x) (hrf : headB ps cl 4 nm path.length c n nk = true)
    (hv : REnv ps ss cl pv sv cv path.length nk L left d w) (k1 : nk = 0) (k2 : hasB ps nm = true) (k3 : (path.length : Int) ≤ 2) (k4 : c.toList.isEmpty = true) (k6 : numB n = true)  :
    Calls Tryz.prog 44 #[.agg #[pv, sv, cv], .agg #[.int .i64 4, .string nm, .slice pa path.length pc, .string c, .int .i64 n, .slice a nk cap], .int .i64 d, .pointer (some ⟨L, 0, none⟩)] w (CntP L (facB ps ss cl (.mk 4 nm path c n ks) d left) (left - sizeF (.mk 4 nm path c n ks)) w) := by
  obtain ⟨hL, h0, h120, hd1, hd2, hpv, hsv, hcv, hp1, hs1, hc1, hq1, hq2⟩ := hv
  have hLz := lt_of_block hL
  have hc := cell_of_one hL
  have hf := free_of_one hL
  have HL := Lib.hid hL; clear hL
  have HP := Lib.hid (hasX hpv hp1)
  have HC := Lib.hid (hasX hcv hc1)
  have HS := Lib.hid (hasX hsv hs1)
  have HXp := Lib.hid hpv
  have HXs := Lib.hid hsv
  have HXc := Lib.hid hcv
  have HO := Lib.hid ho; clear ho
  have HK := Lib.hid hk; clear hk
  have HW := Lib.hid hW; clear hW
  have HRF := Lib.hid hrf; clear hrf
  have HNK := Lib.hid hnk; clear hnk
  have g1 : ¬ left - 1 < 0 := by omega
  have g2 : ¬ 12 < d := by omega
  have g2' : d ≤ 12 := by omega
  clear hpv hcv hsv
  subst k1
  go_enter Tryz.func44, Tryz.ntmps44
  go_wp2_with (first | (go_at_call_of 71 (Value.string nm); refine (HP.out _ _ (by repeat (first | exact Upd.refl _ _ | refine Upd.alloc ?_ _ | refine Upd.setCell ?_ (fun _ => by simp) _ | refine Upd.drew ?_))).mono ?_; rintro e w' ⟨rfl, rfl⟩) | (go_at_call 71; refine (HC.out _ _ (by repeat (first | exact Upd.refl _ _ | refine Upd.alloc ?_ _ | refine Upd.setCell ?_ (fun _ => by simp) _ | refine Upd.drew ?_))).mono ?_; rintro e w' ⟨rfl, rfl⟩) | (go_at_call 72; refine (in_any _ _).mono ?_; rintro e w' ⟨rfl, rfl⟩))
  go_loopw [11] (fun i wr => PthRel ss pv sv cv L path left w (.slice pa path.length pc) (.slice a 0 cap) i wr) (fun i _ => path.length - (intOf i).toNat)
  case atStart =>
    refine ⟨0, Nat.zero_le _, rfl, rfl, ?_, updL2 _ _ _ _ _, ?_, ?_, ?_, ?_, ?_, ?_⟩
    · rw [Below.heap_alloc _ _ _ (by simp; omega), Below.heap_alloc _ _ _ (by simp; omega), one_setCell HL.out]
    · simp [go_sem]
    · simp [go_sem]
    · simp [go_sem]
    · simp [go_sem]
    · simp [go_sem]
    · simp
  case round =>
    obtain ⟨j, hj, rfl, hal, hbase⟩ := hrel
    have HAL := Lib.hid hal; clear hal
    have HB := Lib.hid hbase
    obtain ⟨-, hup, c2, c5, k0, k1', k2', hsz⟩ := hbase
    have HUP := Lib.hid hup; clear hup
    by_cases hlt : j < path.length
    · obtain ⟨x, hx⟩ : ∃ x, path[j]? = some x := ⟨path[j], List.getElem?_eq_getElem hlt⟩
      obtain ⟨b, off, ha, hb, hcx⟩ := HO.out.at_ j x hx
      subst ha
      have hbW := (HW.out.trans (HUP.out.below W.heap.size HW.out.size (by intro y hy; simp at hy; omega)))
      have q : wr.cell? ⟨b, off + j, none⟩ = some (.string x) := (hbW.cell (p := ⟨b, off + j, none⟩) hb).trans hcx
      have HX := Lib.hid hx; clear hx hcx hbW
      cases hbx : hasB ss x with
      | false =>
        have HBX := Lib.hid hbx; clear hbx
        go_wp2_with fail
        refine still_drew 7 (by kernel_rfl) (by kernel_rfl) ?_
        simp only [List.take_succ_cons, List.take_zero, List.drop_succ_cons, List.drop_zero]
        repeat still_step
        refine wpStill_nil ?_
        go_wp2_with (go_at_call 71; refine (HS.out _ _ (by first | exact HUP.out.drew | exact HUP.out)).mono ?_; rintro e w' ⟨rfl, rfl⟩; rw [HBX.out])
        go_ret
        have hno : facB ps ss cl (.mk 4 nm path c n ks) d left = false := fac_no (.inr (.inr (by unfold rfS; rw [allH_stop path j x HX.out HBX.out]; simp)))
        exact ⟨by rw [hno]; rfl, HUP.out.drew, fun h => by rw [hno] at h; cases h⟩
      | true =>
        have HBX := Lib.hid hbx; clear hbx
        go_wp2_with fail
        refine still_drew 7 (by kernel_rfl) (by kernel_rfl) ?_
        simp only [List.take_succ_cons, List.take_zero, List.drop_succ_cons, List.drop_zero]
        repeat still_step
        refine wpStill_nil ?_
        go_wp2_with (go_at_call 71; refine (HS.out _ _ (by first | exact HUP.out.drew | exact HUP.out)).mono ?_; rintro e w' ⟨rfl, rfl⟩; rw [HBX.out])
        exact ⟨⟨j + 1, by omega, by go_num, by rw [allH_take path j x HX.out, HAL.out, HBX.out]; rfl, HB.out.drew⟩, by simp [intOf]; omega⟩
    · obtain rfl : j = path.length := by omega
      have hall := HAL.out
      rw [List.take_length] at hall

      have hrs : rfS ps ss cl 4 nm path c n ks.length = true := by unfold rfS; rw [hall, ← HNK.out, HRF.out]; rfl
      have HRS := Lib.hid hrs; clear hrs hall
      go_wp2_with fail
      go_loopw [12] (fun i wr2 => FacRel ps ss cl pv sv cv L ks d left w (.slice pa path.length pc) (.slice a 0 cap) i wr2) (fun i _ => 0 - (intOf i).toNat)
      case atStart => exact ⟨0, Nat.zero_le _, rfl, rfl, by show 1 + ((0 : Nat) : Int) ≤ left; omega, by simpa [sizeFL] using HB.out⟩
      case round =>
        clear HAL HB HUP c2 c5 k0 k1' k2' hsz hj hlt
        obtain ⟨k, hkl, rfl, hok, hsz, hbase⟩ := hrel
        have HOK := Lib.hid hok; clear hok
        have HB := Lib.hid hbase
        obtain ⟨hwl, hup, c2, c5, k0, k1', k2', hsz2⟩ := hbase
        have HUP := Lib.hid hup; clear hup
        have HWL := Lib.hid hwl; clear hwl
        by_cases hlt : k < 0
        · obtain ⟨x, hx⟩ : ∃ x, ks[k]? = some x := ⟨ks[k]'(by have := HNK.out; omega), List.getElem?_eq_getElem _⟩
          omega
        · obtain rfl : k = 0 := by have := HNK.out; omega
          have htk : ks.take 0 = ks := List.take_of_length_le (by have := HNK.out; omega)
          have hrs := HRS.out
          have hok := HOK.out
          have hwl := HWL.out
          rw [htk] at hok hwl hsz
          have hyes : facB ps ss cl (.mk 4 nm path c n ks) d left = true := fac_all g2' hrs hok hsz
          clear htk hok hwl hrs
          have HY := Lib.hid hyes; clear hyes
          go_wp2_with fail
          go_ret
          exact ⟨by rw [HY.out]; rfl, HUP.out, fun _ => by have hwl := HWL.out; rw [List.take_of_length_le (show ks.length ≤ 0 by have := HNK.out; omega)] at hwl; rw [hwl]; simp [sizeF]; omega⟩
set_option maxRecDepth 100000 in
set_option maxHeartbeats 4000000 in
theorem fs5 (W : World) (ps ss cl : List ByteArray) (pv sv cv : Value) (nm c : ByteArray) (path : List ByteArray) (ks : List FT) (pa a : Option Addr) (pc nk cap L : Nat) (n d left : Int) (w : World) (hnk : nk = ks.length) (hW : Below W.heap.size W w) (hWL : W.heap.size ≤ L) (ho : SlO W pa path)
    (hk : ∀ k x, ks[k]? = some x → KidF W a (FacC ps ss cl pv sv cv) k x) (hrf : headB ps cl 5 nm path.length c n nk = true)
    (hv : REnv ps ss cl pv sv cv path.length nk L left d w) (k1 : nk = 1) (k2 : nm.toList.isEmpty = true) (k3 : path.length = 0) (k4 : c.toList.isEmpty = true) (k6 : n = 0)  :
    Calls Tryz.prog 44 #[.agg #[pv, sv, cv], .agg #[.int .i64 5, .string nm, .slice pa path.length pc, .string c, .int .i64 n, .slice a nk cap], .int .i64 d, .pointer (some ⟨L, 0, none⟩)] w (CntP L (facB ps ss cl (.mk 5 nm path c n ks) d left) (left - sizeF (.mk 5 nm path c n ks)) w) := by
  obtain ⟨hL, h0, h120, hd1, hd2, hpv, hsv, hcv, hp1, hs1, hc1, hq1, hq2⟩ := hv
  have hLz := lt_of_block hL
  have hc := cell_of_one hL
  have hf := free_of_one hL
  have HL := Lib.hid hL; clear hL
  have HP := Lib.hid (hasX hpv hp1)
  have HC := Lib.hid (hasX hcv hc1)
  have HS := Lib.hid (hasX hsv hs1)
  have HXp := Lib.hid hpv
  have HXs := Lib.hid hsv
  have HXc := Lib.hid hcv
  have HO := Lib.hid ho; clear ho
  have HK := Lib.hid hk; clear hk
  have HW := Lib.hid hW; clear hW
  have HRF := Lib.hid hrf; clear hrf
  have HNK := Lib.hid hnk; clear hnk
  have g1 : ¬ left - 1 < 0 := by omega
  have g2 : ¬ 12 < d := by omega
  have g2' : d ≤ 12 := by omega
  clear hpv hcv hsv
  subst k1
  obtain rfl : path = [] := List.length_eq_zero_iff.1 k3
  clear k3
  subst k6
  have k7 : numB 0 = true := rfl
  go_enter Tryz.func44, Tryz.ntmps44
  go_wp2_with (first | (go_at_call_of 71 (Value.string nm); refine (HP.out _ _ (by repeat (first | exact Upd.refl _ _ | refine Upd.alloc ?_ _ | refine Upd.setCell ?_ (fun _ => by simp) _ | refine Upd.drew ?_))).mono ?_; rintro e w' ⟨rfl, rfl⟩) | (go_at_call 71; refine (HC.out _ _ (by repeat (first | exact Upd.refl _ _ | refine Upd.alloc ?_ _ | refine Upd.setCell ?_ (fun _ => by simp) _ | refine Upd.drew ?_))).mono ?_; rintro e w' ⟨rfl, rfl⟩) | (go_at_call 72; refine (in_any _ _).mono ?_; rintro e w' ⟨rfl, rfl⟩))
  go_loopw [11] (fun i wr => PthRel ss pv sv cv L ([] : List ByteArray) left w (.slice pa 0 pc) (.slice a 1 cap) i wr) (fun i _ => 0 - (intOf i).toNat)
  case atStart =>
    refine ⟨0, Nat.zero_le _, rfl, rfl, ?_, updL2 _ _ _ _ _, ?_, ?_, ?_, ?_, ?_, ?_⟩
    · rw [Below.heap_alloc _ _ _ (by simp; omega), Below.heap_alloc _ _ _ (by simp; omega), one_setCell HL.out]
    · simp [go_sem]
    · simp [go_sem]
    · simp [go_sem]
    · simp [go_sem]
    · simp [go_sem]
    · simp
  case round =>
    obtain ⟨j, hj, rfl, hal, hbase⟩ := hrel
    have HAL := Lib.hid hal; clear hal
    have HB := Lib.hid hbase
    obtain ⟨-, hup, c2, c5, k0, k1', k2', hsz⟩ := hbase
    have HUP := Lib.hid hup; clear hup
    · obtain rfl : j = 0 := by simpa using hj
      have hall : ([] : List ByteArray).all (hasB ss) = true := rfl

      have hrs : rfS ps ss cl 5 nm ([] : List ByteArray) c 0 ks.length = true := by unfold rfS; rw [hall, ← HNK.out, HRF.out]; rfl
      have HRS := Lib.hid hrs; clear hrs hall
      go_wp2_with fail
      go_loopw [12] (fun i wr2 => FacRel ps ss cl pv sv cv L ks d left w (.slice pa 0 pc) (.slice a 1 cap) i wr2) (fun i _ => 1 - (intOf i).toNat)
      case atStart => exact ⟨0, Nat.zero_le _, rfl, rfl, by show 1 + ((0 : Nat) : Int) ≤ left; omega, by simpa [sizeFL] using HB.out⟩
      case round =>
        clear HAL HB HUP c2 c5 k0 k1' k2' hsz hj
        obtain ⟨k, hkl, rfl, hok, hsz, hbase⟩ := hrel
        have HOK := Lib.hid hok; clear hok
        have HB := Lib.hid hbase
        obtain ⟨hwl, hup, c2, c5, k0, k1', k2', hsz2⟩ := hbase
        have HUP := Lib.hid hup; clear hup
        have HWL := Lib.hid hwl; clear hwl
        by_cases hlt : k < 1
        · obtain ⟨x, hx⟩ : ∃ x, ks[k]? = some x := ⟨ks[k]'(by have := HNK.out; omega), List.getElem?_eq_getElem _⟩
          obtain ⟨b, off, cs, ha, hb, hat, hxr, ih⟩ := HK.out k x hx
          subst ha
          obtain ⟨pvx, v, rfl, own, a', cap', rfl⟩ := hxr.six
          have hbW := (HW.out.trans (HUP.out.below W.heap.size HW.out.size (by intro y hy; simp at hy; omega)))
          have q0 := (hbW.cell (p := ⟨b, off + k * 6, none⟩) hb).trans (by simpa using hat 0 _ rfl)
          have q1 := (hbW.cell (p := ⟨b, off + k * 6 + 1, none⟩) hb).trans (by simpa using hat 1 _ rfl)
          have q2 := (hbW.cell (p := ⟨b, off + k * 6 + 2, none⟩) hb).trans (by simpa using hat 2 _ rfl)
          have q3 := (hbW.cell (p := ⟨b, off + k * 6 + 3, none⟩) hb).trans (by simpa using hat 3 _ rfl)
          have q4 := (hbW.cell (p := ⟨b, off + k * 6 + 4, none⟩) hb).trans (by simpa using hat 4 _ rfl)
          have q5 := (hbW.cell (p := ⟨b, off + k * 6 + 5, none⟩) hb).trans (by simpa using hat 5 _ rfl)
          have IH := Lib.hid ih; clear ih
          have HX := Lib.hid hx; clear hx
          have HBW := Lib.hid hbW; clear hbW hat hxr own
          cases hbk : facB ps ss cl x (d + 1) (left - 1 - sizeFL (ks.take k)) with
          | false =>
            have HBK := Lib.hid hbk; clear hbk
            go_wp2_with fail
            refine still_drew 9 (by kernel_rfl) (by kernel_rfl) ?_
            simp only [List.take_succ_cons, List.take_zero, List.drop_succ_cons, List.drop_zero]
            repeat still_step
            refine wpStill_nil ?_
            go_wp2_with (go_at_call 44; refine (IH.out (d + 1) _ L _ HBW.out.drew hWL HWL.out (by omega) (by omega) (by omega) (by omega) (HXp.out.up HUP.out.drew) (HXs.out.up HUP.out.drew) (HXc.out.up HUP.out.drew)).mono ?_; rintro e w2 ⟨rfl, hu2, -⟩; rw [HBK.out]; have HU2 := Lib.hid hu2; clear hu2)
            go_ret
            have hno : facB ps ss cl (.mk 5 nm ([] : List ByteArray) c 0 ks) d left = false := fac_stop HX.out HBK.out
            exact ⟨by rw [hno]; rfl, HUP.out.drew.trans HU2.out, fun h => by rw [hno] at h; cases h⟩
          | true =>
            have HBK := Lib.hid hbk; clear hbk
            go_wp2_with fail
            refine still_drew 9 (by kernel_rfl) (by kernel_rfl) ?_
            simp only [List.take_succ_cons, List.take_zero, List.drop_succ_cons, List.drop_zero]
            repeat still_step
            refine wpStill_nil ?_
            go_wp2_with (go_at_call 44; refine (IH.out (d + 1) _ L _ HBW.out.drew hWL HWL.out (by omega) (by omega) (by omega) (by omega) (HXp.out.up HUP.out.drew) (HXs.out.up HUP.out.drew) (HXc.out.up HUP.out.drew)).mono ?_; rintro e w2 ⟨rfl, hu2, hl2⟩; have HL2 := Lib.hid (hl2 HBK.out); clear hl2; rw [HBK.out]; have HU2 := Lib.hid hu2; clear hu2)
            have hbk := HBK.out
            unfold facB at hbk
            obtain ⟨e1, e2⟩ := Bool.and_eq_true_iff.1 hbk
            have e2 := of_decide_eq_true e2
            refine ⟨⟨_, _, _, _, _, _, _, _, _, _, _, _, _, _, _, _, _, _, _, _, ?rel, rfl⟩, ?measure⟩
            case rel => exact ⟨k + 1, by have := HNK.out; omega, by go_num, by rw [okFL_take (rfS ps ss cl) (d + 1) ks k x HX.out, HOK.out, e1]; rfl, by rw [sizeFL_take ks k x HX.out]; omega, by rw [leftF_next ks k x left HX.out]; exact HB.out.drew.upd hLz HU2.out HL2.out⟩
            case measure => simp [intOf]; omega
        · obtain rfl : k = 1 := by have := HNK.out; omega
          have htk : ks.take 1 = ks := List.take_of_length_le (by have := HNK.out; omega)
          have hrs := HRS.out
          have hok := HOK.out
          have hwl := HWL.out
          rw [htk] at hok hwl hsz
          have hyes : facB ps ss cl (.mk 5 nm ([] : List ByteArray) c 0 ks) d left = true := fac_all g2' hrs hok hsz
          clear htk hok hwl hrs
          have HY := Lib.hid hyes; clear hyes
          go_wp2_with fail
          go_ret
          exact ⟨by rw [HY.out]; rfl, HUP.out, fun _ => by have hwl := HWL.out; rw [List.take_of_length_le (show ks.length ≤ 1 by have := HNK.out; omega)] at hwl; rw [hwl]; simp [sizeF]; omega⟩
set_option maxRecDepth 100000 in
set_option maxHeartbeats 4000000 in
theorem fs6 (W : World) (ps ss cl : List ByteArray) (pv sv cv : Value) (nm c : ByteArray) (path : List ByteArray) (ks : List FT) (pa a : Option Addr) (pc nk cap L : Nat) (n d left : Int) (w : World) (hnk : nk = ks.length) (hW : Below W.heap.size W w) (hWL : W.heap.size ≤ L) (ho : SlO W pa path)
    (hk : ∀ k x, ks[k]? = some x → KidF W a (FacC ps ss cl pv sv cv) k x) (hrf : headB ps cl 6 nm path.length c n nk = true)
    (hv : REnv ps ss cl pv sv cv path.length nk L left d w) (k1 : nk = 2) (k2 : nm.toList.isEmpty = true) (k3 : path.length = 0) (k4 : c.toList.isEmpty = true) (k6 : n = 0)  :
    Calls Tryz.prog 44 #[.agg #[pv, sv, cv], .agg #[.int .i64 6, .string nm, .slice pa path.length pc, .string c, .int .i64 n, .slice a nk cap], .int .i64 d, .pointer (some ⟨L, 0, none⟩)] w (CntP L (facB ps ss cl (.mk 6 nm path c n ks) d left) (left - sizeF (.mk 6 nm path c n ks)) w) := by
  obtain ⟨hL, h0, h120, hd1, hd2, hpv, hsv, hcv, hp1, hs1, hc1, hq1, hq2⟩ := hv
  have hLz := lt_of_block hL
  have hc := cell_of_one hL
  have hf := free_of_one hL
  have HL := Lib.hid hL; clear hL
  have HP := Lib.hid (hasX hpv hp1)
  have HC := Lib.hid (hasX hcv hc1)
  have HS := Lib.hid (hasX hsv hs1)
  have HXp := Lib.hid hpv
  have HXs := Lib.hid hsv
  have HXc := Lib.hid hcv
  have HO := Lib.hid ho; clear ho
  have HK := Lib.hid hk; clear hk
  have HW := Lib.hid hW; clear hW
  have HRF := Lib.hid hrf; clear hrf
  have HNK := Lib.hid hnk; clear hnk
  have g1 : ¬ left - 1 < 0 := by omega
  have g2 : ¬ 12 < d := by omega
  have g2' : d ≤ 12 := by omega
  clear hpv hcv hsv
  subst k1
  obtain rfl : path = [] := List.length_eq_zero_iff.1 k3
  clear k3
  subst k6
  have k7 : numB 0 = true := rfl
  go_enter Tryz.func44, Tryz.ntmps44
  go_wp2_with (first | (go_at_call_of 71 (Value.string nm); refine (HP.out _ _ (by repeat (first | exact Upd.refl _ _ | refine Upd.alloc ?_ _ | refine Upd.setCell ?_ (fun _ => by simp) _ | refine Upd.drew ?_))).mono ?_; rintro e w' ⟨rfl, rfl⟩) | (go_at_call 71; refine (HC.out _ _ (by repeat (first | exact Upd.refl _ _ | refine Upd.alloc ?_ _ | refine Upd.setCell ?_ (fun _ => by simp) _ | refine Upd.drew ?_))).mono ?_; rintro e w' ⟨rfl, rfl⟩) | (go_at_call 72; refine (in_any _ _).mono ?_; rintro e w' ⟨rfl, rfl⟩))
  go_loopw [11] (fun i wr => PthRel ss pv sv cv L ([] : List ByteArray) left w (.slice pa 0 pc) (.slice a 2 cap) i wr) (fun i _ => 0 - (intOf i).toNat)
  case atStart =>
    refine ⟨0, Nat.zero_le _, rfl, rfl, ?_, updL2 _ _ _ _ _, ?_, ?_, ?_, ?_, ?_, ?_⟩
    · rw [Below.heap_alloc _ _ _ (by simp; omega), Below.heap_alloc _ _ _ (by simp; omega), one_setCell HL.out]
    · simp [go_sem]
    · simp [go_sem]
    · simp [go_sem]
    · simp [go_sem]
    · simp [go_sem]
    · simp
  case round =>
    obtain ⟨j, hj, rfl, hal, hbase⟩ := hrel
    have HAL := Lib.hid hal; clear hal
    have HB := Lib.hid hbase
    obtain ⟨-, hup, c2, c5, k0, k1', k2', hsz⟩ := hbase
    have HUP := Lib.hid hup; clear hup
    · obtain rfl : j = 0 := by simpa using hj
      have hall : ([] : List ByteArray).all (hasB ss) = true := rfl

      have hrs : rfS ps ss cl 6 nm ([] : List ByteArray) c 0 ks.length = true := by unfold rfS; rw [hall, ← HNK.out, HRF.out]; rfl
      have HRS := Lib.hid hrs; clear hrs hall
      go_wp2_with fail
      go_loopw [12] (fun i wr2 => FacRel ps ss cl pv sv cv L ks d left w (.slice pa 0 pc) (.slice a 2 cap) i wr2) (fun i _ => 2 - (intOf i).toNat)
      case atStart => exact ⟨0, Nat.zero_le _, rfl, rfl, by show 1 + ((0 : Nat) : Int) ≤ left; omega, by simpa [sizeFL] using HB.out⟩
      case round =>
        clear HAL HB HUP c2 c5 k0 k1' k2' hsz hj
        obtain ⟨k, hkl, rfl, hok, hsz, hbase⟩ := hrel
        have HOK := Lib.hid hok; clear hok
        have HB := Lib.hid hbase
        obtain ⟨hwl, hup, c2, c5, k0, k1', k2', hsz2⟩ := hbase
        have HUP := Lib.hid hup; clear hup
        have HWL := Lib.hid hwl; clear hwl
        by_cases hlt : k < 2
        · obtain ⟨x, hx⟩ : ∃ x, ks[k]? = some x := ⟨ks[k]'(by have := HNK.out; omega), List.getElem?_eq_getElem _⟩
          obtain ⟨b, off, cs, ha, hb, hat, hxr, ih⟩ := HK.out k x hx
          subst ha
          obtain ⟨pvx, v, rfl, own, a', cap', rfl⟩ := hxr.six
          have hbW := (HW.out.trans (HUP.out.below W.heap.size HW.out.size (by intro y hy; simp at hy; omega)))
          have q0 := (hbW.cell (p := ⟨b, off + k * 6, none⟩) hb).trans (by simpa using hat 0 _ rfl)
          have q1 := (hbW.cell (p := ⟨b, off + k * 6 + 1, none⟩) hb).trans (by simpa using hat 1 _ rfl)
          have q2 := (hbW.cell (p := ⟨b, off + k * 6 + 2, none⟩) hb).trans (by simpa using hat 2 _ rfl)
          have q3 := (hbW.cell (p := ⟨b, off + k * 6 + 3, none⟩) hb).trans (by simpa using hat 3 _ rfl)
          have q4 := (hbW.cell (p := ⟨b, off + k * 6 + 4, none⟩) hb).trans (by simpa using hat 4 _ rfl)
          have q5 := (hbW.cell (p := ⟨b, off + k * 6 + 5, none⟩) hb).trans (by simpa using hat 5 _ rfl)
          have IH := Lib.hid ih; clear ih
          have HX := Lib.hid hx; clear hx
          have HBW := Lib.hid hbW; clear hbW hat hxr own
          cases hbk : facB ps ss cl x (d + 1) (left - 1 - sizeFL (ks.take k)) with
          | false =>
            have HBK := Lib.hid hbk; clear hbk
            go_wp2_with fail
            refine still_drew 9 (by kernel_rfl) (by kernel_rfl) ?_
            simp only [List.take_succ_cons, List.take_zero, List.drop_succ_cons, List.drop_zero]
            repeat still_step
            refine wpStill_nil ?_
            go_wp2_with (go_at_call 44; refine (IH.out (d + 1) _ L _ HBW.out.drew hWL HWL.out (by omega) (by omega) (by omega) (by omega) (HXp.out.up HUP.out.drew) (HXs.out.up HUP.out.drew) (HXc.out.up HUP.out.drew)).mono ?_; rintro e w2 ⟨rfl, hu2, -⟩; rw [HBK.out]; have HU2 := Lib.hid hu2; clear hu2)
            go_ret
            have hno : facB ps ss cl (.mk 6 nm ([] : List ByteArray) c 0 ks) d left = false := fac_stop HX.out HBK.out
            exact ⟨by rw [hno]; rfl, HUP.out.drew.trans HU2.out, fun h => by rw [hno] at h; cases h⟩
          | true =>
            have HBK := Lib.hid hbk; clear hbk
            go_wp2_with fail
            refine still_drew 9 (by kernel_rfl) (by kernel_rfl) ?_
            simp only [List.take_succ_cons, List.take_zero, List.drop_succ_cons, List.drop_zero]
            repeat still_step
            refine wpStill_nil ?_
            go_wp2_with (go_at_call 44; refine (IH.out (d + 1) _ L _ HBW.out.drew hWL HWL.out (by omega) (by omega) (by omega) (by omega) (HXp.out.up HUP.out.drew) (HXs.out.up HUP.out.drew) (HXc.out.up HUP.out.drew)).mono ?_; rintro e w2 ⟨rfl, hu2, hl2⟩; have HL2 := Lib.hid (hl2 HBK.out); clear hl2; rw [HBK.out]; have HU2 := Lib.hid hu2; clear hu2)
            have hbk := HBK.out
            unfold facB at hbk
            obtain ⟨e1, e2⟩ := Bool.and_eq_true_iff.1 hbk
            have e2 := of_decide_eq_true e2
            refine ⟨⟨_, _, _, _, _, _, _, _, _, _, _, _, _, _, _, _, _, _, _, _, ?rel, rfl⟩, ?measure⟩
            case rel => exact ⟨k + 1, by have := HNK.out; omega, by go_num, by rw [okFL_take (rfS ps ss cl) (d + 1) ks k x HX.out, HOK.out, e1]; rfl, by rw [sizeFL_take ks k x HX.out]; omega, by rw [leftF_next ks k x left HX.out]; exact HB.out.drew.upd hLz HU2.out HL2.out⟩
            case measure => simp [intOf]; omega
        · obtain rfl : k = 2 := by have := HNK.out; omega
          have htk : ks.take 2 = ks := List.take_of_length_le (by have := HNK.out; omega)
          have hrs := HRS.out
          have hok := HOK.out
          have hwl := HWL.out
          rw [htk] at hok hwl hsz
          have hyes : facB ps ss cl (.mk 6 nm ([] : List ByteArray) c 0 ks) d left = true := fac_all g2' hrs hok hsz
          clear htk hok hwl hrs
          have HY := Lib.hid hyes; clear hyes
          go_wp2_with fail
          go_ret
          exact ⟨by rw [HY.out]; rfl, HUP.out, fun _ => by have hwl := HWL.out; rw [List.take_of_length_le (show ks.length ≤ 2 by have := HNK.out; omega)] at hwl; rw [hwl]; simp [sizeF]; omega⟩
set_option maxRecDepth 100000 in
set_option maxHeartbeats 4000000 in
theorem fs7 (W : World) (ps ss cl : List ByteArray) (pv sv cv : Value) (nm c : ByteArray) (path : List ByteArray) (ks : List FT) (pa a : Option Addr) (pc nk cap L : Nat) (n d left : Int) (w : World) (hnk : nk = ks.length) (hW : Below W.heap.size W w) (hWL : W.heap.size ≤ L) (ho : SlO W pa path)
    (hk : ∀ k x, ks[k]? = some x → KidF W a (FacC ps ss cl pv sv cv) k x) (hrf : headB ps cl 7 nm path.length c n nk = true)
    (hv : REnv ps ss cl pv sv cv path.length nk L left d w) (k1 : nk = 2) (k2 : nm.toList.isEmpty = true) (k3 : path.length = 0) (k4 : c.toList.isEmpty = true) (k6 : n = 0)  :
    Calls Tryz.prog 44 #[.agg #[pv, sv, cv], .agg #[.int .i64 7, .string nm, .slice pa path.length pc, .string c, .int .i64 n, .slice a nk cap], .int .i64 d, .pointer (some ⟨L, 0, none⟩)] w (CntP L (facB ps ss cl (.mk 7 nm path c n ks) d left) (left - sizeF (.mk 7 nm path c n ks)) w) := by
  obtain ⟨hL, h0, h120, hd1, hd2, hpv, hsv, hcv, hp1, hs1, hc1, hq1, hq2⟩ := hv
  have hLz := lt_of_block hL
  have hc := cell_of_one hL
  have hf := free_of_one hL
  have HL := Lib.hid hL; clear hL
  have HP := Lib.hid (hasX hpv hp1)
  have HC := Lib.hid (hasX hcv hc1)
  have HS := Lib.hid (hasX hsv hs1)
  have HXp := Lib.hid hpv
  have HXs := Lib.hid hsv
  have HXc := Lib.hid hcv
  have HO := Lib.hid ho; clear ho
  have HK := Lib.hid hk; clear hk
  have HW := Lib.hid hW; clear hW
  have HRF := Lib.hid hrf; clear hrf
  have HNK := Lib.hid hnk; clear hnk
  have g1 : ¬ left - 1 < 0 := by omega
  have g2 : ¬ 12 < d := by omega
  have g2' : d ≤ 12 := by omega
  clear hpv hcv hsv
  subst k1
  obtain rfl : path = [] := List.length_eq_zero_iff.1 k3
  clear k3
  subst k6
  have k7 : numB 0 = true := rfl
  go_enter Tryz.func44, Tryz.ntmps44
  go_wp2_with (first | (go_at_call_of 71 (Value.string nm); refine (HP.out _ _ (by repeat (first | exact Upd.refl _ _ | refine Upd.alloc ?_ _ | refine Upd.setCell ?_ (fun _ => by simp) _ | refine Upd.drew ?_))).mono ?_; rintro e w' ⟨rfl, rfl⟩) | (go_at_call 71; refine (HC.out _ _ (by repeat (first | exact Upd.refl _ _ | refine Upd.alloc ?_ _ | refine Upd.setCell ?_ (fun _ => by simp) _ | refine Upd.drew ?_))).mono ?_; rintro e w' ⟨rfl, rfl⟩) | (go_at_call 72; refine (in_any _ _).mono ?_; rintro e w' ⟨rfl, rfl⟩))
  go_loopw [11] (fun i wr => PthRel ss pv sv cv L ([] : List ByteArray) left w (.slice pa 0 pc) (.slice a 2 cap) i wr) (fun i _ => 0 - (intOf i).toNat)
  case atStart =>
    refine ⟨0, Nat.zero_le _, rfl, rfl, ?_, updL2 _ _ _ _ _, ?_, ?_, ?_, ?_, ?_, ?_⟩
    · rw [Below.heap_alloc _ _ _ (by simp; omega), Below.heap_alloc _ _ _ (by simp; omega), one_setCell HL.out]
    · simp [go_sem]
    · simp [go_sem]
    · simp [go_sem]
    · simp [go_sem]
    · simp [go_sem]
    · simp
  case round =>
    obtain ⟨j, hj, rfl, hal, hbase⟩ := hrel
    have HAL := Lib.hid hal; clear hal
    have HB := Lib.hid hbase
    obtain ⟨-, hup, c2, c5, k0, k1', k2', hsz⟩ := hbase
    have HUP := Lib.hid hup; clear hup
    · obtain rfl : j = 0 := by simpa using hj
      have hall : ([] : List ByteArray).all (hasB ss) = true := rfl

      have hrs : rfS ps ss cl 7 nm ([] : List ByteArray) c 0 ks.length = true := by unfold rfS; rw [hall, ← HNK.out, HRF.out]; rfl
      have HRS := Lib.hid hrs; clear hrs hall
      go_wp2_with fail
      go_loopw [12] (fun i wr2 => FacRel ps ss cl pv sv cv L ks d left w (.slice pa 0 pc) (.slice a 2 cap) i wr2) (fun i _ => 2 - (intOf i).toNat)
      case atStart => exact ⟨0, Nat.zero_le _, rfl, rfl, by show 1 + ((0 : Nat) : Int) ≤ left; omega, by simpa [sizeFL] using HB.out⟩
      case round =>
        clear HAL HB HUP c2 c5 k0 k1' k2' hsz hj
        obtain ⟨k, hkl, rfl, hok, hsz, hbase⟩ := hrel
        have HOK := Lib.hid hok; clear hok
        have HB := Lib.hid hbase
        obtain ⟨hwl, hup, c2, c5, k0, k1', k2', hsz2⟩ := hbase
        have HUP := Lib.hid hup; clear hup
        have HWL := Lib.hid hwl; clear hwl
        by_cases hlt : k < 2
        · obtain ⟨x, hx⟩ : ∃ x, ks[k]? = some x := ⟨ks[k]'(by have := HNK.out; omega), List.getElem?_eq_getElem _⟩
          obtain ⟨b, off, cs, ha, hb, hat, hxr, ih⟩ := HK.out k x hx
          subst ha
          obtain ⟨pvx, v, rfl, own, a', cap', rfl⟩ := hxr.six
          have hbW := (HW.out.trans (HUP.out.below W.heap.size HW.out.size (by intro y hy; simp at hy; omega)))
          have q0 := (hbW.cell (p := ⟨b, off + k * 6, none⟩) hb).trans (by simpa using hat 0 _ rfl)
          have q1 := (hbW.cell (p := ⟨b, off + k * 6 + 1, none⟩) hb).trans (by simpa using hat 1 _ rfl)
          have q2 := (hbW.cell (p := ⟨b, off + k * 6 + 2, none⟩) hb).trans (by simpa using hat 2 _ rfl)
          have q3 := (hbW.cell (p := ⟨b, off + k * 6 + 3, none⟩) hb).trans (by simpa using hat 3 _ rfl)
          have q4 := (hbW.cell (p := ⟨b, off + k * 6 + 4, none⟩) hb).trans (by simpa using hat 4 _ rfl)
          have q5 := (hbW.cell (p := ⟨b, off + k * 6 + 5, none⟩) hb).trans (by simpa using hat 5 _ rfl)
          have IH := Lib.hid ih; clear ih
          have HX := Lib.hid hx; clear hx
          have HBW := Lib.hid hbW; clear hbW hat hxr own
          cases hbk : facB ps ss cl x (d + 1) (left - 1 - sizeFL (ks.take k)) with
          | false =>
            have HBK := Lib.hid hbk; clear hbk
            go_wp2_with fail
            refine still_drew 9 (by kernel_rfl) (by kernel_rfl) ?_
            simp only [List.take_succ_cons, List.take_zero, List.drop_succ_cons, List.drop_zero]
            repeat still_step
            refine wpStill_nil ?_
            go_wp2_with (go_at_call 44; refine (IH.out (d + 1) _ L _ HBW.out.drew hWL HWL.out (by omega) (by omega) (by omega) (by omega) (HXp.out.up HUP.out.drew) (HXs.out.up HUP.out.drew) (HXc.out.up HUP.out.drew)).mono ?_; rintro e w2 ⟨rfl, hu2, -⟩; rw [HBK.out]; have HU2 := Lib.hid hu2; clear hu2)
            go_ret
            have hno : facB ps ss cl (.mk 7 nm ([] : List ByteArray) c 0 ks) d left = false := fac_stop HX.out HBK.out
            exact ⟨by rw [hno]; rfl, HUP.out.drew.trans HU2.out, fun h => by rw [hno] at h; cases h⟩
          | true =>
            have HBK := Lib.hid hbk; clear hbk
            go_wp2_with fail
            refine still_drew 9 (by kernel_rfl) (by kernel_rfl) ?_
            simp only [List.take_succ_cons, List.take_zero, List.drop_succ_cons, List.drop_zero]
            repeat still_step
            refine wpStill_nil ?_
            go_wp2_with (go_at_call 44; refine (IH.out (d + 1) _ L _ HBW.out.drew hWL HWL.out (by omega) (by omega) (by omega) (by omega) (HXp.out.up HUP.out.drew) (HXs.out.up HUP.out.drew) (HXc.out.up HUP.out.drew)).mono ?_; rintro e w2 ⟨rfl, hu2, hl2⟩; have HL2 := Lib.hid (hl2 HBK.out); clear hl2; rw [HBK.out]; have HU2 := Lib.hid hu2; clear hu2)
            have hbk := HBK.out
            unfold facB at hbk
            obtain ⟨e1, e2⟩ := Bool.and_eq_true_iff.1 hbk
            have e2 := of_decide_eq_true e2
            refine ⟨⟨_, _, _, _, _, _, _, _, _, _, _, _, _, _, _, _, _, _, _, _, ?rel, rfl⟩, ?measure⟩
            case rel => exact ⟨k + 1, by have := HNK.out; omega, by go_num, by rw [okFL_take (rfS ps ss cl) (d + 1) ks k x HX.out, HOK.out, e1]; rfl, by rw [sizeFL_take ks k x HX.out]; omega, by rw [leftF_next ks k x left HX.out]; exact HB.out.drew.upd hLz HU2.out HL2.out⟩
            case measure => simp [intOf]; omega
        · obtain rfl : k = 2 := by have := HNK.out; omega
          have htk : ks.take 2 = ks := List.take_of_length_le (by have := HNK.out; omega)
          have hrs := HRS.out
          have hok := HOK.out
          have hwl := HWL.out
          rw [htk] at hok hwl hsz
          have hyes : facB ps ss cl (.mk 7 nm ([] : List ByteArray) c 0 ks) d left = true := fac_all g2' hrs hok hsz
          clear htk hok hwl hrs
          have HY := Lib.hid hyes; clear hyes
          go_wp2_with fail
          go_ret
          exact ⟨by rw [HY.out]; rfl, HUP.out, fun _ => by have hwl := HWL.out; rw [List.take_of_length_le (show ks.length ≤ 2 by have := HNK.out; omega)] at hwl; rw [hwl]; simp [sizeF]; omega⟩
end Go.Proofs.YtnipdjkopmjoeaaGreatDoor
namespace Go.Proofs.YtnipdjkopmjoeaaGreatDoor
open Go.ChangeShapes Go.WideShapes Go.ChangeAt Go.RowKit Go.Fs
theorem CntP.no {L : Nat} {x y : Int} {w w' : World} {b : Bool} {e : Ending} (hb : b = false) (h : CntP L false x w e w') : CntP L b y w e w' := by
  subst hb
  exact ⟨h.1, h.2.1, fun h => by cases h⟩
theorem fac_head {ps ss cl : List ByteArray} {op n : Int} {s c : ByteArray} {path : List ByteArray} {ks : List FT} {d left : Int} (h : headB ps cl op s path.length c n ks.length = false) : facB ps ss cl (.mk op s path c n ks) d left = false :=
  fac_no (.inr (.inr (by unfold rfS; rw [h]; rfl)))
theorem fo1 (W : World) (ps ss cl : List ByteArray) (pv sv cv : Value) (nm c : ByteArray) (path : List ByteArray) (ks : List FT) (pa a : Option Addr) (pc cap L : Nat) (n d left : Int) (w : World) (hW : Below W.heap.size W w) (hWL : W.heap.size ≤ L) (ho : SlO W pa path)
    (hk : ∀ k x, ks[k]? = some x → KidF W a (FacC ps ss cl pv sv cv) k x) (hv : REnv ps ss cl pv sv cv path.length ks.length L left d w) :
    Calls Tryz.prog 44 #[.agg #[pv, sv, cv], .agg #[.int .i64 1, .string nm, .slice pa path.length pc, .string c, .int .i64 n, .slice a ks.length cap], .int .i64 d, .pointer (some ⟨L, 0, none⟩)] w (CntP L (facB ps ss cl (.mk 1 nm path c n ks) d left) (left - sizeF (.mk 1 nm path c n ks)) w) := by
  by_cases k1 : ks.length = 0
  case neg => exact (rf1a _ _ _ _ _ _ _ _ _ _ _ _ _ _ _ _ _ _ _ hv k1).mono fun _ _ h => h.no (fac_head (by simp [headB, fKid, fPth, fCls, fNum, k1]))
  cases k2 : nm.toList.isEmpty
  case false => exact (rf1b _ _ _ _ _ _ _ _ _ _ _ _ _ _ _ _ _ _ _ hv k1 k2).mono fun _ _ h => h.no (fac_head (by simp [headB, fKid, fPth, fCls, fNum, k1, k2]))
  by_cases k3 : path.length = 0
  case neg => exact (rf1c _ _ _ _ _ _ _ _ _ _ _ _ _ _ _ _ _ _ _ hv k1 k2 (by omega)).mono fun _ _ h => h.no (fac_head (by simp [headB, fKid, fPth, fCls, fNum, k1, k2, k3]))
  cases k4 : c.toList.isEmpty
  case false => exact (rf1d _ _ _ _ _ _ _ _ _ _ _ _ _ _ _ _ _ _ _ hv k1 k2 k3 k4).mono fun _ _ h => h.no (fac_head (by simp [headB, fKid, fPth, fCls, fNum, k1, k2, k3, k4]))
  by_cases k6 : n = 0
  case neg => exact (rf1f _ _ _ _ _ _ _ _ _ _ _ _ _ _ _ _ _ _ _ hv k1 k2 k3 k4 k6).mono fun _ _ h => h.no (fac_head (by simp [headB, fKid, fPth, fCls, fNum, k1, k2, k3, k4, k6]))
  exact fs1 W ps ss cl pv sv cv nm c path ks pa a pc ks.length cap L n d left w rfl hW hWL ho hk (by simp [headB, fKid, fPth, fCls, fNum, k1, k2, k3, k4, k6]) hv k1 k2 k3 k4 k6
theorem fo2 (W : World) (ps ss cl : List ByteArray) (pv sv cv : Value) (nm c : ByteArray) (path : List ByteArray) (ks : List FT) (pa a : Option Addr) (pc cap L : Nat) (n d left : Int) (w : World) (hW : Below W.heap.size W w) (hWL : W.heap.size ≤ L) (ho : SlO W pa path)
    (hk : ∀ k x, ks[k]? = some x → KidF W a (FacC ps ss cl pv sv cv) k x) (hv : REnv ps ss cl pv sv cv path.length ks.length L left d w) :
    Calls Tryz.prog 44 #[.agg #[pv, sv, cv], .agg #[.int .i64 2, .string nm, .slice pa path.length pc, .string c, .int .i64 n, .slice a ks.length cap], .int .i64 d, .pointer (some ⟨L, 0, none⟩)] w (CntP L (facB ps ss cl (.mk 2 nm path c n ks) d left) (left - sizeF (.mk 2 nm path c n ks)) w) := by
  by_cases k1 : ks.length = 0
  case neg => exact (rf2a _ _ _ _ _ _ _ _ _ _ _ _ _ _ _ _ _ _ _ hv k1).mono fun _ _ h => h.no (fac_head (by simp [headB, fKid, fPth, fCls, fNum, k1]))
  cases k2 : hasB ps nm
  case false => exact (rf2b _ _ _ _ _ _ _ _ _ _ _ _ _ _ _ _ _ _ _ hv k1 k2).mono fun _ _ h => h.no (fac_head (by simp [headB, fKid, fPth, fCls, fNum, k1, k2]))
  by_cases k3 : (path.length : Int) ≤ 2
  case neg => exact (rf2c _ _ _ _ _ _ _ _ _ _ _ _ _ _ _ _ _ _ _ hv k1 k2 (by omega)).mono fun _ _ h => h.no (fac_head (by simp [headB, fKid, fPth, fCls, fNum, k1, k2, k3]))
  cases k4 : c.toList.isEmpty
  case true => exact (rf2d _ _ _ _ _ _ _ _ _ _ _ _ _ _ _ _ _ _ _ hv k1 k2 k3 k4).mono fun _ _ h => h.no (fac_head (by simp [headB, fKid, fPth, fCls, fNum, k1, k2, k3, k4]))
  cases k5 : hasB cl c
  case false => exact (rf2e _ _ _ _ _ _ _ _ _ _ _ _ _ _ _ _ _ _ _ hv k1 k2 k3 k4 k5).mono fun _ _ h => h.no (fac_head (by simp [headB, fKid, fPth, fCls, fNum, k1, k2, k3, k4, k5]))
  by_cases k6 : n = 0
  case neg => exact (rf2f _ _ _ _ _ _ _ _ _ _ _ _ _ _ _ _ _ _ _ hv k1 k2 k3 k4 k5 k6).mono fun _ _ h => h.no (fac_head (by simp [headB, fKid, fPth, fCls, fNum, k1, k2, k3, k4, k5, k6]))
  exact fs2 W ps ss cl pv sv cv nm c path ks pa a pc ks.length cap L n d left w rfl hW hWL ho hk (by simp [headB, fKid, fPth, fCls, fNum, k1, k2, k3, k4, k5, k6]) hv k1 k2 k3 k4 k5 k6
theorem fo3 (W : World) (ps ss cl : List ByteArray) (pv sv cv : Value) (nm c : ByteArray) (path : List ByteArray) (ks : List FT) (pa a : Option Addr) (pc cap L : Nat) (n d left : Int) (w : World) (hW : Below W.heap.size W w) (hWL : W.heap.size ≤ L) (ho : SlO W pa path)
    (hk : ∀ k x, ks[k]? = some x → KidF W a (FacC ps ss cl pv sv cv) k x) (hv : REnv ps ss cl pv sv cv path.length ks.length L left d w) :
    Calls Tryz.prog 44 #[.agg #[pv, sv, cv], .agg #[.int .i64 3, .string nm, .slice pa path.length pc, .string c, .int .i64 n, .slice a ks.length cap], .int .i64 d, .pointer (some ⟨L, 0, none⟩)] w (CntP L (facB ps ss cl (.mk 3 nm path c n ks) d left) (left - sizeF (.mk 3 nm path c n ks)) w) := by
  by_cases k1 : ks.length = 0
  case neg => exact (rf3a _ _ _ _ _ _ _ _ _ _ _ _ _ _ _ _ _ _ _ hv k1).mono fun _ _ h => h.no (fac_head (by simp [headB, fKid, fPth, fCls, fNum, k1]))
  cases k2 : hasB ps nm
  case false => exact (rf3b _ _ _ _ _ _ _ _ _ _ _ _ _ _ _ _ _ _ _ hv k1 k2).mono fun _ _ h => h.no (fac_head (by simp [headB, fKid, fPth, fCls, fNum, k1, k2]))
  by_cases k3 : (path.length : Int) ≤ 2
  case neg => exact (rf3c _ _ _ _ _ _ _ _ _ _ _ _ _ _ _ _ _ _ _ hv k1 k2 (by omega)).mono fun _ _ h => h.no (fac_head (by simp [headB, fKid, fPth, fCls, fNum, k1, k2, k3]))
  cases k4 : c.toList.isEmpty
  case false => exact (rf3d _ _ _ _ _ _ _ _ _ _ _ _ _ _ _ _ _ _ _ hv k1 k2 k3 k4).mono fun _ _ h => h.no (fac_head (by simp [headB, fKid, fPth, fCls, fNum, k1, k2, k3, k4]))
  cases k6 : numB n
  case false => exact (rf3f _ _ _ _ _ _ _ _ _ _ _ _ _ _ _ _ _ _ _ hv k1 k2 k3 k4 k6).mono fun _ _ h => h.no (fac_head (by simp [headB, fKid, fPth, fCls, fNum, k1, k2, k3, k4, k6]))
  exact fs3 W ps ss cl pv sv cv nm c path ks pa a pc ks.length cap L n d left w rfl hW hWL ho hk (by simp [headB, fKid, fPth, fCls, fNum, k1, k2, k3, k4, k6]) hv k1 k2 k3 k4 k6
theorem fo4 (W : World) (ps ss cl : List ByteArray) (pv sv cv : Value) (nm c : ByteArray) (path : List ByteArray) (ks : List FT) (pa a : Option Addr) (pc cap L : Nat) (n d left : Int) (w : World) (hW : Below W.heap.size W w) (hWL : W.heap.size ≤ L) (ho : SlO W pa path)
    (hk : ∀ k x, ks[k]? = some x → KidF W a (FacC ps ss cl pv sv cv) k x) (hv : REnv ps ss cl pv sv cv path.length ks.length L left d w) :
    Calls Tryz.prog 44 #[.agg #[pv, sv, cv], .agg #[.int .i64 4, .string nm, .slice pa path.length pc, .string c, .int .i64 n, .slice a ks.length cap], .int .i64 d, .pointer (some ⟨L, 0, none⟩)] w (CntP L (facB ps ss cl (.mk 4 nm path c n ks) d left) (left - sizeF (.mk 4 nm path c n ks)) w) := by
  by_cases k1 : ks.length = 0
  case neg => exact (rf4a _ _ _ _ _ _ _ _ _ _ _ _ _ _ _ _ _ _ _ hv k1).mono fun _ _ h => h.no (fac_head (by simp [headB, fKid, fPth, fCls, fNum, k1]))
  cases k2 : hasB ps nm
  case false => exact (rf4b _ _ _ _ _ _ _ _ _ _ _ _ _ _ _ _ _ _ _ hv k1 k2).mono fun _ _ h => h.no (fac_head (by simp [headB, fKid, fPth, fCls, fNum, k1, k2]))
  by_cases k3 : (path.length : Int) ≤ 2
  case neg => exact (rf4c _ _ _ _ _ _ _ _ _ _ _ _ _ _ _ _ _ _ _ hv k1 k2 (by omega)).mono fun _ _ h => h.no (fac_head (by simp [headB, fKid, fPth, fCls, fNum, k1, k2, k3]))
  cases k4 : c.toList.isEmpty
  case false => exact (rf4d _ _ _ _ _ _ _ _ _ _ _ _ _ _ _ _ _ _ _ hv k1 k2 k3 k4).mono fun _ _ h => h.no (fac_head (by simp [headB, fKid, fPth, fCls, fNum, k1, k2, k3, k4]))
  cases k6 : numB n
  case false => exact (rf4f _ _ _ _ _ _ _ _ _ _ _ _ _ _ _ _ _ _ _ hv k1 k2 k3 k4 k6).mono fun _ _ h => h.no (fac_head (by simp [headB, fKid, fPth, fCls, fNum, k1, k2, k3, k4, k6]))
  exact fs4 W ps ss cl pv sv cv nm c path ks pa a pc ks.length cap L n d left w rfl hW hWL ho hk (by simp [headB, fKid, fPth, fCls, fNum, k1, k2, k3, k4, k6]) hv k1 k2 k3 k4 k6
theorem fo5 (W : World) (ps ss cl : List ByteArray) (pv sv cv : Value) (nm c : ByteArray) (path : List ByteArray) (ks : List FT) (pa a : Option Addr) (pc cap L : Nat) (n d left : Int) (w : World) (hW : Below W.heap.size W w) (hWL : W.heap.size ≤ L) (ho : SlO W pa path)
    (hk : ∀ k x, ks[k]? = some x → KidF W a (FacC ps ss cl pv sv cv) k x) (hv : REnv ps ss cl pv sv cv path.length ks.length L left d w) :
    Calls Tryz.prog 44 #[.agg #[pv, sv, cv], .agg #[.int .i64 5, .string nm, .slice pa path.length pc, .string c, .int .i64 n, .slice a ks.length cap], .int .i64 d, .pointer (some ⟨L, 0, none⟩)] w (CntP L (facB ps ss cl (.mk 5 nm path c n ks) d left) (left - sizeF (.mk 5 nm path c n ks)) w) := by
  by_cases k1 : ks.length = 1
  case neg => exact (rf5a _ _ _ _ _ _ _ _ _ _ _ _ _ _ _ _ _ _ _ hv k1).mono fun _ _ h => h.no (fac_head (by simp [headB, fKid, fPth, fCls, fNum]; intro h; omega))
  cases k2 : nm.toList.isEmpty
  case false => exact (rf5b _ _ _ _ _ _ _ _ _ _ _ _ _ _ _ _ _ _ _ hv k1 k2).mono fun _ _ h => h.no (fac_head (by simp [headB, fKid, fPth, fCls, fNum, k1, k2]))
  by_cases k3 : path.length = 0
  case neg => exact (rf5c _ _ _ _ _ _ _ _ _ _ _ _ _ _ _ _ _ _ _ hv k1 k2 (by omega)).mono fun _ _ h => h.no (fac_head (by simp [headB, fKid, fPth, fCls, fNum, k1, k2, k3]))
  cases k4 : c.toList.isEmpty
  case false => exact (rf5d _ _ _ _ _ _ _ _ _ _ _ _ _ _ _ _ _ _ _ hv k1 k2 k3 k4).mono fun _ _ h => h.no (fac_head (by simp [headB, fKid, fPth, fCls, fNum, k1, k2, k3, k4]))
  by_cases k6 : n = 0
  case neg => exact (rf5f _ _ _ _ _ _ _ _ _ _ _ _ _ _ _ _ _ _ _ hv k1 k2 k3 k4 k6).mono fun _ _ h => h.no (fac_head (by simp [headB, fKid, fPth, fCls, fNum, k1, k2, k3, k4, k6]))
  exact fs5 W ps ss cl pv sv cv nm c path ks pa a pc ks.length cap L n d left w rfl hW hWL ho hk (by simp [headB, fKid, fPth, fCls, fNum, k1, k2, k3, k4, k6]) hv k1 k2 k3 k4 k6
theorem fo6 (W : World) (ps ss cl : List ByteArray) (pv sv cv : Value) (nm c : ByteArray) (path : List ByteArray) (ks : List FT) (pa a : Option Addr) (pc cap L : Nat) (n d left : Int) (w : World) (hW : Below W.heap.size W w) (hWL : W.heap.size ≤ L) (ho : SlO W pa path)
    (hk : ∀ k x, ks[k]? = some x → KidF W a (FacC ps ss cl pv sv cv) k x) (hv : REnv ps ss cl pv sv cv path.length ks.length L left d w) :
    Calls Tryz.prog 44 #[.agg #[pv, sv, cv], .agg #[.int .i64 6, .string nm, .slice pa path.length pc, .string c, .int .i64 n, .slice a ks.length cap], .int .i64 d, .pointer (some ⟨L, 0, none⟩)] w (CntP L (facB ps ss cl (.mk 6 nm path c n ks) d left) (left - sizeF (.mk 6 nm path c n ks)) w) := by
  by_cases k1 : ks.length = 2
  case neg => exact (rf6a _ _ _ _ _ _ _ _ _ _ _ _ _ _ _ _ _ _ _ hv k1).mono fun _ _ h => h.no (fac_head (by simp [headB, fKid, fPth, fCls, fNum]; intro h; omega))
  cases k2 : nm.toList.isEmpty
  case false => exact (rf6b _ _ _ _ _ _ _ _ _ _ _ _ _ _ _ _ _ _ _ hv k1 k2).mono fun _ _ h => h.no (fac_head (by simp [headB, fKid, fPth, fCls, fNum, k1, k2]))
  by_cases k3 : path.length = 0
  case neg => exact (rf6c _ _ _ _ _ _ _ _ _ _ _ _ _ _ _ _ _ _ _ hv k1 k2 (by omega)).mono fun _ _ h => h.no (fac_head (by simp [headB, fKid, fPth, fCls, fNum, k1, k2, k3]))
  cases k4 : c.toList.isEmpty
  case false => exact (rf6d _ _ _ _ _ _ _ _ _ _ _ _ _ _ _ _ _ _ _ hv k1 k2 k3 k4).mono fun _ _ h => h.no (fac_head (by simp [headB, fKid, fPth, fCls, fNum, k1, k2, k3, k4]))
  by_cases k6 : n = 0
  case neg => exact (rf6f _ _ _ _ _ _ _ _ _ _ _ _ _ _ _ _ _ _ _ hv k1 k2 k3 k4 k6).mono fun _ _ h => h.no (fac_head (by simp [headB, fKid, fPth, fCls, fNum, k1, k2, k3, k4, k6]))
  exact fs6 W ps ss cl pv sv cv nm c path ks pa a pc ks.length cap L n d left w rfl hW hWL ho hk (by simp [headB, fKid, fPth, fCls, fNum, k1, k2, k3, k4, k6]) hv k1 k2 k3 k4 k6
theorem fo7 (W : World) (ps ss cl : List ByteArray) (pv sv cv : Value) (nm c : ByteArray) (path : List ByteArray) (ks : List FT) (pa a : Option Addr) (pc cap L : Nat) (n d left : Int) (w : World) (hW : Below W.heap.size W w) (hWL : W.heap.size ≤ L) (ho : SlO W pa path)
    (hk : ∀ k x, ks[k]? = some x → KidF W a (FacC ps ss cl pv sv cv) k x) (hv : REnv ps ss cl pv sv cv path.length ks.length L left d w) :
    Calls Tryz.prog 44 #[.agg #[pv, sv, cv], .agg #[.int .i64 7, .string nm, .slice pa path.length pc, .string c, .int .i64 n, .slice a ks.length cap], .int .i64 d, .pointer (some ⟨L, 0, none⟩)] w (CntP L (facB ps ss cl (.mk 7 nm path c n ks) d left) (left - sizeF (.mk 7 nm path c n ks)) w) := by
  by_cases k1 : ks.length = 2
  case neg => exact (rf7a _ _ _ _ _ _ _ _ _ _ _ _ _ _ _ _ _ _ _ hv k1).mono fun _ _ h => h.no (fac_head (by simp [headB, fKid, fPth, fCls, fNum]; intro h; omega))
  cases k2 : nm.toList.isEmpty
  case false => exact (rf7b _ _ _ _ _ _ _ _ _ _ _ _ _ _ _ _ _ _ _ hv k1 k2).mono fun _ _ h => h.no (fac_head (by simp [headB, fKid, fPth, fCls, fNum, k1, k2]))
  by_cases k3 : path.length = 0
  case neg => exact (rf7c _ _ _ _ _ _ _ _ _ _ _ _ _ _ _ _ _ _ _ hv k1 k2 (by omega)).mono fun _ _ h => h.no (fac_head (by simp [headB, fKid, fPth, fCls, fNum, k1, k2, k3]))
  cases k4 : c.toList.isEmpty
  case false => exact (rf7d _ _ _ _ _ _ _ _ _ _ _ _ _ _ _ _ _ _ _ hv k1 k2 k3 k4).mono fun _ _ h => h.no (fac_head (by simp [headB, fKid, fPth, fCls, fNum, k1, k2, k3, k4]))
  by_cases k6 : n = 0
  case neg => exact (rf7f _ _ _ _ _ _ _ _ _ _ _ _ _ _ _ _ _ _ _ hv k1 k2 k3 k4 k6).mono fun _ _ h => h.no (fac_head (by simp [headB, fKid, fPth, fCls, fNum, k1, k2, k3, k4, k6]))
  exact fs7 W ps ss cl pv sv cv nm c path ks pa a pc ks.length cap L n d left w rfl hW hWL ho hk (by simp [headB, fKid, fPth, fCls, fNum, k1, k2, k3, k4, k6]) hv k1 k2 k3 k4 k6
theorem fact_step (W : World) (ps ss cl : List ByteArray) (pv sv cv : Value) (hp1 : (ps.length : Int) ≤ 9223372036854775807) (hs1 : (ss.length : Int) ≤ 9223372036854775807) (hc1 : (cl.length : Int) ≤ 9223372036854775807)
    (op n : Int) (nm c : ByteArray) (path : List ByteArray) (ks : List FT) (pa a : Option Addr) (pc cap : Nat) (hq1 : (path.length : Int) ≤ 9223372036854775807) (hq2 : (ks.length : Int) ≤ 9223372036854775807) (ho : SlO W pa path)
    (hk : ∀ k x, ks[k]? = some x → KidF W a (FacC ps ss cl pv sv cv) k x) :
    FacC ps ss cl pv sv cv (.mk op nm path c n ks) [.int .i64 op, .string nm, .slice pa path.length pc, .string c, .int .i64 n, .slice a ks.length cap] W := by
  intro d left L w hB hWL hL h0 h120 hd1 hd13 hp hs hc
  by_cases he : left < 1 ∨ 12 < d
  · exact (rf_end pv sv cv nm c pa a path.length pc ks.length cap L n d left w op hL h0 h120 he).mono fun _ _ h => h.no (fac_no (he.elim .inl fun h => .inr (.inl h)))
  · have hv : REnv ps ss cl pv sv cv path.length ks.length L left d w := ⟨hL, by omega, h120, hd1, by omega, hp, hs, hc, hp1, hs1, hc1, hq1, hq2⟩
    by_cases hr : op < 1 ∨ 7 < op
    · refine (rf_out _ _ _ _ _ _ _ _ _ _ _ _ _ _ _ _ _ _ _ op hr hv).mono fun _ _ h => h.no (fac_head ?_)
      unfold headB
      rcases hr with h | h
      · rw [decide_eq_false (show ¬ 1 ≤ op by omega)]; rfl
      · rw [decide_eq_false (show ¬ op ≤ 7 by omega)]; simp
    · have : op = 1 ∨ op = 2 ∨ op = 3 ∨ op = 4 ∨ op = 5 ∨ op = 6 ∨ op = 7 := by omega
      rcases this with rfl | rfl | rfl | rfl | rfl | rfl | rfl
      · exact fo1 W ps ss cl pv sv cv nm c path ks pa a pc cap L n d left w hB hWL ho hk hv
      · exact fo2 W ps ss cl pv sv cv nm c path ks pa a pc cap L n d left w hB hWL ho hk hv
      · exact fo3 W ps ss cl pv sv cv nm c path ks pa a pc cap L n d left w hB hWL ho hk hv
      · exact fo4 W ps ss cl pv sv cv nm c path ks pa a pc cap L n d left w hB hWL ho hk hv
      · exact fo5 W ps ss cl pv sv cv nm c path ks pa a pc cap L n d left w hB hWL ho hk hv
      · exact fo6 W ps ss cl pv sv cv nm c path ks pa a pc cap L n d left w hB hWL ho hk hv
      · exact fo7 W ps ss cl pv sv cv nm c path ks pa a pc cap L n d left w hB hWL ho hk hv
theorem fact_tree (W : World) (ps ss cl : List ByteArray) (pv sv cv : Value) (hp1 : (ps.length : Int) ≤ 9223372036854775807) (hs1 : (ss.length : Int) ≤ 9223372036854775807) (hc1 : (cl.length : Int) ≤ 9223372036854775807) (e : FT) (cs : List Value) (hr : FctR W e cs) : FacC ps ss cl pv sv cv e cs W := by
  induction hr with
  | none op n s c path qv a cap h1 h2 h3 h3' hp hl1 hl2 =>
    obtain ⟨pa, pc, rfl, ho⟩ := hp.opened
    exact fact_step W ps ss cl pv sv cv hp1 hs1 hc1 op n s c path [] pa a pc cap (by unfold maxLen at hl1; omega) (by simp) ho (fun k x h => by simp at h)
  | some op n s c path qv ks b off cap cs h1 h2 h3 h3' hp hl1 hl2 h4 h5 hb hc hk ih =>
    obtain ⟨pa, pc, rfl, ho⟩ := hp.opened
    refine fact_step W ps ss cl pv sv cv hp1 hs1 hc1 op n s c path ks pa (some ⟨b, off, none⟩) pc cap (by unfold maxLen at hl1; omega) (by unfold maxLen at h4; omega) ho (fun k x hx => ?_)
    have hlt : k < ks.length := (List.getElem?_eq_some_iff.1 hx).1
    exact ⟨b, off, cs k, rfl, hb, hc k hlt, hk k x hx, ih k x hx⟩
end Go.Proofs.YtnipdjkopmjoeaaGreatDoor
