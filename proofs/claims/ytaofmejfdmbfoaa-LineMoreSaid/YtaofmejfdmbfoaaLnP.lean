/-
  The program: a graph that is open, and its Check, Below, Above and Under. No condition.
-/
import Derived.Test.YtaofmejfdmbfoaaLnR
import Derived.Test.YtaofmejfdmbfoaaLhG
import Derived.Deep.RegionLaw
import Derived.Laws.MakeOwn
namespace Go.Proofs.Ytaofmejfdmbfoaa
open Go.ChangeShapes Go.WideShapes Go.ChangeAt Go.RowKit Go.Ln Go.Fs
def sets (l : List Nat) : List Value := l.map (fun n : Nat => Value.int .u64 (n : Int))
theorem sets_snoc (l : List Nat) (x : Nat) : sets (l ++ [x]) = sets l ++ [.int .u64 (x : Int)] := by simp [sets]
/-- the object of a graph -/
def Obj4 (w : World) (O : Nat) (v0 v1 v2 v3 : Value) : Prop := w.heap[O]? = some (.cells #[v0, v1, v2, v3] 60 (0, 0))
theorem Obj4.cells {w : World} {O : Nat} {v0 v1 v2 v3 : Value} (h : Obj4 w O v0 v1 v2 v3) : (w.cell? ⟨O, 0, none⟩ = some v0 ∧ w.cell? ⟨O, 1, none⟩ = some v1 ∧ w.cell? ⟨O, 2, none⟩ = some v2 ∧ w.cell? ⟨O, 3, none⟩ = some v3) ∧ (w.frozen? ⟨O, 0, none⟩ = false ∧ w.frozen? ⟨O, 1, none⟩ = false ∧ w.frozen? ⟨O, 2, none⟩ = false) := by
  unfold Obj4 at h
  simp [World.cell?, World.frozen?, h]
theorem Obj4.lt {w : World} {O : Nat} {v0 v1 v2 v3 : Value} (h : Obj4 w O v0 v1 v2 v3) : O < w.heap.size := lt_of_block h
theorem Obj4.below {w w' : World} {O : Nat} {v0 v1 v2 v3 : Value} (h : Obj4 w O v0 v1 v2 v3) (hb : Below w.heap.size w w') : Obj4 w' O v0 v1 v2 v3 := (hb.block O h.lt).trans h
theorem Obj4.set1 {w : World} {O : Nat} {v0 v1 v2 v3 : Value} (h : Obj4 w O v0 v1 v2 v3) (u : Value) : Obj4 (w.setCell ⟨O, 1, none⟩ u) O v0 u v2 v3 := by
  unfold Obj4 at h ⊢
  simp [World.setCell, Array.getElem?_modify, h]
theorem Obj4.set2 {w : World} {O : Nat} {v0 v1 v2 v3 : Value} (h : Obj4 w O v0 v1 v2 v3) (u : Value) : Obj4 (w.setCell ⟨O, 2, none⟩ u) O v0 v1 u v3 := by
  unfold Obj4 at h ⊢
  simp [World.setCell, Array.getElem?_modify, h]
end Go.Proofs.Ytaofmejfdmbfoaa
namespace Go.Proofs.Ytaofmejfdmbfoaa
open Go.ChangeShapes Go.WideShapes Go.ChangeAt Go.RowKit Go.Ln Go.Fs
theorem upd_below {L : List Nat} {a b c : World} (h : Upd L a b) (k : Below a.heap.size b c) : Upd L a c :=
  ⟨k.os.trans h.os, k.tape.trans h.tape, k.output.trans h.output, Nat.le_trans h.size k.size, fun i hi hn => (k.block i hi).trans (h.block i hi hn)⟩
theorem Grew.obj {B : Nat} {w w1 : World} {e : TypeId} {v v1 : Value} {xs xs1 : List Value} (g : Grew B w w1 e v v1 xs1) (h : Row B w e v xs) {O : Nat} (hO : O < B) (hw : O < w.heap.size) {v0 u1 v2 v3 : Value} (ho : Obj4 w O v0 u1 v2 v3) : Obj4 w1 O v0 u1 v2 v3 :=
  (g.grow.block O hw (fun e' => by have := (h.lt O e'.symm).1; omega)).trans ho
theorem two_ints (w : World) (k : Nat) : IntsAt (w.alloc (.cells #[.int .i64 0, .int .i64 (k : Int)] 3)) (some ⟨w.heap.size, 0, none⟩) [0, (k : Int)] := fun i x hx => by
  refine ⟨w.heap.size, 0, rfl, by simp, ?_⟩
  rw [World.cell?_alloc_at _ _ _ _ rfl]
  match i, hx with
  | 0, h => cases h; rfl
  | 1, h => cases h; rfl
  | i + 2, h => simp at h
def AbvRel (ps : Gr) (w : World) (O : Nat) (v0 v2 v3 : Value) (i : Value) (wr : World) : Prop :=
  ∃ (k : Nat) (vA : Value), k ≤ ps.length ∧ i = .int .i64 k ∧ Upd [O] w wr ∧ Obj4 wr O v0 vA v2 v3 ∧ Row w.heap.size wr 75 vA (sets (absF (ps.take k)))
set_option maxRecDepth 100000 in
set_option maxHeartbeats 4000000 in
theorem findAbove_any (W0 : World) (ps : Gr) (ap : Option Addr) (cp : Nat) (hlen : ps.length ≤ 19) (hah : aheadP ps) (hi : GrAt W0 ap ps) (O : Nat) (v2 v3 : Value) (w : World) (hB : Below W0.heap.size W0 w) (hO : W0.heap.size ≤ O) (ho : Obj4 w O (.slice ap ps.length cp) (.slice none 0 0) v2 v3) :
    Calls Try.prog 59 #[.pointer (some ⟨O, 0, none⟩)] w fun e w' => e = .returned (.tuple #[]) ∧ Upd [O] w w' ∧ ∃ vA, Obj4 w' O (.slice ap ps.length cp) vA v2 v3 ∧ Row w.heap.size w' 75 vA (sets (absF ps)) := by
  have HI := Lib.hid hi; clear hi
  have HB := Lib.hid hB; clear hB
  have HAH := Lib.hid hah; clear hah
  have HO := Lib.hid ho; clear ho
  have hOlt := HO.out.lt
  obtain ⟨⟨o0, o1, o2, o3⟩, f0, f1, f2⟩ := HO.out.cells
  go_enter Try.func59, Try.ntmps59
  go_wp2
  clear o0 o1 o2 o3 f0 f1 f2
  go_loopw [12] (fun i wr => AbvRel ps w O (.slice ap ps.length cp) v2 v3 i wr) (fun i _ => ps.length - (intOf i).toNat)
  case atStart => exact ⟨0, _, Nat.zero_le _, rfl, Upd.refl _ _, HO.out, Row.nil _ _ _⟩
  case round =>
    obtain ⟨k, vA, hk, rfl, hup, hob, hrow⟩ := hrel
    by_cases hlt : k < ps.length
    · obtain ⟨l, hl⟩ : ∃ l, ps[k]? = some l := ⟨ps[k], List.getElem?_eq_getElem hlt⟩
      have hBr : Below W0.heap.size W0 wr := HB.out.trans (hup.below _ HB.out.size (by intro y hy; simp at hy; omega))
      obtain ⟨bg, og, al, cl, rfl, hbg, hlc, hil, hml⟩ := HI.out.below hBr k l hl
      have hlm : (l.length : Int) ≤ 9223372036854775807 := by unfold maxLen at hml; omega
      have hac : (absF (ps.take k)).length = k := by rw [absF_length, List.length_take]; omega
      have hsm := absF_small k (ps.take k) (by rw [List.length_take]; omega) (by omega)
      have htk := absF_take ps k l hl
      have hahl := HAH.out k l hl
      have HUP := Lib.hid hup; have HOB := Lib.hid hob; have HR := Lib.hid hrow; have HIL := Lib.hid hil; have HSM := Lib.hid hsm; have HTK := Lib.hid htk; have HAHL := Lib.hid hahl; have HBR := Lib.hid hBr
      clear hup hob hrow hil hsm htk hl hahl hBr hml
      generalize hacc : absF (ps.take k) = acc at *
      clear hacc
      have hset : maskL [(0 : Int), (k : Int)] = 1 ||| 2 ^ k := by simp [maskL]
      have HSET := Lib.hid hset; clear hset
      go_wp2_with (go_at_call 63; refine (setOf_any (wr.alloc (.cells #[.int .i64 0, .int .i64 (k : Int)] 3)) [0, (k : Int)] (some ⟨wr.heap.size, 0, none⟩) 2 (by simp) (two_ints wr k) (by intro p hp; simp at hp; omega) _ (Below.refl _ _)).mono ?_; rintro e w3 ⟨rfl, hu⟩; rw [HSET.out]; have HU := Lib.hid hu; clear hu)
      have hws : Below wr.heap.size wr w3 := ((Below.refl _ wr).alloc (Nat.le_refl _) _).trans (HU.out.mono (by simp))
      have hob3 := HOB.out.below hws
      have hr3 := HR.out.below hws
      have hil3 := HIL.out.below hws
      have HWS := Lib.hid hws; have HOB3 := Lib.hid hob3; have HR3 := Lib.hid hr3; have HIL3 := Lib.hid hil3
      have hst := start_small k (by omega)
      clear hws hob3 hr3 hil3 HU hlc
      have hac' : acc.length = k := hac
      go_loopw [22] (fun j wr2 => ∃ m : Nat, m ≤ l.length ∧ j = .int .i64 m ∧ Below w3.heap.size w3 wr2 ∧ w3.heap.size < wr2.heap.size ∧ wr2.cell? ⟨w3.heap.size, 0, none⟩ = some (.int .u64 ((l.take m).foldl (fun s p => s ||| acc.getD p.toNat 0) (1 ||| 2 ^ k) : Nat)) ∧ wr2.frozen? ⟨w3.heap.size, 0, none⟩ = false) (fun j _ => l.length - (intOf j).toNat)
      case atStart => exact ⟨0, Nat.zero_le _, rfl, (Below.refl _ _).alloc (Nat.le_refl _) _, by simp, by simp, by simp⟩
      case round =>
        obtain ⟨m, hm, rfl, hup2, hsz2, hcell, hfr⟩ := hrel
        have hNs : (l.take m).foldl (fun s p => s ||| acc.getD p.toNat 0) (1 ||| 2 ^ k) < 524288 := foldl_or_small _ _ _ hst (fun _ _ => getD_small HSM.out _)
        generalize hN : (l.take m).foldl (fun s p => s ||| acc.getD p.toNat 0) (1 ||| 2 ^ k) = N at *
        have HUP2 := Lib.hid hup2; have HNN := Lib.hid hN
        by_cases hlt2 : m < l.length
        · obtain ⟨y, hy⟩ : ∃ y, l[m]? = some y := ⟨l[m], List.getElem?_eq_getElem hlt2⟩
          obtain ⟨bl, ol, rfl, hbl, hyc⟩ := HIL3.out.below hup2 m y hy
          have hyr := HAHL.out y (List.mem_of_getElem? hy)
          obtain ⟨yn, rfl⟩ : ∃ yn : Nat, y = (yn : Int) := ⟨y.toNat, by omega⟩
          obtain ⟨⟨o0, o1, o2, o3⟩, _⟩ := (HOB3.out.below hup2).cells
          obtain ⟨aA, cA, hvA, _, hcA⟩ := (HR3.out.below hup2).shape
          have hel : (sets acc)[yn]? = some (.int .u64 ((acc.getD yn 0 : Nat) : Int)) := by
            have h1 : acc[yn]? = some (acc[yn]'(by omega)) := List.getElem?_eq_getElem (by omega)
            simp [sets, List.getD, h1]
          obtain ⟨gA, haA, _, hgA, hec⟩ := hcA yn _ hel
          subst haA
          have hsl : (sets acc).length = k := by simp [sets, hac']
          rw [hsl] at hvA
          have hyn : ((yn : Int)).toNat = yn := by omega
          have hnx : (l.take (m + 1)).foldl (fun s p => s ||| acc.getD p.toNat 0) (1 ||| 2 ^ k) = N ||| acc.getD yn 0 := by rw [take_snocI l m _ hy, List.foldl_append, HNN.out]; simp
          have hes := getD_small HSM.out yn
          generalize hE : acc.getD yn 0 = E at *
          have HNX := Lib.hid hnx
          rw [hvA] at o1
          clear hnx hup2 hy hcA o0 o2 o3 hel hE hN
          go_wp2
          go_region_with (go_at_call 62; refine (join_any N E hNs hes _).mono ?_; rintro e w5 ⟨rfl, hu⟩; have hc5 := (hu.cell (p := ⟨w3.heap.size, 0, none⟩) hsz2).trans hcell; have hf5 := (hu.frozen (p := ⟨w3.heap.size, 0, none⟩) hsz2).trans hfr; have HU5 := Lib.hid (show Below wr.heap.size wr w5 from ⟨hu.os, hu.tape, hu.output, hu.size, hu.block⟩); clear hu)
          all_goals go_wp2
          all_goals refine ⟨⟨m + 1, by omega, by go_num, ?_, by have := HU5.out.size; simp; omega, ?_, ?_⟩, by simp [intOf]; omega⟩
          all_goals first
            | exact (HUP2.out.trans (HU5.out.mono HUP2.out.size)).setCell (by simp) _
            | (rw [HNX.out]; simp [World.cell?_setCell_same, hc5]; done)
            | (simp [hf5]; done)
        · obtain rfl : m = l.length := by omega
          rw [List.take_length] at hN
          have hsx : stepA acc l = N := by rw [← hN]; unfold stepA; rw [hac']
          obtain ⟨⟨o0, o1, o2, o3⟩, f0, f1, f2⟩ := (HOB3.out.below hup2).cells
          have hob2 := HOB3.out.below hup2
          have hr2 := HR3.out.below hup2
          obtain ⟨aA, cA, hvA, _⟩ := hr2.shape
          have HOB2 := Lib.hid hob2; have HR2 := Lib.hid hr2
          have hwz := HUP.out.size
          have hwz3 := HWS.out.size
          have hwz2 := HUP2.out.size
          clear hob2 hr2
          have hO' : O < w.heap.size := hOlt
          have hsl : (sets acc).length = k := by simp [sets, hac']
          rw [hsl] at hvA
          rw [hvA] at o1
          have hr2' : Row w.heap.size (wr.alloc (.cells #[.int .u64 (N : Int)] 75)) 75 (.slice aA k cA) (sets acc) := by rw [← hvA]; exact World.ownsRow.alloc HR2.out _
          have hob2' : Obj4 (wr.alloc (.cells #[.int .u64 (N : Int)] 75)) O (.slice (some ⟨bg, og, none⟩) (List.length ps) cp) (.slice aA k cA) v2 v3 := by rw [← hvA]; exact HOB2.out.below ((Below.refl _ _).alloc (Nat.le_refl _) _)
          have HR2' := Lib.hid hr2'; have HOB2' := Lib.hid hob2'
          obtain ⟨⟨_, oa1, _, _⟩, _⟩ := hob2'.cells
          clear hr2' hob2'
          go_wp2
          go_region_law ((refine step_app TS (B := w.heap.size) (by rfl) _ _ (by rfl) (by rfl) (.slice aA k cA) (sets acc) (by rfl) (show _ from HR2'.out) (by simp; omega) _ 1 (.int .u64 (N : Int)) (by rfl) (by simp) (by rfl) (by omega) ?_; intro v1 w1 hg1; have hob5 := hg1.obj (show _ from HR2'.out) hO' (by simp; omega) HOB2'.out; obtain ⟨⟨p0, p1, p2, p3⟩, q0, q1, q2⟩ := hob5.cells; obtain ⟨z1, z3, hz, _⟩ := hg1.own.shape; subst hz; have HOB5 := Lib.hid hob5; have HG1 := Lib.hid hg1; clear hob5 hg1))
          all_goals go_wp2
          all_goals refine ⟨⟨k + 1, _, by omega, by go_num, ?_, HOB5.out.set1 _, ?_⟩, by simp [intOf]; omega⟩
          all_goals first
            | (refine (upd_below HUP.out ?_).setCell (fun _ => by simp) _
               exact ((((HWS.out.mono hwz).trans (HUP2.out.mono (by omega))).alloc (by omega) _).drew.trans (HG1.out.below (show _ from HR2'.out) (Nat.le_refl _) (by simp; omega)))
               done)
            | (have hle : (sets acc ++ [Value.int .u64 (N : Int)]).length = k + 1 := by simp [hsl]
               have hg2 := HG1.out.own
               rw [hle] at hg2
               rw [HTK.out, sets_snoc, hsx]
               refine Row.of_block hg2 fun kk hkk => Below.heap_setCell _ _ _ _ (fun e => ?_)
               have := (hg2.lt kk hkk).1
               simp at e
               omega)
    · obtain rfl : k = ps.length := by omega
      rw [List.take_length] at hrow
      go_wp2
      refine bodyPost_end (results_none rfl _ _ _) rfl ?_
      exact ⟨rfl, hup, _, hob, hrow⟩
end Go.Proofs.Ytaofmejfdmbfoaa
namespace Go.Proofs.Ytaofmejfdmbfoaa
open Go.ChangeShapes Go.WideShapes Go.ChangeAt Go.RowKit Go.Ln Go.Fs
theorem infoSet : (Try.prog.info? 75).map (fun i => (i.zero, i.size, i.bytes)) = some (some (.agg #[.int .u64 0]), 1, 8) := by kernel_rfl
theorem underSet : Try.prog.underlying 57 = some (.slice 75) := by kernel_rfl
theorem make_sets (w : World) (n : Nat) (hn : n ≤ 19) : (Instr.makeSlice 57 (.int .i64 (n : Int)) (.int .i64 (n : Int))).run Try.prog w = .ok (.slice (some ⟨w.heap.size, 0, none⟩) n n) (w.alloc (.cells (madeCells #[.int .u64 0] n) 75)) := by
  have hI := infoSet
  cases hi : Try.prog.info? 75 with
  | none => rw [hi] at hI; cases hI
  | some i =>
    rw [hi] at hI
    simp only [Option.map_some, Option.some.injEq, Prod.mk.injEq] at hI
    have := run_make (P := Try.prog) w 57 75 i _ underSet hi hI.1 .i64 .i64 n n (by omega) (Int.le_refl _) (by rw [hI.2.2]; omega) (by omega)
    rw [Int.toNat_natCast, hI.2.1, Nat.mul_one] at this
    exact this
/-- the row of sets below -/
def BelAt (w : World) (b n : Nat) (f : Nat → Nat) : Prop := b < w.heap.size ∧ ∀ c, c < n → w.cell? ⟨b, c, none⟩ = some (.int .u64 (f c : Nat)) ∧ w.frozen? ⟨b, c, none⟩ = false
theorem BelAt.below {w w' : World} {b n : Nat} {f : Nat → Nat} (h : BelAt w b n f) (hb : Below w.heap.size w w') : BelAt w' b n f :=
  ⟨Nat.lt_of_lt_of_le h.1 hb.size, fun c hc => ⟨(hb.cell (p := ⟨b, c, none⟩) h.1).trans (h.2 c hc).1, (hb.frozen (p := ⟨b, c, none⟩) h.1).trans (h.2 c hc).2⟩⟩
set_option maxRecDepth 100000 in
set_option maxHeartbeats 4000000 in
theorem findBelow_any (n : Nat) (abs : List Nat) (ap : Option Addr) (cp : Nat) (hn : abs.length = n) (hn3 : n ≤ 19) (hsm : ∀ x ∈ abs, x < 524288) (hbit : ∀ k c, k < n → (abs.getD k 0).testBit c = true → c < n) (O : Nat) (vA v3 : Value) (w : World) (ho : Obj4 w O (.slice ap n cp) vA (.slice none 0 0) v3) (hr : Row 0 w 75 vA (sets abs)) (hd : ∀ k, vA.ownBlock = some k → k ≠ O) :
    Calls Try.prog 60 #[.pointer (some ⟨O, 0, none⟩)] w fun e w' => e = .returned (.tuple #[]) ∧ Upd [O] w w' ∧ ∃ Bk, Obj4 w' O (.slice ap n cp) vA (.slice (some ⟨Bk, 0, none⟩) n n) v3 ∧ BelAt w' Bk n (fun c => blN abs n c) := by
  have HO := Lib.hid ho; clear ho
  have HR := Lib.hid hr; clear hr
  have hOlt := HO.out.lt
  have hmk := make_sets w n hn3
  have hob1 : Obj4 (w.alloc (.cells (madeCells #[.int .u64 0] n) 75)) O (.slice ap n cp) vA (.slice none 0 0) v3 := HO.out.below ((Below.refl _ _).alloc (Nat.le_refl _) _)
  have hbl1 : BelAt (w.alloc (.cells (madeCells #[.int .u64 0] n) 75)) w.heap.size n (fun c => blN abs 0 c) := ⟨by simp, fun c hc => ⟨by rw [World.cell?_alloc_at _ _ _ _ rfl]; simp [madeCells, hc, blN, Nat.mod_one], by simp⟩⟩
  have hr1 : Row 0 (w.alloc (.cells (madeCells #[.int .u64 0] n) 75)) 75 vA (sets abs) := World.ownsRow.alloc HR.out _
  have hu1 : Upd [O] w (w.alloc (.cells (madeCells #[.int .u64 0] n) 75)) := (Upd.refl _ _).alloc _
  have hsz1 : (w.alloc (.cells (madeCells #[.int .u64 0] n) 75)).heap.size = w.heap.size + 1 := by simp
  generalize hwa : w.alloc (.cells (madeCells #[.int .u64 0] n) 75) = wa at *
  have hob2 := hob1.set2 (.slice (some ⟨w.heap.size, 0, none⟩) n n)
  have HOB2 := Lib.hid hob2; have HBL1 := Lib.hid hbl1; have HR1 := Lib.hid hr1; have HU1 := Lib.hid hu1
  obtain ⟨⟨o0, o1, o2, o3⟩, f0, f1, f2⟩ := HO.out.cells
  obtain ⟨⟨p0, p1, p2, p3⟩, q0, q1, q2⟩ := hob1.cells
  obtain ⟨aA, cA, hvA, _, hcA⟩ := HR.out.shape
  have hsl : (sets abs).length = n := by simp [sets, hn]
  rw [hsl] at hvA
  rw [hvA] at p1
  clear hob1 hbl1 hr1 hu1 hob2
  go_enter Try.func60, Try.ntmps60
  go_wp2
  clear o0 o1 o2 o3 f0 f1 f2 p0 p1 p2 p3 q0 q1 q2
  have hsz2 : (wa.setCell ⟨O, 2, none⟩ (.slice (some ⟨w.heap.size, 0, none⟩) n n)).heap.size = w.heap.size + 1 := by simp [hsz1]
  go_loopw [20] (fun i wr => ∃ k : Nat, k ≤ n ∧ i = .int .i64 k ∧ Upd [O] w wr ∧ w.heap.size < wr.heap.size ∧ Obj4 wr O (.slice ap n cp) vA (.slice (some ⟨w.heap.size, 0, none⟩) n n) v3 ∧ BelAt wr w.heap.size n (fun c => blN abs k c)) (fun i _ => n - (intOf i).toNat)
  case atStart =>
    refine ⟨0, Nat.zero_le _, rfl, HU1.out.setCell (fun _ => by simp) _, by omega, HOB2.out, by rw [hsz2]; omega, fun c hc => ?_⟩
    have := HBL1.out.2 c hc
    refine ⟨?_, by simpa using this.2⟩
    rw [World.cell?_setCell_other _ _ _ _ (by intro e; injection e with e1 e2; omega)]; exact this.1
  case round =>
    obtain ⟨k, hk, rfl, hup, hsz, hob, hbl⟩ := hrel
    have HUP := Lib.hid hup; have HOB := Lib.hid hob; have HBL := Lib.hid hbl
    by_cases hlt : k < n
    · have hel : (sets abs)[k]? = some (.int .u64 ((abs.getD k 0 : Nat) : Int)) := by
        have h1 : abs[k]? = some (abs[k]'(by omega)) := List.getElem?_eq_getElem (by omega)
        simp [sets, List.getD, h1]
      obtain ⟨gA, haA, _, hgA, hec⟩ := hcA k _ hel
      subst haA
      have hgO : gA ≠ O := hd gA (by rw [hvA]; rfl)
      have hec2 := (hup.cells gA k hgA (by simp; exact hgO)).trans hec
      have hes := getD_small hsm k
      have hbk := fun c => hbit k c hlt
      obtain ⟨⟨o0, o1, o2, o3⟩, f0, f1, f2⟩ := hob.cells
      generalize hE : abs.getD k 0 = E at *
      have HBK := Lib.hid hbk
      clear hup hob hbl hbk hbit hel hec
      go_wp2_with (go_at_call 52; refine (list_any E hes _).mono ?_; rintro e w4 ⟨v, rfl, hu, hrl⟩; obtain ⟨aL, cL, hvL, hnL, hcL⟩ := hrl.shape; rw [show (ints (listM E)).length = (listM E).length by simp [ints]] at hvL; subst hvL; have HU4 := Lib.hid hu; have HCL := Lib.hid hcL; clear hu hrl hcL)
      have hL19 := listM_length E
      have hz4 := HU4.out.size
      simp at hz4
      have hb4 : Below wr.heap.size wr w4 := ((Below.refl _ _).alloc (Nat.le_refl _) _).trans (HU4.out.mono (by simp))
      have hob4 := HOB.out.below hb4
      have hbl4 := HBL.out.below hb4
      have hup4 : Upd [O] w w4 := HUP.out.trans (Upd.ofBelow [O] hb4)
      have HB4 := Lib.hid hb4; have HOB4 := Lib.hid hob4; have HBL4 := Lib.hid hbl4; have HUP4 := Lib.hid hup4
      have hOz := HOB4.out.lt
      clear hb4 hob4 hbl4 hup4 o0 o1 o2 o3 f0 f1 f2
      go_loopw [28] (fun j wr2 => ∃ m : Nat, m ≤ (listM E).length ∧ j = .int .i64 m ∧ Upd [w.heap.size] w4 wr2 ∧ BelAt wr2 w.heap.size n (fun c => midN abs k ((listM E).take m) c)) (fun j _ => (listM E).length - (intOf j).toNat)
      case atStart => exact ⟨0, Nat.zero_le _, rfl, Upd.refl _ _, by simpa [midN] using HBL4.out⟩
      case round =>
        obtain ⟨m, hm, rfl, hup2, hbl2⟩ := hrel
        have hz2 := hup2.size
        have hob2' : Obj4 wr O (.slice ap n cp) vA (.slice (some ⟨w.heap.size, 0, none⟩) n n) v3 := (hup2.block O hOz (by simp; omega)).trans HOB4.out
        obtain ⟨⟨o0, o1, o2, o3⟩, f0, f1, f2⟩ := hob2'.cells
        have HUP2 := Lib.hid hup2; have HBL2 := Lib.hid hbl2; have HOB2' := Lib.hid hob2'
        clear hob2' hup2 hbl2
        by_cases hlt2 : m < (listM E).length
        · obtain ⟨y, hy⟩ : ∃ y, (listM E)[m]? = some y := ⟨(listM E)[m], List.getElem?_eq_getElem hlt2⟩
          obtain ⟨cn, rfl, hcn, hcb⟩ := listM_nat (List.mem_of_getElem? hy)
          have hcnn := HBK.out cn hcb
          obtain ⟨gL, haL, hgB, hgL, hyc⟩ := HCL.out m (.int .i64 (cn : Int)) (by simp [ints, hy])
          subst haL
          simp at hgB
          have hyc2 := (HUP2.out.cells gL m hgL (by simp; omega)).trans hyc
          obtain ⟨hcc, hcf⟩ := HBL2.out.2 cn hcnn
          have hMs := midN_small abs k ((listM E).take m) cn (by omega)
          have hnx : ∀ c, c < n → midN abs k ((listM E).take (m + 1)) c = if c = cn then midN abs k ((listM E).take m) cn ||| 2 ^ k else midN abs k ((listM E).take m) c := fun c _ => by
            rw [take_snocI _ m _ hy]
            by_cases e : c = cn
            · rw [if_pos e, e]; exact midN_same _ _ _ _
            · rw [if_neg e]; exact midN_other _ _ _ _ _ e
          have HNX := Lib.hid hnx
          simp only at hcc
          generalize hM : midN abs k ((listM E).take m) cn = M at *
          have hcnn' : ((cn : Int)).toNat = cn := by omega
          clear hnx hy hyc
          go_wp2
          go_region_with (go_at_call 68; refine (with_any M hMs (k : Int) (by omega) (by omega) _).mono ?_; rintro e w5 ⟨rfl, hu⟩; have hc5 := (hu.cell (p := ⟨w.heap.size, cn, none⟩) HBL2.out.1).trans hcc; have hf5 := (hu.frozen (p := ⟨w.heap.size, cn, none⟩) HBL2.out.1).trans hcf; have o25 := (hu.cell (p := ⟨O, 2, none⟩) (show O < _ from HOB2'.out.lt)).trans o2; have HU5 := Lib.hid (show Below wr.heap.size wr w5 from ⟨hu.os, hu.tape, hu.output, hu.size, hu.block⟩); clear hu)
          all_goals go_wp2
          all_goals refine ⟨⟨m + 1, by omega, by go_num, ?_, ?_⟩, by simp [intOf]; omega⟩
          all_goals first
            | (refine (HUP2.out.trans (Upd.ofBelow _ HU5.out)).setCell (fun _ => by simp) _; done)
            | (have hbl5 := HBL2.out.below HU5.out
               refine ⟨by have := hbl5.1; simpa using this, fun c hc => ⟨?_, by simpa using (hbl5.2 c hc).2⟩⟩
               show _ = some (Value.int .u64 ((midN abs k ((listM E).take (m + 1)) c : Nat) : Int))
               rw [HNX.out c hc]
               by_cases e : c = cn
               · subst e
                 rw [if_pos rfl, World.cell?_setCell_same _ _ _ hc5]
               · rw [if_neg e, World.cell?_setCell_other _ _ _ _ (by intro e'; injection e' with e1 e2; omega)]; exact (hbl5.2 c hc).1)
        · obtain rfl : m = (listM E).length := by omega
          have hend : BelAt wr w.heap.size n (fun c => blN abs (k + 1) c) := ⟨HBL2.out.1, fun c hc => by
            have h := HBL2.out.2 c hc
            rw [List.take_length] at h
            have e := midN_end abs k c (by omega)
            rw [hE] at e
            simp only [e] at h
            exact h⟩
          have hupw : Upd [O] w wr := HUP4.out.step HUP2.out (by intro x hx hlt'; simp at hx; omega)
          have HEND := Lib.hid hend; have HUPW := Lib.hid hupw
          clear hend hupw
          go_wp2
          exact ⟨⟨k + 1, by omega, by go_num, HUPW.out, by omega, HOB2'.out, HEND.out⟩, by simp [intOf]; omega⟩
    · obtain rfl : k = n := by omega
      go_wp2
      refine bodyPost_end (results_none rfl _ _ _) rfl ?_
      exact ⟨rfl, hup, _, hob, hbl⟩
end Go.Proofs.Ytaofmejfdmbfoaa
namespace Go.Proofs.Ytaofmejfdmbfoaa
open Go.ChangeShapes Go.WideShapes Go.ChangeAt Go.RowKit Go.Ln Go.Fs
set_option maxRecDepth 100000 in
theorem ghas_any (O : Nat) (ap : Option Addr) (cp n : Nat) (_hn : n ≤ 1000) (c : Int) (v1 v2 v3 : Value) (w : World) (ho : Obj4 w O (.slice ap n cp) v1 v2 v3) :
    Calls Try.prog 58 #[.pointer (some ⟨O, 0, none⟩), .int .i64 c] w fun e w' => e = .returned (.bool (decide (0 ≤ c) && decide (c < (n : Int)))) ∧ w = w' := by
  obtain ⟨⟨o0, _, _, _⟩, _⟩ := ho.cells
  by_cases h0 : 0 ≤ c
  · by_cases h1 : c < (n : Int)
    · rw [decide_eq_true h0, decide_eq_true h1]
      go_enter Try.func58, Try.ntmps58
      go_wp2
      go_ret
      exact ⟨rfl, rfl⟩
    · rw [decide_eq_true h0, decide_eq_false h1]
      go_enter Try.func58, Try.ntmps58
      go_wp2
      go_ret
      exact ⟨rfl, rfl⟩
  · rw [decide_eq_false h0]
    go_enter Try.func58, Try.ntmps58
    go_wp2
    go_ret
    exact ⟨rfl, rfl⟩
theorem infoL : (Try.prog.info? 25).map (fun i => (i.zero, i.size, i.bytes)) = some (some (.slice none 0 0), 1, 24) := by kernel_rfl
theorem underG : Try.prog.underlying 22 = some (.slice 25) := by kernel_rfl
theorem make_three (w : World) : (Instr.makeSlice 22 (.int .i64 3) (.int .i64 3)).run Try.prog w = .ok (.slice (some ⟨w.heap.size, 0, none⟩) 3 3) (w.alloc (.cells #[.slice none 0 0, .slice none 0 0, .slice none 0 0] 25)) := by
  have hI := infoL
  cases hi : Try.prog.info? 25 with
  | none => rw [hi] at hI; cases hI
  | some i =>
    rw [hi] at hI
    simp only [Option.map_some, Option.some.injEq, Prod.mk.injEq] at hI
    have := run_make (P := Try.prog) w 22 25 i _ underG hi hI.1 .i64 .i64 3 3 (by omega) (Int.le_refl _) (by rw [hI.2.2]; omega) (by omega)
    rw [show (3 : Int).toNat = 3 by rfl, hI.2.1, Nat.mul_one, show madeCells (Value.slice none 0 0).cells 3 = #[.slice none 0 0, .slice none 0 0, .slice none 0 0] by kernel_rfl] at this
    exact this
/-- the values of a graph's lists as they lie -/
theorem gr_vals {w : World} {sa : Option Addr} {g : Gr} (hi : GrAt w sa g) : ∃ gv : List Value, gv.length = g.length ∧ (∀ (k : Nat) (v : Value), gv[k]? = some v → ∃ l al cap, g[k]? = some l ∧ v = Value.slice al l.length cap ∧ IntsAt w al l ∧ (l.length ≤ cap ∧ cap ≤ maxLen)) ∧ (∀ (k : Nat) (v : Value), gv[k]? = some v → ∃ b off, sa = some ⟨b, off, none⟩ ∧ b < w.heap.size ∧ w.cell? ⟨b, off + k, none⟩ = some v) := by
  have hex : ∀ k : Nat, ∃ v : Value, ∀ l, g[k]? = some l → (∃ al cap, v = .slice al l.length cap ∧ IntsAt w al l ∧ (l.length ≤ cap ∧ cap ≤ maxLen)) ∧ ∃ b off, sa = some ⟨b, off, none⟩ ∧ b < w.heap.size ∧ w.cell? ⟨b, off + k, none⟩ = some v := by
    intro k
    cases hk : g[k]? with
    | none => exact ⟨.bool true, fun l h => by cases h⟩
    | some l =>
      obtain ⟨b, off, al, cap, h1, h2, h3, h4, h5⟩ := hi k l hk
      exact ⟨_, fun l' h => by cases h; exact ⟨⟨al, cap, rfl, h4, h5⟩, b, off, h1, h2, h3⟩⟩
  obtain ⟨f, hf⟩ := Classical.axiomOfChoice hex
  have hget : ∀ (k : Nat) (v : Value), ((List.range g.length).map f)[k]? = some v → ∃ l, g[k]? = some l ∧ v = f k := fun k v h => by
    rw [List.getElem?_map] at h
    obtain ⟨j, hj, rfl⟩ := Option.map_eq_some_iff.1 h
    have hlt : k < g.length := by
      have := (List.getElem?_eq_some_iff.1 hj).1
      simpa using this
    have : j = k := by simpa [hlt] using hj.symm
    subst this
    exact ⟨g[j], List.getElem?_eq_getElem hlt, rfl⟩
  refine ⟨(List.range g.length).map f, by simp, fun k v h => ?_, fun k v h => ?_⟩
  · obtain ⟨l, hl, rfl⟩ := hget k v h
    obtain ⟨⟨al, cap, h1, h2, h3⟩, _⟩ := hf k l hl
    exact ⟨l, al, cap, hl, h1, h2, h3⟩
  · obtain ⟨l, hl, rfl⟩ := hget k v h
    exact (hf k l hl).2
set_option maxRecDepth 100000 in
/-- an append of many -/
theorem run_apps {B : Nat} {w : World} {v : Value} {xs : List Value} (hr : Row B w 25 v xs) (hB : B ≤ w.heap.size) (sa : Option Addr) (c : Nat) (news : List Value) (hx : ∀ k u, news[k]? = some u → ∃ b off, sa = some ⟨b, off, none⟩ ∧ w.cell? ⟨b, off + k, none⟩ = some u) (h1 : ∀ u ∈ news, u.oneCell' = true) (hb : xs.length + news.length < 1000000) :
    ∃ v' w', (Builtin.append_ #[22, 22] 22 #[v, .slice sa news.length c]).run Try.prog w = .ok v' w' ∧ Row B w' 25 v' (xs ++ news) ∧ w.grownBy w' v.ownBlock := by
  have hI := infoL
  cases hi : Try.prog.info? 25 with
  | none => rw [hi] at hI; cases hI
  | some i =>
    rw [hi] at hI
    simp only [Option.map_some, Option.some.injEq, Prod.mk.injEq] at hI
    rcases sa with _ | ad
    · have : news = [] := by
        cases news with
        | nil => rfl
        | cons y ys => obtain ⟨b, off, h, _⟩ := hx 0 y rfl; cases h
      subst this
      refine ⟨v, w, ?_, by simpa using hr, World.grownBy.refl w _⟩
      rcases hr.2 with ⟨rfl, _⟩ | ⟨g, cap, cur, rfl, _, _, hle, _⟩
      · simp [Builtin.append_, run_underlying underG, sizeOf, typeInfo, hi, Builtin.lenOf, Builtin.firstCells]
      · simp [Builtin.append_, run_underlying underG, sizeOf, typeInfo, hi, Builtin.lenOf, Builtin.firstCells, hle, storeCells]
    · have hcells : ∀ j u, news[j]? = some u → w.cell? (ad.add j) = some u := by
        intro j u hu
        obtain ⟨b, off, h, hc⟩ := hx j u hu
        injection h with h
        subst h
        rw [WideShapes.add_plain]; exact hc
      obtain ⟨v', w', hrun, h2, h3, _, _⟩ := run_append_own_at (P := Try.prog) w B 22 22 25 i _ 1 24 underG hi hI.1 hI.2.1 hI.2.2 rfl (by decide) v xs.length xs hr ad news.length c news (by simp) hcells h1 (by unfold maxLen; omega) (by omega) hB
      exact ⟨v', w', hrun, by unfold Row; simpa using h2, h3⟩
theorem wpList_apps {B : Nat} {w : World} {ops : Array Oper} {rest : List Oper} {o : Oper} {a : Act} {Q : Exit → Act → World → Prop} (hgd : o.guard = none) (s x : Operand)
    (ho : o.op = .call { callee := .builtin .append, args := #[s, x], argTypes := #[22, 22] }) (hty : o.type = 22)
    {v : Value} {xs : List Value} (hs : a.eval s = v) (hr : Row B w 25 v xs) (hB : B ≤ w.heap.size) (sa : Option Addr) (n c : Nat) (news : List Value) (hnl : news.length = n) (hx : a.eval x = .slice sa n c) (hx2 : ∀ k u, news[k]? = some u → ∃ b off, sa = some ⟨b, off, none⟩ ∧ w.cell? ⟨b, off + k, none⟩ = some u) (h1 : ∀ u ∈ news, u.oneCell' = true) (hb : xs.length + news.length < 1000000)
    (h : ∀ v' w', Row B w' 25 v' (xs ++ news) → w.grownBy w' v.ownBlock → wpList Try.prog ops Q rest (a.put o.dst v') w') : wpList Try.prog ops Q (o :: rest) a w := by
  refine wpList_plain hgd fun K hK => ?_
  subst hnl
  obtain ⟨v', w', hrun, hg, hg2⟩ := run_apps hr hB sa c news hx2 h1 hb
  unfold Oper.wp execOp
  simp only [ho, hty, resolve, invoke, builtin, Sem.run_bind, Sem.run_pure, Result.andThen_ok, List.map_toArray, List.map_cons, List.map_nil, hs, hx, hrun]
  exact hK _ _ (h v' w' hg hg2)
end Go.Proofs.Ytaofmejfdmbfoaa
namespace Go.Proofs.Ytaofmejfdmbfoaa
open Go.ChangeShapes Go.WideShapes Go.ChangeAt Go.RowKit Go.Ln Go.Fs
theorem three_row (w : World) : Row w.heap.size (w.alloc (.cells #[.slice none 0 0, .slice none 0 0, .slice none 0 0] 25)) 25 (.slice (some ⟨w.heap.size, 0, none⟩) 3 3) [.slice none 0 0, .slice none 0 0, .slice none 0 0] :=
  ⟨rfl, .inr ⟨w.heap.size, 3, _, rfl, Nat.le_refl _, heap_alloc_new _ _, Nat.le_refl _, by decide, rfl, rfl⟩⟩
theorem pars_at {w2 w3 : World} {g : Gr} {gv : List Value} {aP : Option Addr} {B : Nat} (hgl : gv.length = g.length) (hgv : ∀ (k : Nat) (v : Value), gv[k]? = some v → ∃ l al cap, g[k]? = some l ∧ v = Value.slice al l.length cap ∧ IntsAt w2 al l ∧ (l.length ≤ cap ∧ cap ≤ maxLen)) (hb : Below w2.heap.size w2 w3)
    (hc : ∀ (k : Nat) (x : Value), ([Value.slice none 0 0, .slice none 0 0, .slice none 0 0] ++ gv)[k]? = some x → ∃ gg, aP = some ⟨gg, 0, none⟩ ∧ B ≤ gg ∧ gg < w3.heap.size ∧ w3.cell? ⟨gg, k, none⟩ = some x) : GrAt w3 aP (pars g) := fun k l hl => by
  by_cases h3 : k < 3
  · have hl0 : l = [] := by
      rcases (by omega : k = 0 ∨ k = 1 ∨ k = 2) with rfl | rfl | rfl <;> exact (Option.some.inj hl).symm
    subst hl0
    have hx : ([Value.slice none 0 0, .slice none 0 0, .slice none 0 0] ++ gv)[k]? = some (.slice none 0 0) := by
      rcases (by omega : k = 0 ∨ k = 1 ∨ k = 2) with rfl | rfl | rfl <;> rfl
    obtain ⟨gg, h1, _, h2, h4⟩ := hc k _ hx
    exact ⟨gg, 0, none, 0, h1, h2, by rw [Nat.zero_add]; exact h4, IntsAt.nil _ _, Nat.le_refl _, Nat.zero_le _⟩
  · obtain ⟨j, rfl⟩ : ∃ j, k = j + 3 := ⟨k - 3, by omega⟩
    have hl' : g[j]? = some l := by simpa [pars] using hl
    have hj : j < gv.length := by rw [hgl]; exact (List.getElem?_eq_some_iff.1 hl').1
    have hv : gv[j]? = some gv[j] := List.getElem?_eq_getElem hj
    obtain ⟨l', al, cap, h5, h6, h7, h8⟩ := hgv j _ hv
    rw [hl'] at h5
    cases h5
    obtain ⟨gg, h1, _, h2, h4⟩ := hc (j + 3) gv[j] (by simp)
    exact ⟨gg, 0, al, cap, h1, h2, by rw [Nat.zero_add, h4, h6], h7.below hb, h8⟩
theorem below_grown {w2 w3 : World} {cs : Array Value} {t : TypeId} {n c : Nat} (h : (w2.alloc (.cells cs t)).grownBy w3 (Value.slice (some ⟨w2.heap.size, 0, none⟩) n c).ownBlock) : Below w2.heap.size w2 w3 :=
  ⟨h.os, h.tape, h.output, by have := h.size; simp at this; omega, fun k hk => by
    have h1 : k < (w2.alloc (.cells cs t)).heap.size := by simp; omega
    have h2 : some k ≠ (Value.slice (some ⟨w2.heap.size, 0, none⟩) n c).ownBlock := by
      intro e
      have : k = w2.heap.size := by simpa [Value.ownBlock] using e
      omega
    rw [h.block k h1 h2]
    exact Below.heap_alloc _ _ _ hk⟩
/-- a graph that is open -/
def GraphAt (w : World) (O : Nat) (g : Gr) : Prop := ∃ v0 vA v3 Bk, Obj4 w O v0 vA (.slice (some ⟨Bk, 0, none⟩) (3 + g.length) (3 + g.length)) v3 ∧ Row 0 w 75 vA (sets (absF (pars g))) ∧ BelAt w Bk (3 + g.length) (fun c => blN (absF (pars g)) (3 + g.length) c)
def okOpen (g : Gr) (cl : List Int) : Bool := goodB g && cl.all (classB g)
def OpenP (g : Gr) (cl : List Int) (w : World) (e : Ending) (w' : World) : Prop :=
  Below w.heap.size w w' ∧ ((okOpen g cl = true ∧ ∃ O, e = .returned (.tuple #[.pointer (some ⟨O, 0, none⟩), .int .i64 0]) ∧ GraphAt w' O g) ∨ (okOpen g cl = false ∧ e = .returned (.tuple #[.pointer none, .int .i64 2])))
set_option maxRecDepth 100000 in
set_option maxHeartbeats 4000000 in
theorem open_any (W0 : World) (g : Gr) (sa : Option Addr) (cap : Nat) (hl : (g.length : Int) ≤ 9223372036854775807) (hi : GrAt W0 sa g) (cl : List Int) (ca : Option Addr) (cc : Nat) (hcl : (cl.length : Int) ≤ 1000) (w : World) (hB : Below W0.heap.size W0 w) (hci : IntsAt w ca cl) :
    Calls Try.prog 29 #[.slice sa g.length cap, .slice ca cl.length cc] w (OpenP g cl w) := by
  have hiw := hi.below hB
  have HI := Lib.hid hi; clear hi
  have HB := Lib.hid hB; clear hB
  have HCI := Lib.hid hci; clear hci
  unfold OpenP okOpen
  cases hg : goodB g with
  | false =>
    have HG := Lib.hid hg; clear hg
    go_enter Try.func29, Try.ntmps29
    go_wp2_with (go_at_call 57; refine (formed_any W0 g _ _ hl HI.out _ HB.out).mono ?_; rintro e w2 ⟨rfl, hu⟩; rw [HG.out]; have HU := Lib.hid hu; clear hu)
    go_ret2
    exact ⟨HU.out, .inr ⟨rfl, rfl⟩⟩
  | true =>
    have hlen := good_len hg
    have HG := Lib.hid hg; clear hg
    have hmm : ∀ w : World, (Instr.makeMap 58 none).run Try.prog w = .ok (.map (some w.heap.size)) (w.alloc (.map #[] 0)) := fun _ => rfl
    go_enter Try.func29, Try.ntmps29
    go_wp2_with (first
      | (go_at_call 57; refine (formed_any W0 g _ _ hl HI.out _ HB.out).mono ?_; rintro e w2 ⟨rfl, hu⟩; rw [HG.out]; obtain ⟨gv, hgl, hgv, hgc⟩ := gr_vals ((HI.out.below (HB.out.trans (hu.mono HB.out.size)))); have HGV := Lib.hid hgv; have HGC := Lib.hid hgc; have hm3 := make_three w2; have HU := Lib.hid hu; clear hu hgv hgc)
      | (at_builtin; apply wpList_apps (B := w2.heap.size) (xs := [.slice none 0 0, .slice none 0 0, .slice none 0 0]) (sa := sa) (n := g.length) (c := cap) (news := gv) (hnl := hgl) (ho := rfl) (hgd := rfl) (hty := rfl) (hs := rfl) (hx := rfl); (case hr => exact three_row w2); (case hB => simp); (case hx2 => (intro k u hu; obtain ⟨b, off, h1, h2, h3⟩ := HGC.out k u hu; exact ⟨b, off, h1, ((Below.refl _ _).alloc (Nat.le_refl _) _).cell (p := ⟨b, off + k, none⟩) h2 |>.trans h3⟩)); (case h1 => (intro u hu; obtain ⟨k, hk⟩ := List.getElem?_of_mem hu; obtain ⟨l, al, cp, _, rfl, _⟩ := HGV.out k u hk; rfl)); (case hb => simp; omega); intro v3 w3 hr3 hg3; obtain ⟨aP, cP, hvP, _, hcP⟩ := hr3.shape; rw [show ([Value.slice none 0 0, .slice none 0 0, .slice none 0 0] ++ gv).length = 3 + g.length by simp [hgl]; omega] at hvP; subst hvP; have HR3 := Lib.hid hr3; have HG3 := Lib.hid hg3; have HCP := Lib.hid hcP; clear hr3 hg3 hcP))
    have hz2 := HU.out.size
    have hz3 := HG3.out.size
    simp at hz3
    have hb23 : Below w2.heap.size w2 w3 := below_grown HG3.out
    have hbw3 : Below w.heap.size w w3 := HU.out.trans (hb23.mono hz2)
    have hgr3 : GrAt w3 aP (pars g) := pars_at hgl HGV.out hb23 HCP.out
    have hbb : Below w3.heap.size w3 ((w3.alloc (.map #[] 0)).alloc (.cells #[.slice aP (3 + g.length) cP, .slice none 0 0, .slice none 0 0, .map (some w3.heap.size)] 60)) := ((Below.refl _ _).alloc (Nat.le_refl _) _).alloc (by simp) _
    have hob : Obj4 ((w3.alloc (.map #[] 0)).alloc (.cells #[.slice aP (3 + g.length) cP, .slice none 0 0, .slice none 0 0, .map (some w3.heap.size)] 60)) (w3.heap.size + 1) (.slice aP (3 + g.length) cP) (.slice none 0 0) (.slice none 0 0) (.map (some w3.heap.size)) := by
      have := heap_alloc_new (w3.alloc (.map #[] 0)) (.cells #[.slice aP (3 + g.length) cP, .slice none 0 0, .slice none 0 0, .map (some w3.heap.size)] 60)
      unfold Obj4; simpa using this
    generalize hwb : (w3.alloc (.map #[] 0)).alloc (.cells #[.slice aP (3 + g.length) cP, .slice none 0 0, .slice none 0 0, .map (some w3.heap.size)] 60) = wb at *
    have hbw : Below w.heap.size w wb := hbw3.trans (hbb.mono hbw3.size)
    have hwbs := hob.lt
    have HBB := Lib.hid hbb; have HOB := Lib.hid hob; have HGR := Lib.hid hgr3; have HBW := Lib.hid hbw
    have hci2 := HCI.out.below hbw
    have HCI2 := Lib.hid hci2
    have hwz := hbw3.size
    clear hbb hob hgr3 hbw hci2 hbw3 hb23 hwb hm3 hmm hz3 HR3 HG3 HCP HGC HGV HU
    go_loopw [20] (fun i wr => ∃ k : Nat, k ≤ cl.length ∧ i = .int .i64 k ∧ wr = wb ∧ (cl.take k).all (classB g) = true) (fun i _ => cl.length - (intOf i).toNat)
    case atStart => exact ⟨0, Nat.zero_le _, rfl, rfl, rfl⟩
    case round =>
      obtain ⟨k, hk, rfl, rfl, hall⟩ := hrel
      have HALL := Lib.hid hall; clear hall
      by_cases hlt : k < cl.length
      · obtain ⟨c, hc⟩ : ∃ c, cl[k]? = some c := ⟨cl[k], List.getElem?_eq_getElem hlt⟩
        obtain ⟨b, off, rfl, hb, hcc⟩ := HCI2.out k c hc
        have hcb : (decide (0 ≤ c) && decide (c < ((3 + g.length : Nat) : Int))) = classB g c := by
          unfold classB; congr 1
        have htk := take_snocI cl k c hc
        have HTK := Lib.hid htk; have HC := Lib.hid hc
        clear htk hc
        cases hcl2 : classB g c with
        | true =>
          have HCL := Lib.hid hcl2; clear hcl2
          go_wp2_with (go_at_call 58; refine (ghas_any _ _ _ (3 + g.length) (by omega) c _ _ _ _ HOB.out).mono ?_; rintro e w5 ⟨rfl, rfl⟩; rw [hcb, HCL.out])
          refine ⟨⟨k + 1, by omega, by go_num, by first | rfl | trivial, ?_⟩, by simp [intOf]; omega⟩
          rw [HTK.out, List.all_append, HALL.out]; simp [HCL.out]
        | false =>
          have HCL := Lib.hid hcl2; clear hcl2
          go_wp2_with (go_at_call 58; refine (ghas_any _ _ _ (3 + g.length) (by omega) c _ _ _ _ HOB.out).mono ?_; rintro e w5 ⟨rfl, rfl⟩; rw [hcb, HCL.out])
          go_ret2
          refine ⟨HBW.out, .inr ⟨?_, rfl⟩⟩
          rw [Bool.true_and, Bool.eq_false_iff]
          intro h
          have := List.all_eq_true.1 h c (List.mem_of_getElem? HC.out)
          rw [HCL.out] at this; cases this
      · obtain rfl : k = cl.length := by omega
        have hall := HALL.out
        rw [List.take_length] at hall
        have hpl : (pars g).length = 3 + g.length := by simp [pars]; omega
        have hal : (absF (pars g)).length = 3 + g.length := by rw [absF_length, hpl]
        have hfa := findAbove_any w3 (pars g) aP cP (by rw [hpl]; omega) (ahead_pars HG.out) HGR.out (w3.heap.size + 1) (.slice none 0 0) (.map (some w3.heap.size)) wr HBB.out (by omega) (by rw [hpl]; exact HOB.out)
        rw [hpl] at hfa
        have HFA := Lib.hid hfa; clear hfa
        go_wp2_with (first
          | (go_at_call 59; refine HFA.out.mono ?_; rintro e w5 ⟨rfl, hu5, vA, ho5, hr5⟩; have hd5 : ∀ k, vA.ownBlock = some k → k ≠ w3.heap.size + 1 := (fun k hk => by have := (hr5.lt k hk).1; omega); have hr50 : Row 0 w5 75 vA (sets (absF (pars g))) := ⟨hr5.1, by rcases hr5.2 with h | ⟨gg, cp, cur, h1, h2, h3⟩; exact .inl h; exact .inr ⟨gg, cp, cur, h1, Nat.zero_le _, h3⟩⟩; have HU5 := Lib.hid hu5; have HO5 := Lib.hid ho5; have HR5 := Lib.hid hr50; have HD5 := Lib.hid hd5; clear hu5 ho5 hr5 hr50 hd5)
          | (go_at_call 60; refine (findBelow_any (3 + g.length) (absF (pars g)) aP cP hal (by omega) (absF_small (3 + g.length) (pars g) hpl (by omega)) (fun k c hk hc => by have := above_le HG.out k c hk hc; omega) (w3.heap.size + 1) _ _ _ HO5.out HR5.out HD5.out).mono ?_; rintro e w6 ⟨rfl, hu6, Bk, ho6, hb6⟩; have HU6 := Lib.hid hu6; have HO6 := Lib.hid ho6; have HB6 := Lib.hid hb6; clear hu6 ho6 hb6))
        go_ret2
        refine ⟨HBW.out.trans (((HU5.out.trans HU6.out).below _ HBW.out.size (by intro x hx; simp at hx; omega))), .inl ⟨by rw [Bool.true_and]; exact hall, _, rfl, _, _, _, _, HO6.out, ?_, HB6.out⟩⟩
        exact HR5.out.of_block fun k hk => HU6.out.block k (HR5.out.lt k hk).2 (by simp; exact HD5.out k hk)
end Go.Proofs.Ytaofmejfdmbfoaa
namespace Go.Proofs.Ytaofmejfdmbfoaa
open Go.ChangeShapes Go.WideShapes Go.ChangeAt Go.RowKit Go.Ln Go.Fs
theorem ints2 (w : World) (a b : Int) : IntsAt (w.alloc (.cells #[.int .i64 a, .int .i64 b] 3)) (some ⟨w.heap.size, 0, none⟩) [a, b] := fun i x hx => by
  refine ⟨w.heap.size, 0, rfl, by simp, ?_⟩
  rw [World.cell?_alloc_at _ _ _ _ rfl]
  match i, hx with
  | 0, h => cases h; rfl
  | 1, h => cases h; rfl
  | i + 2, h => simp at h
theorem ints1 (w : World) (a : Int) : IntsAt (w.alloc (.cells #[.int .i64 a] 3)) (some ⟨w.heap.size, 0, none⟩) [a] := fun i x hx => by
  refine ⟨w.heap.size, 0, rfl, by simp, ?_⟩
  rw [World.cell?_alloc_at _ _ _ _ rfl]
  match i, hx with
  | 0, h => cases h; rfl
  | i + 1, h => simp at h
theorem GraphAt.belowC {w : World} {O : Nat} {g : Gr} (h : GraphAt w O g) (b : Nat) (hb : b < 3 + g.length) : ∃ Bk, w.cell? ⟨O, 2, none⟩ = some (.slice (some ⟨Bk, 0, none⟩) (3 + g.length) (3 + g.length)) ∧ w.cell? ⟨Bk, b, none⟩ = some (.int .u64 (blN (absF (pars g)) (3 + g.length) b : Nat)) := by
  obtain ⟨v0, vA, v3, Bk, ho, _, hb2⟩ := h
  exact ⟨Bk, ho.cells.1.2.2.1, (hb2.2 b hb).1⟩
theorem GraphAt.aboveC {w : World} {O : Nat} {g : Gr} (h : GraphAt w O g) (c : Nat) (hc : c < 3 + g.length) : ∃ gA cA, w.cell? ⟨O, 1, none⟩ = some (.slice (some ⟨gA, 0, none⟩) (3 + g.length) cA) ∧ w.cell? ⟨gA, c, none⟩ = some (.int .u64 (abM g c : Nat)) := by
  obtain ⟨v0, vA, v3, Bk, ho, hr, _⟩ := h
  have hpl : (pars g).length = 3 + g.length := by simp [pars]; omega
  have hal : (absF (pars g)).length = 3 + g.length := by rw [absF_length, hpl]
  obtain ⟨aA, cA, hvA, _, hcA⟩ := hr.shape
  have hel : (sets (absF (pars g)))[c]? = some (.int .u64 ((abM g c : Nat) : Int)) := by
    have h1 : (absF (pars g))[c]? = some ((absF (pars g))[c]'(by omega)) := List.getElem?_eq_getElem (by omega)
    simp [sets, abM, List.getD, h1]
  obtain ⟨gA, haA, _, _, hec⟩ := hcA c _ hel
  subst haA
  have hsl : (sets (absF (pars g))).length = 3 + g.length := by simp [sets, hal]
  rw [hsl] at hvA
  exact ⟨gA, cA, by rw [← hvA]; exact ho.cells.1.2.1, hec⟩
theorem abM_small {g : Gr} (hg : goodB g = true) (c : Nat) : abM g c < 524288 := by
  have hlen := good_len hg
  have hpl : (pars g).length = 3 + g.length := by simp [pars]; omega
  exact getD_small (absF_small (3 + g.length) (pars g) hpl (by omega)) c
set_option maxRecDepth 100000 in
set_option maxHeartbeats 2000000 in
theorem below_any (W0 : World) (g : Gr) (sa : Option Addr) (cap : Nat) (hl : (g.length : Int) ≤ 9223372036854775807) (hi : GrAt W0 sa g) (a b : Int) (w : World) (hB : Below W0.heap.size W0 w) :
    Calls Try.prog 23 #[.slice sa g.length cap, .int .i64 a, .int .i64 b] w fun e w' => e = .returned (BelV g a b) ∧ Below w.heap.size w w' := by
  have hop := open_any W0 g sa cap hl hi [a, b] (some ⟨w.heap.size, 0, none⟩) 2 (by simp) (w.alloc (.cells #[.int .i64 a, .int .i64 b] 3)) (hB.alloc hB.size _) (ints2 w a b)
  have HOP := Lib.hid hop; clear hop hi hB
  unfold BelV
  cases hok : okOpen g [a, b] with
  | false =>
    have hn : ¬ (goodB g = true ∧ classB g a = true ∧ classB g b = true) := by
      intro h
      simp [okOpen, h.1, h.2.1, h.2.2] at hok
    rw [if_neg hn]
    go_enter Try.func23, Try.ntmps23
    go_wp2_with (go_at_call 29; refine HOP.out.mono ?_; (rintro e w2 ⟨hu, ⟨hb, _⟩ | ⟨_, rfl⟩⟩; (rw [hok] at hb; cases hb); have HU := Lib.hid hu; clear hu))
    go_ret2
    exact ⟨rfl, ((Below.refl _ w).alloc (Nat.le_refl _) _).trans (HU.out.mono (by simp))⟩
  | true =>
    have hh : goodB g = true ∧ classB g a = true ∧ classB g b = true := by
      simp [okOpen] at hok; exact hok
    rw [if_pos hh]
    obtain ⟨hg, ha, hb⟩ := hh
    obtain ⟨an, rfl, han⟩ := classB_nat ha
    obtain ⟨bn, rfl, hbn⟩ := classB_nat hb
    have hlen := good_len hg
    rw [Int.toNat_natCast, Int.toNat_natCast]
    have hbit : hasB (blN (absF (pars g)) (3 + g.length) bn) (an : Int) = aboveB g an bn := by
      unfold hasB
      rw [decide_eq_true (by omega), decide_eq_true (by omega), Int.toNat_natCast, blN_bit, decide_eq_true han]; rfl
    have hbs := blN_small (absF (pars g)) bn (3 + g.length) (by omega)
    clear hg ha hb
    go_enter Try.func23, Try.ntmps23
    go_wp2_with (first
      | (go_at_call 29; refine HOP.out.mono ?_; (rintro e w2 ⟨hu, ⟨_, O, rfl, hgr⟩ | ⟨hb, _⟩⟩; rotate_left; (rw [hok] at hb; cases hb); obtain ⟨Bk, q1, q2⟩ := hgr.belowC bn hbn; have HU := Lib.hid hu; clear hu hgr))
      | (go_at_call 48; refine (has_any _ (by omega) _ _).mono ?_; rintro e w3 ⟨rfl, hu⟩; rw [hbit]; have HU3 := Lib.hid hu; clear hu))
    go_ret2
    exact ⟨rfl, (((Below.refl _ w).alloc (Nat.le_refl _) _).trans (HU.out.mono (by simp))).trans (HU3.out.mono (by have := HU.out.size; simp at this; omega))⟩
end Go.Proofs.Ytaofmejfdmbfoaa
