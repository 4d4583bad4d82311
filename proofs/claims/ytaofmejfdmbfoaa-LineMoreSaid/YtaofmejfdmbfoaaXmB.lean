/-
  The machine of names: its steps, and that each of them is one of the model. No condition.
-/
import Derived.Test.YtaofmejfdmbfoaaXmA
import Derived.Recover
namespace Go.Xm
noncomputable section

inductive AOut where
  | val (v : Value) (h : Hp) (nx : Nat)
  | enter (f : FuncId) (args : List Value)
  | round (l : Nat) (args : List Value)
  | dfr (d : ADef)
  | recov
  | panic (v : Value)
  | alts (l : List (Value × Hp))
  | fail

/-- what an operand stands for -/
def rd (G : Nat) (tm : Tr Value) : Operand → Value
  | .tmp t => match tm.get 12 t with | some v => v | none => .chan none
  | .const v => bif closed 30 v then v else .chan none
  | .global g => bif Nat.blt g G then .pointer (some ⟨g, 0, none⟩) else .chan none
  | .func f => .func (.func f) #[] #[]

def ofV (o : Option Value) (h : Hp) (nx : Nat) : AOut := match o with | some v => .val v h nx | none => .fail
def ofT (o : Option (Value × Hp × Nat)) : AOut := match o with | some (v, h, nx) => .val v h nx | none => .fail
def ofH (o : Option Hp) (nx : Nat) : AOut := match o with | some h => .val (.tuple #[]) h nx | none => .fail

def bodied (P : Program) (f : FuncId) : Bool := match P.funcs[f]? with | some fn => fn.body.isSome | none => false

def aMethod (P : Program) (t : TypeId) (name : String) : Option (FuncId × Bool) :=
  match P.info? t with
  | some i => match i.methods.toList.find? (fun m => m.name == name) with
    | some m => bif m.path.isEmpty then m.func else none
    | none => none
  | none => none

def aMin : Value → Value → Option Value
  | .int j a, .int k b => bif decide (j = k) then some (.int j (bif decide (b < a) then b else a)) else none
  | _, _ => none
def aMax : Value → Value → Option Value
  | .int j a, .int k b => bif decide (j = k) then some (.int j (bif decide (a < b) then b else a)) else none
  | _, _ => none
def aBuiltin (P : Program) (rdx : Operand → Value) (b : Builtin) (tys : List TypeId) (as : List Operand) (h : Hp) (nx : Nat) : AOut :=
  match b, tys, as with
  | .len, [t], [x] => ofV (aLen P h t (rdx x)) h nx
  | .append, tys, [s, x] => ofT (aAppend P h nx tys (rdx s) (rdx x))
  | .min, _, [x, y] => ofV (aMin (rdx x) (rdx y)) h nx
  | .max, _, [x, y] => ofV (aMax (rdx x) (rdx y)) h nx
  | .copy, tys, [s, x] => ofT (aCopy P h nx tys (rdx s) (rdx x))
  | .recover, _, _ => .recov
  | .panic, _, [x] => match rdx x with | .iface t v => .panic (.iface t v) | _ => .fail
  | _, _, _ => .fail
def aCall (P : Program) (rdx : Operand → Value) (c : Call) (h : Hp) (nx : Nat) : AOut :=
  match c.callee with
  | .value f =>
    match rdx f with
    | .func (.func g) first cap => bif bodied P g then .enter g (first.toList ++ c.args.toList.map rdx ++ cap.toList) else .fail
    | .func (.yield l) _ _ => .round l (c.args.toList.map rdx)
    | _ => .fail
  | .invoke r name =>
    match rdx r with
    | .iface t v => match aMethod P t name, P.underlying t with
      | some (_, false), some (.pointer _) => .fail
      | some (f, false), some _ => bif bodied P f then .enter f (v :: c.args.toList.map rdx) else .fail
      | some (f, true), some (.pointer _) => bif bodied P f then .enter f (v :: c.args.toList.map rdx) else .fail
      | _, _ => .fail
    | _ => .fail
  | .builtin b => aBuiltin P rdx b c.argTypes.toList c.args.toList h nx

def aConvA (P : Program) (s d : TypeId) (v : Value) (h : Hp) (nx : Nat) : AOut :=
  match aConvS P h s d v with
  | some (v, h2) => .val v h2 nx
  | none => ofV (aConv P s d v) h nx
def aop (P : Program) (rdx : Operand → Value) (o : Op) (h : Hp) (nx : Nat) : AOut :=
  match o with
  | .move x | .assign x => .val (rdx x) h nx
  | .pick c a b => match rdx c with | .bool true => .val (rdx a) h nx | .bool false => .val (rdx b) h nx | _ => .fail
  | .alloc t => ofT (aAlloc P h nx t)
  | .box t x => ofT (aBox h nx t (rdx x))
  | .build t ps => ofV (aBuild P t (ps.toList.map fun p => (p.1, rdx p.2))) h nx
  | .buildSlice t n ps => bif Nat.beq n 0 && ps.toList.isEmpty then ofT (aEmptySlice P h nx t) else ofT (aBuildSlice P h nx t n (ps.toList.map fun p => (p.1, rdx p.2)))
  | .load t a => ofV (aLoad P h t (rdx a)) h nx
  | .store t a x => ofH (aStore P h t (rdx a) (rdx x)) nx
  | .nilCheck x => match rdx x with
    | .pointer (some a) => .val (.pointer (some a)) h nx
    | .func (.func f) a c => .val (.func (.func f) a c) h nx
    | .func (.yield l) a c => .val (.func (.yield l) a c) h nx
    | .iface t v => .val (.iface t v) h nx
    | _ => .fail
  | .binOp op t x y _ => ofV (aBin P op t x y (rdx x) (rdx y)) h nx
  | .unOp op _ x => ofV (aUn op (rdx x)) h nx
  | .convert s d x => aConvA P s d (rdx x) h nx
  | .makeInterface t x => ofV (aIface P t (rdx x)) h nx
  | .makeFunc (.func f) first cap => .val (.func (.func f) ⟨first.toList.map rdx⟩ ⟨cap.toList.map rdx⟩) h nx
  | .makeSlice t l c => ofT (aMakeSlice P h nx t (rdx l) (rdx c))
  | .makeMap _ none => .val (.map (some nx)) (h.put nx (some (.map [] 0))) (Nat.add nx 1)
  | .slice t x lo hi none => ofV (aSlice P h t (rdx x) (lo.map rdx) (hi.map rdx)) h nx
  | .slice t x lo hi (some mx) => ofT (aSlice3 P h nx t (rdx x) (lo.map rdx) (hi.map rdx) (rdx mx))
  | .fieldAddr t x f => ofV (aFieldAddr P t (rdx x) f) h nx
  | .field t x f => ofV (aField P t (rdx x) f) h nx
  | .indexAddr t x i => ofV (aIndexAddr P t (rdx x) (rdx i)) h nx
  | .index t x i => ofV (aIndex P t (rdx x) (rdx i)) h nx
  | .lookup t m k ok => ofV (aLookup P h t (rdx m) (rdx k) ok) h nx
  | .mapUpdate t m k v | .insert t m k v => ofH (aMapUpdate P h t (rdx m) (rdx k) (rdx v)) nx
  | .mapEntry t m k => match aMapEntry P h t (rdx m) (rdx k) with | some (v, h2) => .val v h2 nx | none => .fail
  | .entryStore _ m s x => ofH (aEntryStore h (rdx m) (rdx s) (rdx x)) nx
  | .range t x => ofT (aRange P h nx t (rdx x))
  | .next it s => match aNext h (rdx it) s with | some l => .alts l | none => .fail
  | .entry it => ofV (aEntry h (rdx it)) h nx
  | .typeAssert x _ a ok => ofV (aAssert P (rdx x) a ok) h nx
  | .extract t i => ofV (aExtract (rdx t) i) h nx
  | .call c => aCall P rdx c h nx
  | .defer c => match c.callee with
    | .value f => match rdx f with
      | .func (.func g) first cap => .dfr ⟨.fn g cap.toList, first.toList ++ c.args.toList.map rdx⟩
      | _ => .fail
    | _ => .fail
  | .panic x => match rdx x with | .iface t v => .panic (.iface t v) | _ => .fail
  | _ => .fail

section
variable {P : Program} {G : Nat} {K : Kp} {e : Env} {h : Hp} {nx : Nat} {w : World}

/-- what an operation comes to, held against what it comes to here -/
inductive OKO (P : Program) (G : Nat) (K : Kp) (e : Env) (h : Hp) (nx : Nat) (w : World) : AOut → Result Next → Prop
  | val {v : Value} {h' : Hp} {nx' : Nat} {v' : Value} {w' : World} {e' : Env} (hle : e.le e') (hv : VR e' v v') (hH : HR P G K e' h' nx' w') (hG : G ≤ nx') : OKO P G K e h nx w (.val v h' nx') (.ok (.value v') w')
  | skip {v : Value} {h' : Hp} {nx' : Nat} {w' : World} {e' : Env} (hle : e.le e') (hv : VR e' v undef) (hH : HR P G K e' h' nx' w') (hG : G ≤ nx') : OKO P G K e h nx w (.val v h' nx') (.ok .skip w')
  | enter {f : FuncId} {args : List Value} {args' : Array Value} (ha : VRs e args args'.toList) (hb : bodied P f = true) : OKO P G K e h nx w (.enter f args) (.ok (.enter f args') w)
  | round {l l' s x : Nat} {args : List Value} {args' : Array Value} (hl : e l = some (l', s, x)) (ha : VRs e args args'.toList) : OKO P G K e h nx w (.round l args) ((Instr.yield l' args').run P w)
  | dfr {d : ADef} {d' : Deferred} (hd : DR e d d') : OKO P G K e h nx w (.dfr d) (.ok (.defer d') w)
  | recov : OKO P G K e h nx w .recov (.ok .recover w)
  | panic {v v' : Value} (hv : VR e v v') : OKO P G K e h nx w (.panic v) (.halt (.panic v') w)
  | alts {l : List (Value × Hp)} {o : Value × Hp} {v' : Value} {w' : World} (ho : o ∈ l) (hv : VR e o.1 v') (hH : HR P G K e o.2 nx w') : OKO P G K e h nx w (.alts l) (.ok (.value v') w')

/-- no function with a body bears the one name by which the model knows a function -/
def NamesOk (P : Program) : Prop := ∀ (f : FuncId) (fn : Func), P.funcs[f]? = some fn → fn.body.isSome = true → (fn.name == "runtime.NumGoroutine") = false

theorem aMin_ok {x y x' y' v : Value} {tys : Array TypeId} {q : TypeId} (hr : aMin x y = some v) (hx : VR e x x') (hy : VR e y y') : ∃ v', (Builtin.min_ tys q #[x', y']).run P w = .ok v' w ∧ VR e v v' := by
  unfold aMin at hr
  split at hr
  · rename_i j a k b
    obtain ⟨hjk, rfl⟩ := bif_some hr
    have hjk := of_decide_eq_true hjk
    subst hjk
    cases hx; cases hy
    refine ⟨_, ?_, .int _ _⟩
    by_cases h : b < a
    · simp [Builtin.min_, Builtin.min2, h]
    · simp [Builtin.min_, Builtin.min2, h]
  · cases hr
theorem aMax_ok {x y x' y' v : Value} {tys : Array TypeId} {q : TypeId} (hr : aMax x y = some v) (hx : VR e x x') (hy : VR e y y') : ∃ v', (Builtin.max_ tys q #[x', y']).run P w = .ok v' w ∧ VR e v v' := by
  unfold aMax at hr
  split at hr
  · rename_i j a k b
    obtain ⟨hjk, rfl⟩ := bif_some hr
    have hjk := of_decide_eq_true hjk
    subst hjk
    cases hx; cases hy
    refine ⟨_, ?_, .int _ _⟩
    by_cases h : a < b
    · simp [Builtin.max_, Builtin.max2, h]
    · simp [Builtin.max_, Builtin.max2, h]
  · cases hr

theorem callFunc_ok (hN : NamesOk P) {f : FuncId} {args : Array Value} (hb : bodied P f = true) : (callFunc f args).run P w = .ok (.enter f args) w := by
  unfold bodied at hb
  split at hb
  · rename_i fn hf
    have hn := hN f fn hf hb
    obtain ⟨c, hc⟩ := Option.isSome_iff_exists.1 hb
    have hn' : ¬ fn.name = "runtime.NumGoroutine" := by simpa using hn
    simp [callFunc, hf, hn', hc]
  · cases hb

theorem map_vr {rdx ρ : Operand → Value} (hρ : ∀ x, VR e (rdx x) (ρ x)) : ∀ l : List Operand, VRs e (l.map rdx) (l.map ρ)
  | [] => .nil
  | x :: l => .cons (hρ x) (map_vr hρ l)
theorem map_pr {rdx ρ : Operand → Value} (hρ : ∀ x, VR e (rdx x) (ρ x)) : ∀ l : List (Nat × Operand), PRs e (l.map fun p => (p.1, rdx p.2)) (l.map fun p => (p.1, ρ p.2))
  | [] => .nil
  | x :: l => .cons (hρ x.2) (map_pr hρ l)

theorem ofV_ok {s : Sem Value} {o : Option Value} (H : HR P G K e h nx w) (hG : G ≤ nx) (hne : ofV o h nx ≠ .fail) (hs : ∀ v, o = some v → ∃ v', s.run P w = .ok v' w ∧ VR e v v') :
    OKO P G K e h nx w (ofV o h nx) ((do pure (.value (← s)) : Sem Next).run P w) := by
  cases o with
  | none => exact absurd rfl hne
  | some v =>
    obtain ⟨v', h1, h2⟩ := hs v rfl
    simp only [ofV, Sem.run_bind, h1, Result.andThen_ok, Sem.run_pure]
    exact .val e.le_refl h2 H hG
theorem ofT_ok {s : Sem Value} {o : Option (Value × Hp × Nat)} (hne : ofT o ≠ .fail) (hs : ∀ r, o = some r → OKV P G K e (s.run P w) r) :
    OKO P G K e h nx w (ofT o) ((do pure (.value (← s)) : Sem Next).run P w) := by
  cases o with
  | none => exact absurd rfl hne
  | some r =>
    obtain ⟨v, h', nx'⟩ := r
    obtain ⟨v', w', e', h1, h2, h3, h4, h5⟩ := hs _ rfl
    simp only [ofT, Sem.run_bind, h1, Result.andThen_ok, Sem.run_pure]
    exact .val h2 h3 h4 h5
theorem of_okv {s : Sem Value} {v : Value} {h2 : Hp} {nx2 : Nat} (hs : OKV P G K e (s.run P w) (v, h2, nx2)) :
    OKO P G K e h nx w (.val v h2 nx2) ((do pure (.value (← s)) : Sem Next).run P w) := by
  obtain ⟨v', w', e', h1, h2, h3, h4, h5⟩ := hs
  simp only [Sem.run_bind, h1, Result.andThen_ok, Sem.run_pure]
  exact .val h2 h3 h4 h5
theorem ofH_ok {s : Sem Unit} {o : Option Hp} (hG : G ≤ nx) (hne : ofH o nx ≠ .fail) (hs : ∀ h2, o = some h2 → ∃ w2, s.run P w = .ok () w2 ∧ HR P G K e h2 nx w2) :
    OKO P G K e h nx w (ofH o nx) ((do s; pure .skip : Sem Next).run P w) := by
  cases o with
  | none => exact absurd rfl hne
  | some h2 =>
    obtain ⟨w2, h1, h3⟩ := hs _ rfl
    simp only [ofH, Sem.run_bind, h1, Result.andThen_ok, Sem.run_pure]
    exact .skip e.le_refl (.tuple .nil) h3 hG

theorem run_method {t : TypeId} {v : Value} {name : String} {f : FuncId} {ptr : Bool} {d : TypeDesc} (hm : aMethod P t name = some (f, ptr)) (hd : P.underlying t = some d)
    (hp : (ptr = true ∧ ∃ el, d = .pointer el) ∨ (ptr = false ∧ ∀ el, d ≠ .pointer el)) (fuel : Nat) : (method (fuel + 1) t v name).run P w = .ok (f, v) w := by
  unfold aMethod at hm
  split at hm
  · rename_i i hi
    split at hm
    · rename_i m hf
      cases hpe : m.path.isEmpty with
      | false => rw [hpe] at hm; simp at hm
      | true =>
        rw [hpe] at hm
        simp only [cond_true] at hm
        have hpath : m.path.toList = [] := by simpa using hpe
        simp only [method, Sem.run_bind, run_typeInfo hi, Result.andThen_ok]
        rw [← Array.find?_toList, hf]
        simp only [Sem.run_bind, hpath, follow, Sem.run_pure, Result.andThen_ok, hm, hpe]
        rcases hp with ⟨rfl, el, rfl⟩ | ⟨rfl, hne⟩
        · simp [receiverAt, run_underlying hd, Place.get]
        · simp only [receiverAt, Sem.run_bind, run_underlying hd, Result.andThen_ok]
          cases d <;> first | exact absurd rfl (hne _) | simp [Place.get]
    · cases hm
  · cases hm

theorem invoke_ok (hN : NamesOk P) {rdx ρ : Operand → Value} (hρ : ∀ x, VR e (rdx x) (ρ x)) {c : Call} {ty : TypeId} {r : Operand} {name : String} (hc : c.callee = .invoke r name) {t : TypeId} {v v' : Value}
    (hre : ρ r = .iface t v') (hv : VR e v v') {f : FuncId} {ptr : Bool} {d : TypeDesc} (hm : aMethod P t name = some (f, ptr)) (hd : P.underlying t = some d)
    (hp : (ptr = true ∧ ∃ el, d = .pointer el) ∨ (ptr = false ∧ ∀ el, d ≠ .pointer el)) (hb : bodied P f = true) :
    OKO P G K e h nx w (.enter f (v :: c.args.toList.map rdx)) ((do let d ← resolve ρ c ty; invoke d.target d.args : Sem Next).run P w) := by
  have hargs : (#[ρ r] ++ c.args.map ρ)[0]? = some (.iface t v') := by rw [← Array.getElem?_toList]; simp [hre]
  have hext : (#[ρ r] ++ c.args.map ρ).extract 1 (#[ρ r] ++ c.args.map ρ).size = c.args.map ρ := by
    apply Array.ext'
    simp
    exact List.take_of_length_le (by simp)
  have hmeth : ∀ w : World, (method (P.types.size + Made.depth) t v' name).run P w = .ok (f, v') w := fun w => run_method hm hd hp (P.types.size + 99)
  simp only [resolve, hc, pure_bind, invoke, hargs, hext, callMethod, Sem.run_bind, run_program, Result.andThen_ok, hmeth]
  rw [callFunc_ok hN hb]
  refine .enter ?_ hb
  simp only [Array.toList_append, Array.toList_map, List.cons_append, List.nil_append]
  exact .cons hv (map_vr hρ _)

theorem aCall_ok (hN : NamesOk P) (H : HR P G K e h nx w) (hG : G ≤ nx) {rdx ρ : Operand → Value} (hρ : ∀ x, VR e (rdx x) (ρ x)) {c : Call} {ty : TypeId} (hne : aCall P rdx c h nx ≠ .fail) :
    OKO P G K e h nx w (aCall P rdx c h nx) ((do let d ← resolve ρ c ty; invoke d.target d.args : Sem Next).run P w) := by
  cases hc : c.callee with
  | value f =>
    have e1 : aCall P rdx c h nx = (match rdx f with
      | .func (.func g) first cap => bif bodied P g then .enter g (first.toList ++ c.args.toList.map rdx ++ cap.toList) else .fail
      | .func (.yield l) _ _ => .round l (c.args.toList.map rdx)
      | _ => .fail) := by unfold aCall; rw [hc]
    rw [e1] at hne ⊢
    have hf := hρ f
    generalize rdx f = rv at hne hf ⊢
    generalize hfe : ρ f = fv at hf
    split at hne
    · rename_i g first cap
      cases hb : bodied P g with
      | false => rw [hb] at hne; exact absurd rfl hne
      | true =>
        cases hf with
        | @func _ _ first' _ cap' h1 h2 =>
          simp only [cond_true, resolve, hc, hfe, Deferred.ofValue, pure_bind, invoke]
          rw [callFunc_ok hN hb]
          refine .enter ?_ hb
          simp only [Array.toList_append, Array.toList_map]
          exact (h1.append (map_vr hρ _)).append h2
    · rename_i l first cap
      cases hf with
      | yield hl =>
        simp only [resolve, hc, hfe, Deferred.ofValue, pure_bind, invoke]
        have : (#[] ++ c.args.map ρ) = c.args.map ρ := by simp
        rw [this]
        exact .round hl (by simpa using map_vr hρ c.args.toList)
    · exact absurd rfl hne
  | invoke r name =>
    have e1 : aCall P rdx c h nx = (match rdx r with
      | .iface t v => (match aMethod P t name, P.underlying t with
        | some (_, false), some (.pointer _) => .fail
        | some (f, false), some _ => bif bodied P f then .enter f (v :: c.args.toList.map rdx) else .fail
        | some (f, true), some (.pointer _) => bif bodied P f then .enter f (v :: c.args.toList.map rdx) else .fail
        | _, _ => .fail)
      | _ => .fail) := by unfold aCall; rw [hc]
    rw [e1] at hne ⊢
    have hr := hρ r
    generalize rdx r = rv at hne hr ⊢
    generalize hre : ρ r = r' at hr
    split at hne
    · rename_i t v
      cases hr with
      | @iface _ _ v' hv =>
        generalize hm : aMethod P t name = mm at hne ⊢
        generalize hd : P.underlying t = dd at hne ⊢
        split at hne
        · exact absurd rfl hne
        · rename_i f d hnp
          cases hb : bodied P f with
          | false => rw [hb] at hne; exact absurd rfl hne
          | true => exact invoke_ok hN hρ hc hre hv hm hd (.inr ⟨rfl, fun el h => hnp el h⟩) hb
        · rename_i f el
          cases hb : bodied P f with
          | false => rw [hb] at hne; exact absurd rfl hne
          | true => exact invoke_ok hN hρ hc hre hv hm hd (.inl ⟨rfl, el, rfl⟩) hb
        · exact absurd rfl hne
    · exact absurd rfl hne
  | builtin b =>
    have e1 : aCall P rdx c h nx = aBuiltin P rdx b c.argTypes.toList c.args.toList h nx := by unfold aCall; rw [hc]
    rw [e1] at hne ⊢
    have hargs : c.args.map ρ = (c.args.toList.map ρ).toArray := by apply Array.ext'; simp
    have htys : c.argTypes = c.argTypes.toList.toArray := by simp
    simp only [resolve, hc, pure_bind, invoke]
    rw [hargs, htys]
    generalize c.argTypes.toList = tys at hne ⊢
    generalize c.args.toList = as at hne ⊢
    unfold aBuiltin at hne ⊢
    split at hne
    · rename_i t x
      exact ofV_ok H hG hne (fun v hv => aLen_ok H hv (hρ x))
    · rename_i tys s x
      exact ofT_ok hne (fun r hr => aAppend_ok H hG hr (hρ s) (hρ x))
    · rename_i tys x y
      exact ofV_ok H hG hne (fun v hv => aMin_ok hv (hρ x) (hρ y))
    · rename_i tys x y
      exact ofV_ok H hG hne (fun v hv => aMax_ok hv (hρ x) (hρ y))
    · rename_i tys s x
      exact ofT_ok hne (fun r hr => aCopy_ok H hG hr (hρ s) (hρ x))
    · exact .recov
    · rename_i x
      have hx := hρ x
      generalize rdx x = rv at hne hx ⊢
      generalize hxe : ρ x = x' at hx
      split at hne
      · rename_i t v
        cases hx with
        | @iface _ _ v' hv =>
          have : ∀ q, (builtin .panic tys.toArray ty q (List.map ρ [x]).toArray).run P w = .halt (.panic (.iface t v')) w := by
            intro q
            simp [builtin, Instr.panic, hxe]
          rw [this]
          exact .panic (.iface t hv)
      · exact absurd rfl hne
    · exact absurd rfl hne

theorem opt_br {rdx ρ : Operand → Value} (hρ : ∀ x, VR e (rdx x) (ρ x)) (o : Option Operand) : BR e (o.map rdx) (o.map ρ) := by
  cases o with
  | none => exact .none
  | some x => exact .some (hρ x)

theorem aop_ok (hN : NamesOk P) (H : HR P G K e h nx w) (hG : G ≤ nx) {rdx ρ : Operand → Value} (hρ : ∀ x, VR e (rdx x) (ρ x)) {o : Oper} (hne : aop P rdx o.op h nx ≠ .fail) :
    OKO P G K e h nx w (aop P rdx o.op h nx) ((execOp ρ o).run P w) := by
  obtain ⟨dst, op, type, pos, after, guard⟩ := o
  dsimp only at hne ⊢
  cases op with
  | move x => exact .val e.le_refl (hρ x) H hG
  | assign x => exact .val e.le_refl (hρ x) H hG
  | pick c a b =>
    have hc := hρ c
    simp only [aop] at hne ⊢
    simp only [execOp]
    generalize rdx c = cv at hne hc ⊢
    generalize ρ c = cv' at hc
    split at hne
    · cases hc; exact .val e.le_refl (hρ a) H hG
    · cases hc; exact .val e.le_refl (hρ b) H hG
    · exact absurd rfl hne
  | alloc t => exact ofT_ok hne (fun r hr => aAlloc_ok H hG hr)
  | box t x => exact ofT_ok hne (fun r hr => aBox_ok H hG hr (hρ x))
  | build t ps =>
    refine ofV_ok H hG hne (fun v hv => ?_)
    have := aBuild_ok (w := w) hv (map_pr hρ ps.toList)
    have he : (List.map (fun p => (p.1, ρ p.2)) ps.toList).toArray = ps.map (fun p => (p.1, ρ p.2)) := by apply Array.ext'; simp
    rw [he] at this
    exact this
  | buildSlice t n ps =>
    have e0 : aop P rdx (.buildSlice t n ps) h nx = (bif Nat.beq n 0 && ps.toList.isEmpty then ofT (aEmptySlice P h nx t) else ofT (aBuildSlice P h nx t n (ps.toList.map fun p => (p.1, rdx p.2)))) := rfl
    rw [e0] at hne ⊢
    clear e0
    cases hz : (Nat.beq n 0 && ps.toList.isEmpty) with
    | true =>
      rw [hz] at hne
      simp only [cond_true] at hne ⊢
      simp only [Bool.and_eq_true] at hz
      obtain rfl : n = 0 := Nat.eq_of_beq_eq_true hz.1
      obtain rfl : ps = #[] := by simpa using hz.2
      exact ofT_ok hne (fun r hr => by simpa using aEmptySlice_ok H hG hr)
    | false =>
      rw [hz] at hne
      simp only [cond_false] at hne ⊢
      refine ofT_ok hne (fun r hr => ?_)
      have := aBuildSlice_ok H hG hr (map_pr hρ ps.toList)
      have he : (List.map (fun p => (p.1, ρ p.2)) ps.toList).toArray = ps.map (fun p => (p.1, ρ p.2)) := by apply Array.ext'; simp
      rw [he] at this
      exact this
  | makeSlice t l c => exact ofT_ok hne (fun r hr => aMakeSlice_ok H hG hr (hρ l) (hρ c))
  | load t a => exact ofV_ok H hG hne (fun v hv => aLoad_ok H hv (hρ a))
  | store t a x => exact ofH_ok hG hne (fun h2 hh => aStore_ok H hh (hρ a) (hρ x))
  | nilCheck x =>
    have hx := hρ x
    simp only [aop] at hne ⊢
    simp only [execOp]
    generalize rdx x = xv at hne hx ⊢
    generalize ρ x = xv' at hx
    split at hne
    · cases hx with
      | ptr hb => exact .val e.le_refl (.ptr hb) H hG
    · cases hx with
      | func _ h1 h2 => exact .val e.le_refl (.func _ h1 h2) H hG
    · cases hx with
      | yield hl => exact .val e.le_refl (.yield hl) H hG
    · cases hx with
      | iface _ hv => exact .val e.le_refl (.iface _ hv) H hG
    · exact absurd rfl hne
  | binOp op t x y yt => exact ofV_ok H hG hne (fun v hv => aBin_ok hv (hρ x) (hρ y))
  | unOp op t x => exact ofV_ok H hG hne (fun v hv => aUn_ok hv (hρ x))
  | convert s d x =>
    simp only [aop, aConvA] at hne ⊢
    cases hq : aConvS P h s d (rdx x) with
    | some r =>
      obtain ⟨v, h2⟩ := r
      exact of_okv (aConvS_ok H hG hq (hρ x))
    | none =>
      rw [hq] at hne
      exact ofV_ok H hG hne (fun v hv => aConv_ok hv (hρ x))
  | makeInterface t x => exact ofV_ok H hG hne (fun v hv => aIface_ok hv (hρ x))
  | makeFunc fn first cap =>
    cases fn with
    | func f =>
      refine .val e.le_refl (.func f ?_ ?_) H hG
      · simpa using map_vr hρ first.toList
      · simpa using map_vr hρ cap.toList
    | _ => exact absurd rfl hne
  | makeMap t r =>
    cases r with
    | none =>
      obtain ⟨v', w', e', h1, h2, h3, h4, h5⟩ := aMakeMap_ok H hG t
      simp only [execOp, Option.map_none, Sem.run_bind, h1, Result.andThen_ok, Sem.run_pure]
      exact .val h2 h3 h4 h5
    | some r => exact absurd rfl hne
  | slice t x lo hi mx =>
    cases mx with
    | none => exact ofV_ok H hG hne (fun v hv => aSlice_ok H hv (hρ x) (opt_br hρ lo) (opt_br hρ hi))
    | some m => exact ofT_ok hne (fun r hr => aSlice3_ok H hG hr (hρ x) (opt_br hρ lo) (opt_br hρ hi) (hρ m))
  | fieldAddr t x f => exact ofV_ok H hG hne (fun v hv => aFieldAddr_ok hv (hρ x))
  | field t x f => exact ofV_ok H hG hne (fun v hv => aField_ok hv (hρ x))
  | indexAddr t x i => exact ofV_ok H hG hne (fun v hv => aIndexAddr_ok hv (hρ x) (hρ i))
  | index t x i => exact ofV_ok H hG hne (fun v hv => aIndex_ok hv (hρ x) (hρ i))
  | lookup t m k ok => exact ofV_ok H hG hne (fun v hv => aLookup_ok H hv (hρ m) (hρ k))
  | mapUpdate t m k v => exact ofH_ok hG hne (fun h2 hh => aMapUpdate_ok H hh (hρ m) (hρ k) (hρ v))
  | insert t m k v => exact ofH_ok hG hne (fun h2 hh => aMapUpdate_ok H hh (hρ m) (hρ k) (hρ v))
  | mapEntry t m k =>
    simp only [aop] at hne ⊢
    cases ha : aMapEntry P h t (rdx m) (rdx k) with
    | none => rw [ha] at hne; exact absurd rfl hne
    | some r =>
      obtain ⟨v', w2, h1, h2, h3⟩ := aMapEntry_ok (w := w) H ha (hρ m) (hρ k)
      simp only [execOp, Sem.run_bind, h1, Result.andThen_ok, Sem.run_pure]
      exact .val e.le_refl h2 h3 hG
  | entryStore t m s x => exact ofH_ok hG hne (fun h2 hh => aEntryStore_ok H hh (hρ m) (hρ s) (hρ x))
  | range t x => exact ofT_ok hne (fun r hr => aRange_ok H hG hr (hρ x))
  | next it s =>
    simp only [aop] at hne ⊢
    cases ha : aNext h (rdx it) s with
    | none => rw [ha] at hne; exact absurd rfl hne
    | some l =>
      obtain ⟨q, hq, v', w', h1, h2, h3⟩ := aNext_ok (w := w) (ty := type) H ha (hρ it)
      simp only [execOp, Sem.run_bind, h1, Result.andThen_ok, Sem.run_pure]
      exact .alts hq h2 h3
  | entry it => exact ofV_ok H hG hne (fun v hv => aEntry_ok H hv (hρ it))
  | typeAssert x t a ok => exact ofV_ok H hG hne (fun v hv => aAssert_ok hv (hρ x))
  | extract t i => exact ofV_ok H hG hne (fun v hv => aExtract_ok hv (hρ t))
  | call c => exact aCall_ok hN H hG hρ hne
  | defer c =>
    simp only [aop] at hne ⊢
    generalize hc : c.callee = cl at hne ⊢
    split at hne
    · rename_i f
      have hf := hρ f
      generalize rdx f = rv at hne hf ⊢
      generalize hfe : ρ f = fv at hf
      split at hne
      · rename_i g first cap
        cases hf with
        | @func _ _ first' _ cap' h1 h2 =>
          simp only [execOp, resolve, hc, hfe, Deferred.ofValue, pure_bind, Sem.run_pure]
          refine .dfr (.fn g h2 ?_)
          simp only [Array.toList_append, Array.toList_map]
          exact h1.append (map_vr hρ _)
      · exact absurd rfl hne
    · exact absurd rfl hne
  | panic x =>
    have hx := hρ x
    simp only [aop] at hne ⊢
    generalize rdx x = xv at hne hx ⊢
    generalize hxe : ρ x = xv' at hx
    split at hne
    · cases hx with
      | iface _ hv =>
        simp only [execOp, hxe, Instr.panic, Sem.run_bind, run_goPanic, Result.andThen_halt]
        exact .panic (.iface _ hv)
    · exact absurd rfl hne
  | _ => exact absurd rfl hne
end
end
end Go.Xm
namespace Go.Xm
noncomputable section

inductive AI where
  | it (i : Item)
  | inRF (l : Nat)
  | endRF (l : Nat)
inductive AM where
  | run
  | ret
  | pan (chain : List (Value × Bool))
structure AF where
  fn : FuncId
  tm : Tr Value
  nt : Nat
  todo : List AI
  dfr : List ADef
  mode : AM
  kind : CallKind
  rnd : Option Nat
structure AS where
  fs : List AF
  h : Hp
  nx : Nat
/-! changes of a frame that leave no projections behind, so that the kernel's terms stay small -/
@[reducible] def AF.goK (f : AF) (k : List AI) : AF := match f with | ⟨a, b, c, _, d, e, g, r⟩ => ⟨a, b, c, k, d, e, g, r⟩
@[reducible] def AF.goT (f : AF) (tm : Tr Value) (k : List AI) : AF := match f with | ⟨a, _, c, _, d, e, g, r⟩ => ⟨a, tm, c, k, d, e, g, r⟩
@[reducible] def AF.goM (f : AF) (m : AM) : AF := match f with | ⟨a, b, c, k, d, _, g, r⟩ => ⟨a, b, c, k, d, m, g, r⟩
@[reducible] def AF.goD (f : AF) (d : List ADef) : AF := match f with | ⟨a, b, c, k, _, m, g, r⟩ => ⟨a, b, c, k, d, m, g, r⟩
@[reducible] def AS.goF (S : AS) (fs : List AF) : AS := match S with | ⟨_, h, n⟩ => ⟨fs, h, n⟩

inductive IR (e : Env) : AI → Item → Prop
  | it (i : Item) : IR e (.it i) i
  | inRF {l l' s x : Nat} (h : e l = some (l', s, x)) : IR e (.inRF l) (.inRangeFunc l')
  | endRF {l l' s x : Nat} (h : e l = some (l', s, x)) : IR e (.endRF l) (.endRangeFunc l')
inductive IRs (e : Env) : List AI → List Item → Prop
  | nil : IRs e [] []
  | cons {a : AI} {i : Item} {l : List AI} {l' : List Item} (h : IR e a i) (hs : IRs e l l') : IRs e (a :: l) (i :: l')
inductive CR (e : Env) : List (Value × Bool) → List PanicEntry → Prop
  | nil : CR e [] []
  | cons {v v' : Value} {r : Bool} {l : List (Value × Bool)} {l' : List PanicEntry} (h : VR e v v') (hs : CR e l l') : CR e ((v, r) :: l) ({ v := v', recovered := r } :: l')
inductive MR (e : Env) : AM → FrameMode → Prop
  | run : MR e .run .run
  | ret : MR e .ret .returning
  | pan {c : List (Value × Bool)} {c' : List PanicEntry} (h : CR e c c') : MR e (.pan c) (.panicking c')
inductive RR (e : Env) : Option Nat → Option Nat → Prop
  | none : RR e none none
  | some {l l' s x : Nat} (h : e l = some (l', s, x)) : RR e (some l) (some l')
structure FR (e : Env) (a : AF) (f : Frame) : Prop where
  fn : f.fn = a.fn
  tm : TR e a.tm a.nt f.tmps
  todo : (a.mode ≠ .run ∧ a.todo = []) ∨ IRs e a.todo f.todo
  dfr : DRs e a.dfr f.defers
  mode : MR e a.mode f.mode
  kind : f.kind = a.kind
  rnd : RR e a.rnd f.roundOf
inductive FRs (e : Env) : List AF → List Frame → Prop
  | nil : FRs e [] []
  | cons {a : AF} {f : Frame} {l : List AF} {l' : List Frame} (h : FR e a f) (hs : FRs e l l') : FRs e (a :: l) (f :: l')

section
variable {e e' : Env}
theorem IR.mono (hle : e.le e') {a : AI} {i : Item} (h : IR e a i) : IR e' a i := by
  cases h with
  | it => exact .it _
  | inRF h => exact .inRF (hle _ _ h)
  | endRF h => exact .endRF (hle _ _ h)
theorem IRs.mono (hle : e.le e') {a : List AI} {i : List Item} (h : IRs e a i) : IRs e' a i := by
  induction a generalizing i with
  | nil => cases h; exact .nil
  | cons x l ih => cases h with | cons h hs => exact .cons (h.mono hle) (ih hs)
theorem CR.mono (hle : e.le e') {a : List (Value × Bool)} {i : List PanicEntry} (h : CR e a i) : CR e' a i := by
  induction a generalizing i with
  | nil => cases h; exact .nil
  | cons x l ih => cases h with | cons h hs => exact .cons (h.mono hle) (ih hs)
theorem MR.mono (hle : e.le e') {a : AM} {m : FrameMode} (h : MR e a m) : MR e' a m := by
  cases h with
  | run => exact .run
  | ret => exact .ret
  | pan h => exact .pan (h.mono hle)
theorem RR.mono (hle : e.le e') {a b : Option Nat} (h : RR e a b) : RR e' a b := by
  cases h with
  | none => exact .none
  | some h => exact .some (hle _ _ h)
theorem FR.mono (hle : e.le e') {a : AF} {f : Frame} (h : FR e a f) : FR e' a f :=
  ⟨h.fn, h.tm.mono hle, h.todo.imp id (fun h0 => h0.mono hle), h.dfr.mono hle, h.mode.mono hle, h.kind, h.rnd.mono hle⟩
theorem FRs.mono (hle : e.le e') {a : List AF} {i : List Frame} (h : FRs e a i) : FRs e' a i := by
  induction a generalizing i with
  | nil => cases h; exact .nil
  | cons x l ih => cases h with | cons h hs => exact .cons (h.mono hle) (ih hs)
theorem IRs.append {a b : List AI} {i j : List Item} (h : IRs e a i) (k : IRs e b j) : IRs e (a ++ b) (i ++ j) := by
  induction a generalizing i with
  | nil => cases h; exact k
  | cons x l ih => cases h with | cons h hs => exact .cons h (ih hs)
end

/-- the state, held against a machine whose lower frames are `cs` -/
def SR (P : Program) (G : Nat) (K : Kp) (cs : List Frame) (e : Env) (S : AS) (M : Machine) : Prop :=
  ∃ f fs w, M = lone f (fs ++ cs) w ∧ FRs e S.fs (f :: fs) ∧ HR P G K e S.h S.nx w ∧ G ≤ S.nx

theorem TR.rdx {P : Program} {G : Nat} {K : Kp} {e : Env} {h : Hp} {nx : Nat} {w : World} (H : HR P G K e h nx w) {tm : Tr Value} {nt : Nat} {f : Frame} (ht : TR e tm nt f.tmps) (x : Operand) :
    VR e (rd G tm x) (f.eval x) := by
  cases x with
  | tmp t =>
    simp only [rd, Frame.eval]
    split
    · rename_i v hv
      obtain ⟨v', h1, h2⟩ := ht.2 t v hv
      have : f.tmps.getD t undef = v' := by simp [Array.getD_eq_getD_getElem?, h1]
      rw [this]; exact h2
    · exact .any _ _
  | const v =>
    simp only [rd, Frame.eval]
    cases hc : closed 30 v with
    | true => exact closed_vr 30 e v hc
    | false => exact .any _ _
  | global g =>
    simp only [rd, Frame.eval]
    cases hg : Nat.blt g G with
    | true => exact .ptr (s := 0) (H.glob g (blt_lt hg))
    | false => exact .any _ _
  | func f => exact .func f .nil .nil

/-! ### one step of the code -/
/-- setting a slot -/
def setTm (tm : Tr Value) (nt : Nat) (d : Nat) (v : Value) : Option (Tr Value) := bif Nat.blt d nt then some (tm.upd 12 d (some v)) else none
theorem setTm_ok {e : Env} {tm tm2 : Tr Value} {nt d : Nat} {v v' : Value} {tmps : Array Value} (h : setTm tm nt d v = some tm2) (ht : TR e tm nt tmps) (hv : VR e v v') : TR e tm2 nt (tmps.setIfInBounds d v') := by
  obtain ⟨hlt, rfl⟩ := bif_some h
  have hlt := blt_lt hlt
  refine ⟨by simp [ht.1], fun t u hu => ?_⟩
  rcases Tr.get_upd 12 tm d (some v) t u hu with ⟨rfl, hx⟩ | ⟨hne, hx⟩
  · cases hx; exact ⟨v', by simp [ht.1, hlt], hv⟩
  · obtain ⟨u', h1, h2⟩ := ht.2 t u hx
    exact ⟨u', by simp [Ne.symm hne, h1], h2⟩

/-- a value comes back to a frame that waits for it -/
def aFinish (f : AF) (v : Value) : Option AF :=
  match f.todo with
  | .it (.inRegion ops (i :: rest)) :: k =>
    match ops.toList[i]? with
    | some o => match o.dst with
      | some d => match setTm f.tm f.nt d v with
        | some tm => some (f.goT tm (.it (.inRegion ops rest) :: k))
        | none => none
      | none => some (f.goK (.it (.inRegion ops rest) :: k))
    | none => none
  | .inRF l :: k => some (f.goK (.endRF l :: k))
  | _ => none
theorem aFinish_ok {e : Env} {a a2 : AF} {f : Frame} {v v' : Value} (h : aFinish a v = some a2) (hf : FR e a f) (hv : VR e v v') : FR e a2 (f.finish v') := by
  obtain ⟨h1, h2, h3, h4, h5, h6, h7⟩ := hf
  unfold aFinish at h
  split at h
  · rename_i ops i rest k htodo
    rw [htodo] at h3
    replace h3 := h3.resolve_left (fun h0 => by cases h0.2)
    obtain ⟨fn, tmps, todo, defers, mode, kind, rnd⟩ := f
    cases h3 with
    | cons hi hk =>
      cases hi
      split at h
      · rename_i o ho
        rw [Array.getElem?_toList] at ho
        split at h
        · rename_i d hd
          split at h
          · rename_i tm htm
            cases h
            refine ⟨h1, ?_, .inr (.cons (.it _) hk), h4, h5, h6, h7⟩
            simp only [Frame.finish, ho, Option.bind_some, hd]
            exact setTm_ok htm h2 hv
          · cases h
        · rename_i hd
          cases h
          refine ⟨h1, ?_, .inr (.cons (.it _) hk), h4, h5, h6, h7⟩
          simp only [Frame.finish, ho, Option.bind_some, hd]
          exact h2
      · cases h
  · rename_i l k htodo
    rw [htodo] at h3
    replace h3 := h3.resolve_left (fun h0 => by cases h0.2)
    obtain ⟨fn, tmps, todo, defers, mode, kind, rnd⟩ := f
    cases h3 with
    | cons hi hk =>
      cases hi with
      | inRF hl =>
        cases h
        exact ⟨h1, h2, .inr (.cons (.endRF hl) hk), h4, h5, h6, h7⟩
  · cases h
end
end Go.Xm
namespace Go.Xm
noncomputable section

inductive ARes where
  | one (S : AS)
  | many (L : List AS)
  | fail

def popTo (id : Nat) : List AI → Option (List AI)
  | .it (.inBlock id') :: k => bif Nat.beq id' id then some k else popTo id k
  | _ :: k => popTo id k
  | [] => none
theorem popTo_ok {e : Env} {id : Nat} : ∀ {k : List AI} {k' : List Item}, IRs e k k' → (∀ k2, popTo id k = some k2 → ∃ k2', exitTo id k' = some k2' ∧ IRs e k2 k2') ∧ (popTo id k = none → exitTo id k' = none)
  | [], _, h => by cases h; exact ⟨fun _ h => (by cases h), fun _ => rfl⟩
  | a :: k, _, h => by
    cases h with
    | @cons _ i _ k' h hs =>
      have ih := popTo_ok (id := id) hs
      have other : (∀ id', i ≠ .inBlock id') → popTo id (a :: k) = popTo id k → (∀ k2, popTo id (a :: k) = some k2 → ∃ k2', exitTo id (i :: k') = some k2' ∧ IRs e k2 k2') ∧ (popTo id (a :: k) = none → exitTo id (i :: k') = none) := by
        intro hi hp
        have : exitTo id (i :: k') = exitTo id k' := by cases i <;> first | exact absurd rfl (hi _) | rfl
        rw [hp, this]; exact ih
      cases h with
      | it =>
        cases i with
        | inBlock id' =>
          simp only [popTo, exitTo]
          by_cases hid : id' = id
          · subst hid
            simp only [Nat.beq_refl, cond_true, beq_self_eq_true, if_true]
            exact ⟨fun k2 h => (by cases h; exact ⟨k', rfl, hs⟩), fun h => (by cases h)⟩
          · have h1 : Nat.beq id' id = false := by
              cases hb : Nat.beq id' id with
              | false => rfl
              | true => exact absurd (Nat.eq_of_beq_eq_true hb) hid
            have h2 : (id' == id) = false := by simpa using hid
            rw [h1, h2]; exact ih
        | _ => exact other (by simp) rfl
      | inRF h => exact other (by simp) rfl
      | endRF h => exact other (by simp) rfl

def tmOf : List Value → Nat → Tr Value → Tr Value
  | [], _, t => t
  | v :: l, k, t => tmOf l (Nat.add k 1) (t.upd 12 k (some v))
theorem tmOf_get : ∀ {l : List Value} {k : Nat} {t : Tr Value} {i : Nat} {v : Value}, (tmOf l k t).get 12 i = some v → (∃ j, i = k + j ∧ l[j]? = some v) ∨ t.get 12 i = some v
  | [], _, _, _, _, h => .inr h
  | x :: l, k, t, i, v, h => by
    rcases tmOf_get (l := l) h with ⟨j, hj, hv⟩ | hv
    · refine .inl ⟨j + 1, ?_, by simpa using hv⟩
      have : Nat.add k 1 = k + 1 := rfl
      omega
    · rcases Tr.get_upd 12 t k (some x) i v hv with ⟨rfl, hx⟩ | ⟨_, hx⟩
      · cases hx; exact .inl ⟨0, rfl, rfl⟩
      · exact .inr hx

def aEnter (P : Program) (f : FuncId) (args : List Value) (kind : CallKind) : Option AF :=
  match P.funcs[f]? with
  | some fn => match fn.body with
    | some c => some { fn := f, tm := tmOf args 0 .nil, nt := Nat.add args.length (Nat.sub fn.ntmps args.length), todo := [.it (.code c)], dfr := [], mode := .run, kind := kind, rnd := none }
    | none => none
  | none => none
theorem aEnter_ok {P : Program} {e : Env} {f : FuncId} {args : List Value} {args' : Array Value} {kind : CallKind} {a : AF} (h : aEnter P f args kind = some a) (ha : VRs e args args'.toList) : FR e a (Frame.enter P f args' kind) := by
  unfold aEnter at h
  split at h
  · rename_i fn hf
    split at h
    · rename_i c hc
      cases h
      have hl := ha.length
      rw [Array.length_toList] at hl
      refine ⟨rfl, ⟨?_, ?_⟩, ?_, .nil, .run, rfl, .none⟩
      · simp [Frame.enter, hf, hl]
      · intro t v hv
        rcases tmOf_get hv with ⟨j, hj, hv⟩ | hv
        · obtain ⟨v', h1, h2⟩ := ha.get hv
          refine ⟨v', ?_, h2⟩
          simp only [Nat.zero_add] at hj; subst hj
          simp only [Frame.enter]
          rw [← Array.getElem?_toList, Array.toList_append, List.getElem?_append_left (lt_of_some (a := args') (by rw [← Array.getElem?_toList]; exact h1))]
          exact h1
        · rw [Tr.get_nil] at hv; cases hv
      · simp only [Frame.enter, hf, hc, Option.bind_some, Option.getD_some]
        exact .inr (.cons (.it _) .nil)
    · cases h
  · cases h

/-- the results of a body -/
def aResV (P : Program) (G : Nat) (h : Hp) (tm : Tr Value) : List ResultVar → Option (List Value)
  | [] => some []
  | .tmp t :: l => match aResV P G h tm l with
    | some vs => some (rd G tm (.tmp t) :: vs)
    | none => none
  | .cell a t :: l => match aLoad P h t (rd G tm (.tmp a)), aResV P G h tm l with
    | some v, some vs => some (v :: vs)
    | _, _ => none
def aResults (P : Program) (G : Nat) (h : Hp) (fn : Func) (tm : Tr Value) : Option Value :=
  match aResV P G h tm fn.results.toList with
  | some [v] => some v
  | some l => some (.tuple ⟨l⟩)
  | none => none

/-- a call is left: the value goes to the frame below -/
def aReturn (f : AF) (rest : List AF) (v : Value) : Option (List AF) :=
  match rest with
  | [] => none
  | c :: r => match f.kind with
    | .normal => match aFinish c v with | some c2 => some (c2 :: r) | none => none
    | .deferred => match c.mode with
      | .pan ((_, true) :: _) => some (c.goM .ret :: r)
      | _ => some (c :: r)
    | _ => none

def aLeave (S : AS) (f : AF) (rest : List AF) (jump : Option Code) : ARes :=
  match f.rnd with
  | none => match jump with
    | none | some .ret => .one (S.goF (f.goM .ret :: rest))
    | _ => .fail
  | some l => match S.h.at l with
    | some (.loop _ _ fn tm nt ps a b d) =>
      match aReturn f rest (.bool jump.isNone) with
      | some fs => .one ⟨fs, S.h.put l (some (.loop (if jump.isNone then .ready else .done) jump fn tm nt ps a b d)), S.nx⟩
      | none => .fail
    | _ => .fail

def aWanted (o : Oper) (ops : List Oper) (tm : Tr Value) : Option Bool :=
  match o.guard with
  | none => some true
  | some (j, want) => match ops[j]? with
    | some q => match q.dst with
      | some d => match tm.get 12 d with
        | some (.bool b) => some (b == want)
        | some (.chan _) => none
        | some _ => some false
        | none => none
      | none => some false
    | none => some false

def setAll (nt : Nat) : List Tmp → List Value → Tr Value → Option (Tr Value)
  | [], [], tm => some tm
  | t :: ts, v :: vs, tm => match setTm tm nt t v with
    | some tm2 => setAll nt ts vs tm2
    | none => none
  | _, _, _ => none

def aRound (h : Hp) (l : Nat) (args : List Value) : Option AF :=
  match h.at l with
  | some (.loop _ _ fn tm nt ps a b _) => match setAll nt ps args tm with
    | some tm2 => some { fn := fn, tm := tm2, nt := nt, todo := [.it (.code a), .it .beginRound, .it (.code b)], dfr := [], mode := .run, kind := .normal, rnd := some l }
    | none => none
  | _ => none

def isDefer : Op → Bool
  | .defer _ => true
  | _ => false

def finAll (f : AF) (rest : List AF) (nx : Nat) : List (Value × Hp) → Option (List AS)
  | [] => some []
  | o :: l => match aFinish f o.1, finAll f rest nx l with
    | some f2, some L => some (⟨f2 :: rest, o.2, nx⟩ :: L)
    | _, _ => none
theorem finAll_ok {f : AF} {rest : List AF} {nx : Nat} : ∀ {l : List (Value × Hp)} {L : List AS}, finAll f rest nx l = some L → ∀ o ∈ l, ∃ f2, aFinish f o.1 = some f2 ∧ (⟨f2 :: rest, o.2, nx⟩ : AS) ∈ L
  | [], _, _, o, ho => by cases ho
  | q :: l, L, h, o, ho => by
    simp only [finAll] at h
    split at h
    · rename_i f2 L2 h1 h2
      cases h
      rcases List.mem_cons.1 ho with rfl | ho
      · exact ⟨f2, h1, List.mem_cons_self⟩
      · obtain ⟨f3, a, b⟩ := finAll_ok h2 o ho
        exact ⟨f3, a, List.mem_cons_of_mem _ b⟩
    · cases h
def aApply (P : Program) (f : AF) (rest : List AF) (o : AOut) (h : Hp) (nx : Nat) : ARes :=
  match o with
  | .val v h nx => match aFinish f v with | some f2 => .one ⟨f2 :: rest, h, nx⟩ | none => .fail
  | .enter g args => match aEnter P g args .normal with | some a => .one ⟨a :: f :: rest, h, nx⟩ | none => .fail
  | .round l args => match aRound h l args with | some a => .one ⟨a :: f :: rest, h, nx⟩ | none => .fail
  | .dfr d => match f.rnd with
    | none => match aFinish (f.goD (d :: f.dfr)) (.tuple #[]) with | some f2 => .one ⟨f2 :: rest, h, nx⟩ | none => .fail
    | some _ => .fail
  | .recov => match f.rnd, f.kind, rest with
    | none, .normal, _ => match aFinish f .nilIface with | some f2 => .one ⟨f2 :: rest, h, nx⟩ | none => .fail
    | none, .deferred, c :: r => match c.mode with
      | .pan ((v, false) :: older) => match aFinish f v with | some f2 => .one ⟨f2 :: c.goM (.pan ((v, true) :: older)) :: r, h, nx⟩ | none => .fail
      | _ => match aFinish f .nilIface with | some f2 => .one ⟨f2 :: c :: r, h, nx⟩ | none => .fail
    | _, _, _ => .fail
  | .panic v => .one ⟨f.goM (.pan [(v, false)]) :: rest, h, nx⟩
  | .alts l => match finAll f rest nx l with | some L => .many L | none => .fail
  | .fail => .fail

def aExec (P : Program) (G : Nat) (S : AS) (f : AF) (rest : List AF) : ARes :=
  let to (k : List AI) : ARes := .one (S.goF (f.goK k :: rest))
  match f.todo with
  | [] => aLeave S f rest none
  | .it (.code c) :: k =>
    match c with
    | .ret => aLeave S f rest (some .ret)
    | .skip | .label _ => to k
    | .seq a b => to (.it (.code a) :: .it (.code b) :: k)
    | .cond c a b => match rd G f.tm c with
      | .bool true => to (.it (.code a) :: k)
      | .bool false => to (.it (.code b) :: k)
      | _ => .fail
    | .block id b => to (.it (.code b) :: .it (.inBlock id) :: k)
    | .loop b => to (.it (.code b) :: .it (.inLoop b) :: k)
    | .scope b => to (.it (.code b) :: .it (.inScope b) :: k)
    | .exit id => match popTo id k with
      | some k2 => to k2
      | none => aLeave S f rest (some (.exit id))
    | .region _ ops false => to (.it (.inRegion ops (List.range ops.size)) :: k)
    | .rangeFunc g ps a b =>
      match f.rnd, rd G f.tm g with
      | none, .func (.func q) first cap =>
        match aEnter P q (first.toList ++ [.func (.yield (Nat.add S.nx 1)) #[] #[]] ++ cap.toList) .normal with
        | some fr => .one ⟨fr :: (f.goK (.inRF (Nat.add S.nx 1) :: k)).goD (⟨.coll S.nx, []⟩ :: f.dfr) :: rest,
            (S.h.put S.nx (some (.dfr (some [])))).put (Nat.add S.nx 1) (some (.loop .ready none f.fn f.tm f.nt ps.toList a b S.nx)), Nat.add S.nx 2⟩
        | none => .fail
      | some l0, .func (.func q) first cap =>
        match S.h.at l0 with
        | some (.loop _ _ _ _ _ _ _ _ d) =>
          match aEnter P q (first.toList ++ [.func (.yield S.nx) #[] #[]] ++ cap.toList) .normal with
          | some fr => .one ⟨fr :: f.goK (.inRF S.nx :: k) :: rest, S.h.put S.nx (some (.loop .ready none f.fn f.tm f.nt ps.toList a b d)), Nat.add S.nx 1⟩
          | none => .fail
        | _ => .fail
      | _, _ => .fail
    | _ => .fail
  | .it (.inBlock _) :: k | .it (.inScope _) :: k => to k
  | .it (.inLoop b) :: k => to (.it (.code b) :: .it (.inLoop b) :: k)
  | .it (.inRegion _ []) :: k => to k
  | .it (.inRegion ops (i :: _)) :: _ =>
    match ops.toList[i]? with
    | some o => match aWanted o ops.toList f.tm with
      | some false => match aFinish f (.tuple #[]) with | some f2 => .one (S.goF (f2 :: rest)) | none => .fail
      | some true => bif isDefer o.op && f.rnd.isSome then .fail else aApply P f rest (aop P (rd G f.tm) o.op S.h S.nx) S.h S.nx
      | none => .fail
    | none => .fail
  | .it .beginRound :: k => match f.rnd with
    | some l => match S.h.at l with
      | some (.loop .ready pd fn tm nt ps a b d) => .one ⟨f.goK k :: rest, S.h.put l (some (.loop .busy pd fn tm nt ps a b d)), S.nx⟩
      | _ => .fail
    | none => .fail
  | .endRF l :: k => match S.h.at l with
    | some (.loop .busy _ _ _ _ _ _ _ _) => .fail
    | some (.loop _ pd fn tm nt ps a b d) => .one ⟨f.goK (match pd with | some c => .it (.code c) :: k | none => k) :: rest, S.h.put l (some (.loop .exhausted pd fn tm nt ps a b d)), S.nx⟩
    | _ => .fail
  | _ => .fail

def aUnwind (P : Program) (G : Nat) (S : AS) (f : AF) (rest : List AF) : ARes :=
  match f.dfr with
  | ⟨.coll r, []⟩ :: ds => match S.h.at r with
    | some (.dfr (some calls)) => .one ⟨f.goD (calls ++ ds) :: rest, S.h.put r (some (.dfr none)), S.nx⟩
    | _ => .fail
  | ⟨.fn g cap, args⟩ :: ds => match aEnter P g (args ++ cap) .deferred with
    | some a => .one (S.goF (a :: f.goD ds :: rest))
    | none => .fail
  | [] => match P.funcs[f.fn]? with
    | some fn => match f.mode, rest with
      | .pan chain, c :: r => match c.mode with
        | .pan old => .one (S.goF (c.goM (.pan (chain ++ old)) :: r))
        | _ => .one (S.goF (c.goM (.pan chain) :: r))
      | .ret, _ :: _ => match aResults P G S.h fn f.tm with
        | some v => match aReturn f rest v with
          | some fs => .one (S.goF fs)
          | none => .fail
        | none => .fail
      | _, _ => .fail
    | none => .fail
  | _ => .fail

def astep (P : Program) (G : Nat) (S : AS) : ARes :=
  match S.fs with
  | [] => .fail
  | f :: rest => match f.mode with
    | .run => aExec P G S f rest
    | _ => aUnwind P G S f rest
end
end Go.Xm
namespace Go.Xm
noncomputable section

def Good (P : Program) (G : Nat) (K : Kp) (cs : List Frame) (e : Env) (M : Machine) : ARes → Prop
  | .one S => ∃ e' M', e.le e' ∧ step P M = .next M' ∧ SR P G K cs e' S M'
  | .many L => ∃ S ∈ L, ∃ e' M', e.le e' ∧ step P M = .next M' ∧ SR P G K cs e' S M'
  | .fail => False

section
variable {P : Program} {G : Nat} {K : Kp} {e : Env} {cs : List Frame}

/-- the machine goes on as the goroutine does -/
theorem good_one {f f' : Frame} {fs fs' : List Frame} {w w' : World} {e' : Env} {S : AS} (hle : e.le e')
    (hs : (stepG P true { frame := f, callers := fs ++ cs, status := .running, dying := none } w).bare = .go { frame := f', callers := fs' ++ cs, status := .running, dying := none } w')
    (hF : FRs e' S.fs (f' :: fs')) (hH : HR P G K e' S.h S.nx w') (hG : G ≤ S.nx) : Good P G K cs e (lone f (fs ++ cs) w) (.one S) :=
  ⟨e', _, hle, step_lone_go hs, f', fs', w', rfl, hF, hH, hG⟩

/-! ### the code's own steps -/
variable {w : World} {h : Hp} {nx : Nat}

theorem good_to {f : AF} {fr : Frame} {rest : List AF} {fs : List Frame} {k : List AI} {k' : List Item} (hf : FR e f fr) (hr : FRs e rest fs) (H : HR P G K e h nx w) (hG : G ≤ nx) (hk : IRs e k k')
    (hs : (stepG P true { frame := fr, callers := fs ++ cs, status := .running, dying := none } w).bare = .go { frame := { fr with todo := k' }, callers := fs ++ cs, status := .running, dying := none } w) :
    Good P G K cs e (lone fr (fs ++ cs) w) (.one ⟨{ f with todo := k } :: rest, h, nx⟩) :=
  good_one e.le_refl hs (.cons ⟨hf.fn, hf.tm, .inr hk, hf.dfr, hf.mode, hf.kind, hf.rnd⟩ hr) H hG

theorem aReturn_ok {a : AF} {f : Frame} {rest fs' : List AF} {fs : List Frame} {v v' : Value} (h : aReturn a rest v = some fs') (hf : FR e a f) (hr : FRs e rest fs) (hv : VR e v v') (w : World) :
    ∃ g gs, doReturn P true f (fs ++ cs) none v' w = .go { frame := g, callers := gs ++ cs, status := .running, dying := none } w ∧ FRs e fs' (g :: gs) := by
  unfold aReturn at h
  split at h
  · cases h
  · rename_i c r
    cases hr with
    | @cons _ cf _ rf hc hrs =>
      have hk := hf.kind
      split at h
      · rename_i hkind
        rw [hkind] at hk
        split at h
        · rename_i c2 hc2
          cases h
          exact ⟨cf.finish v', rf, by simp [doReturn, hk], .cons (aFinish_ok hc2 hc hv) hrs⟩
        · cases h
      · rename_i hkind
        rw [hkind] at hk
        have hm := hc.mode
        split at h
        · rename_i u old hcm
          cases h
          rw [hcm] at hm
          generalize hcm' : cf.mode = m' at hm
          cases hm with
          | pan hch =>
            cases hch with
            | cons h1 h2 =>
              have hdrop : ∀ {l : List (Value × Bool)} {l' : List PanicEntry}, CR e l l' → l'.dropWhile (fun x => !x.goexit) = [] := by
                intro l
                induction l with
                | nil => intro l' hl; cases hl; rfl
                | cons x l ih => intro l' hl; cases hl with | cons a b => simpa [List.dropWhile] using ih b
              refine ⟨{ cf with mode := .returning }, rf, ?_, .cons ⟨hc.fn, hc.tm, hc.todo.imp (fun h0 => ⟨(fun h1 => by cases h1), h0.2⟩) id, hc.dfr, .ret, hc.kind, hc.rnd⟩ hrs⟩
              simp [doReturn, hk, hcm', hdrop h2]
        · rename_i hnot
          cases h
          refine ⟨cf, rf, ?_, .cons hc hrs⟩
          generalize hcm' : cf.mode = m' at hm
          generalize hcm : c.mode = mm at hm hnot
          cases hm with
          | run => simp [doReturn, hk, hcm']
          | ret => simp [doReturn, hk, hcm']
          | pan hch =>
            cases hch with
            | nil => simp [doReturn, hk, hcm']
            | @cons v v'' r l l' h1 h2 =>
              cases r with
              | true => exact absurd rfl (hnot v l)
              | false => simp [doReturn, hk, hcm']
      · cases h
end
end
end Go.Xm
namespace Go.Xm
noncomputable section
section
variable {P : Program} {G : Nat} {K : Kp} {e : Env} {cs : List Frame} {w : World} {h : Hp} {nx : Nat}

theorem run_getLoop {l : Nat} {r : Loop} (ho : w.heap[l]? = some (.loop r)) : (Instr.getLoop l).run P w = .ok r w := by
  simp [Instr.getLoop, run_getObj ho (by simp)]

theorem aLeave_ok {f : AF} {fr : Frame} {rest : List AF} {fs : List Frame} {S : AS} {jump : Option Code} (hf : FR e f fr) (hr : FRs e rest fs) (H : HR P G K e S.h S.nx w) (hG : G ≤ S.nx)
    (h0 : fr.roundOf = none → (jump = none ∨ jump = some .ret) → (stepG P true { frame := fr, callers := fs ++ cs, status := .running, dying := none } w).bare = .go { frame := { fr with mode := .returning }, callers := fs ++ cs, status := .running, dying := none } w)
    (h1 : ∀ l v w', fr.roundOf = some l → (Instr.endRound l jump).run P w = .ok v w' → (stepG P true { frame := fr, callers := fs ++ cs, status := .running, dying := none } w).bare = (doReturn P true fr (fs ++ cs) none v w').bare)
    (hne : aLeave S f rest jump ≠ .fail) : Good P G K cs e (lone fr (fs ++ cs) w) (aLeave S f rest jump) := by
  have hrnd := hf.rnd
  unfold aLeave at hne ⊢
  generalize hfr : f.rnd = fo at hne hrnd ⊢
  generalize hgr : fr.roundOf = go at hrnd
  cases hrnd with
  | none =>
    have fin : (jump = none ∨ jump = some .ret) → Good P G K cs e (lone fr (fs ++ cs) w) (.one (S.goF (f.goM .ret :: rest))) := fun hj =>
      good_one e.le_refl (h0 hgr hj) (.cons ⟨hf.fn, hf.tm, hf.todo.imp (fun h0 => ⟨(fun h1 => by cases h1), h0.2⟩) id, hf.dfr, .ret, hf.kind, by show RR e f.rnd fr.roundOf; rw [hgr, hfr]; exact .none⟩ hr) H hG
    dsimp only at hne ⊢
    split at hne
    · exact fin (.inl rfl)
    · exact fin (.inr rfl)
    · exact absurd rfl hne
  | @some l l' s x hl =>
    dsimp only at hne ⊢
    cases hat : S.h.at l with
    | none => rw [hat] at hne; exact absurd rfl hne
    | some o =>
      rw [hat] at hne
      cases o with
      | loop st pd fn tm nt ps a b d =>
        dsimp only at hne ⊢
        cases hret : aReturn f rest (.bool jump.isNone) with
        | none => rw [hret] at hne; exact absurd rfl hne
        | some fs' =>
          dsimp only
          obtain ⟨ob, ho, hR⟩ := H.obj hat hl
          cases hR with
          | @loop _ _ _ _ _ d' _ sd yd _ tmps _ _ _ ht hd =>
            have hrun : (Instr.endRound l' jump).run P w = .ok (.bool jump.isNone) { w with heap := w.heap.setIfInBounds l' (.loop { state := if jump.isNone then .ready else .done, pending := jump, fn := fn, tmps := tmps, params := ps.toArray, assign := a, body := b, defers := d' }) } := by
              simp only [Instr.endRound, Sem.run_bind, run_getLoop ho, Result.andThen_ok, run_setObj ho (by simp), Sem.run_pure]
            have hH := set_obj H hat rfl hl ho (.loop (P := P) (x := x) (st := if jump.isNone then .ready else .done) (pd := jump) (fn := fn) (ps := ps) (a := a) (b := b) ht hd)
            obtain ⟨g, gs, hg, hF⟩ := aReturn_ok (P := P) (cs := cs) hret hf hr (.bool jump.isNone) { w with heap := w.heap.setIfInBounds l' (.loop { state := if jump.isNone then .ready else .done, pending := jump, fn := fn, tmps := tmps, params := ps.toArray, assign := a, body := b, defers := d' }) }
            refine good_one (w' := { w with heap := w.heap.setIfInBounds l' (.loop { state := if jump.isNone then .ready else .done, pending := jump, fn := fn, tmps := tmps, params := ps.toArray, assign := a, body := b, defers := d' }) }) e.le_refl ?_ hF hH hG
            rw [h1 l' _ _ hgr hrun, hg]
            rfl
      | _ => exact absurd rfl hne

theorem aRound_ok {l l' s x : Nat} {a : AF} {args : List Value} {args' : Array Value} (H : HR P G K e h nx w) (hl : e l = some (l', s, x)) (hr : aRound h l args = some a) (ha : VRs e args args'.toList) :
    ∃ fn tmps asg body, (Instr.yield l' args').run P w = .ok (.round l' fn tmps asg body) w ∧ FR e a (Frame.round l' fn tmps asg body .normal) := by
  unfold aRound at hr
  split at hr
  · rename_i st pd fn tm nt ps asg b d hat
    split at hr
    · rename_i tm2 htm
      cases hr
      obtain ⟨ob, ho, hR⟩ := H.obj hat hl
      cases hR with
      | @loop _ _ _ _ _ d' _ sd yd _ tmps _ _ _ ht hd =>
        have key : ∀ {ps : List Tmp} {args : List Value} {args' : List Value} {tm tm2 : Tr Value} {tmps : Array Value}, setAll nt ps args tm = some tm2 → VRs e args args' → TR e tm nt tmps →
            ps.length = args'.length ∧ TR e tm2 nt ((ps.zip args').foldl (fun (tmps : Array Value) (x : Tmp × Value) => tmps.setIfInBounds x.1 x.2) tmps) := by
          intro ps
          induction ps with
          | nil =>
            intro args args' tm tm2 tmps hs hv ht
            cases hv with
            | nil => cases hs; exact ⟨rfl, ht⟩
            | cons _ _ => cases hs
          | cons p ps ih =>
            intro args args' tm tm2 tmps hs hv ht
            cases hv with
            | nil => cases hs
            | cons hv hvs =>
              simp only [setAll] at hs
              split at hs
              · rename_i tm3 h3
                obtain ⟨h4, h5⟩ := ih hs hvs (setTm_ok h3 ht hv)
                exact ⟨by simp [h4], by simpa using h5⟩
              · cases hs
        obtain ⟨hlen, hT⟩ := key htm ha ht
        refine ⟨fn, (ps.zip args'.toList).foldl (fun (tmps : Array Value) (x : Tmp × Value) => tmps.setIfInBounds x.1 x.2) tmps, asg, b, ?_, ⟨rfl, hT, .inr (.cons (.it _) (.cons (.it _) (.cons (.it _) .nil))), .nil, .run, rfl, .some hl⟩⟩
        have hsz : args'.size = ps.length := by rw [← Array.length_toList, hlen]
        simp only [Instr.yield, Sem.run_bind, run_getLoop ho, Result.andThen_ok, List.size_toArray, hsz, ne_eq, not_true_eq_false, if_false, Sem.run_pure]
        congr 2
        rw [← Array.foldl_toList]
        simp
    · cases hr
  · cases hr
end
end
end Go.Xm
namespace Go.Xm
noncomputable section
section
variable {P : Program} {G : Nat} {K : Kp} {e : Env} {cs : List Frame} {w : World} {h : Hp} {nx : Nat}

theorem aApply_ok {f : AF} {fr : Frame} {rest : List AF} {fs : List Frame} {s : Sem Next} {out : AOut} (hf : FR e f fr) (hr : FRs e rest fs) (H : HR P G K e h nx w) (hG : G ≤ nx)
    (hout : OKO P G K e h nx w out (s.run P w)) (hm : fr.mode = .run) (htd : ∀ d b r v k, fr.todo ≠ .call d b r v :: k)
    (hs : stepG P true { frame := fr, callers := fs ++ cs, status := .running, dying := none } w = stepG.apply P true fr (fs ++ cs) none s w)
    (hne : aApply P f rest out h nx ≠ .fail) : Good P G K cs e (lone fr (fs ++ cs) w) (aApply P f rest out h nx) := by
  have hkind : (match fr.todo with | .call _ true _ _ :: _ => CallKind.wrapped | _ => CallKind.normal) = CallKind.normal := by
    split
    · rename_i htt; exact absurd htt (htd _ _ _ _ _)
    · rfl
  generalize hrun : s.run P w = r at hout
  cases hout with
  | @val v h' nx' v' w' e' hle hv hH hG' =>
    simp only [aApply] at hne ⊢
    cases hfin : aFinish f v with
    | none => rw [hfin] at hne; exact absurd rfl hne
    | some f2 =>
      refine good_one hle ?_ (.cons (aFinish_ok hfin (hf.mono hle) hv) (hr.mono hle)) hH hG'
      rw [hs]; simp [stepG.apply, hrun]
  | @skip v h' nx' w' e' hle hv hH hG' =>
    simp only [aApply] at hne ⊢
    cases hfin : aFinish f v with
    | none => rw [hfin] at hne; exact absurd rfl hne
    | some f2 =>
      refine good_one hle ?_ (.cons (aFinish_ok hfin (hf.mono hle) hv) (hr.mono hle)) hH hG'
      rw [hs]; simp [stepG.apply, hrun]
  | @enter g args args' ha hb =>
    simp only [aApply] at hne ⊢
    cases hent : aEnter P g args .normal with
    | none => rw [hent] at hne; exact absurd rfl hne
    | some a =>
      refine good_one (fs' := fr :: fs) e.le_refl ?_ (.cons (aEnter_ok hent ha) (.cons hf hr)) H hG
      rw [hs]; simp only [stepG.apply, Sem.runT_eq, hrun, GStep.bare_after, if_true]
      exact congrArg (fun k => GStep.go { frame := Frame.enter P g args' k, callers := fr :: (fs ++ cs), status := .running, dying := none } w) hkind
  | @round l l' sx x args args' hl ha =>
    simp only [aApply] at hne ⊢
    cases hent : aRound h l args with
    | none => rw [hent] at hne; exact absurd rfl hne
    | some a =>
      obtain ⟨fn, tmps, asg, body, h1, h2⟩ := aRound_ok (w := w) H hl hent ha
      refine good_one (fs' := fr :: fs) e.le_refl ?_ (.cons h2 (.cons hf hr)) H hG
      rw [hs]; simp [stepG.apply, hrun, h1]
  | @dfr d d' hd =>
    simp only [aApply] at hne ⊢
    have hrnd := hf.rnd
    generalize hfo : f.rnd = fo at hne hrnd ⊢
    cases fo with
    | some l => exact absurd rfl hne
    | none =>
      simp only at hne ⊢
      cases hfin : aFinish (f.goD (d :: f.dfr)) (.tuple #[]) with
      | none => rw [hfin] at hne; exact absurd rfl hne
      | some f2 =>
        simp only []
        refine good_one (f' := ({ fr with defers := d' :: fr.defers } : Frame).finish undef) e.le_refl ?_ (.cons (aFinish_ok (f := { fr with defers := d' :: fr.defers }) hfin ⟨hf.fn, hf.tm, hf.todo, .cons hd hf.dfr, hf.mode, hf.kind, hf.rnd⟩ (.tuple .nil)) hr) H hG
        rw [hs]; simp [stepG.apply, hrun]
  | recov =>
    simp only [aApply] at hne ⊢
    have hrnd := hf.rnd
    have hk := hf.kind
    generalize hfo : f.rnd = fo at hne hrnd ⊢
    generalize hfk : f.kind = fk at hne hk ⊢
    split at hne
    · generalize hgr : fr.roundOf = go at hrnd
      cases hrnd
      cases hfin : aFinish f .nilIface with
      | none => rw [hfin] at hne; exact absurd rfl hne
      | some f2 =>
        simp only
        refine good_one (f' := fr.finish .nilIface) e.le_refl ?_ (.cons (aFinish_ok hfin hf .nilIface) hr) H hG
        rw [hs]; simp [stepG.apply, hrun, hgr, tryRecover, hk]
    · rename_i c r
      generalize hgr : fr.roundOf = go at hrnd
      cases hrnd
      cases hr with
      | @cons _ cf _ rf hc hrs =>
        have hcm := hc.mode
        generalize hcmm : c.mode = cm at hne hcm ⊢
        generalize hcfm : cf.mode = cfm at hcm
        have nofin : ∀ (hno : ∀ v older, cfm ≠ .panicking ({ v, recovered := false, goexit := false } :: older)), (match aFinish f .nilIface with | some f2 => ARes.one ⟨f2 :: c :: r, h, nx⟩ | none => .fail) ≠ .fail →
            Good P G K cs e (lone fr (cf :: rf ++ cs) w) (match aFinish f .nilIface with | some f2 => .one ⟨f2 :: c :: r, h, nx⟩ | none => .fail) := by
          intro hno hne
          cases hfin : aFinish f .nilIface with
          | none => rw [hfin] at hne; exact absurd rfl hne
          | some f2 =>
            refine good_one (f' := fr.finish .nilIface) (fs' := cf :: rf) e.le_refl ?_ (.cons (aFinish_ok hfin hf .nilIface) (.cons hc hrs)) H hG
            have htr : tryRecover fr (cf :: (rf ++ cs)) = none := by
              unfold tryRecover
              rw [hk]
              simp only [hcfm]
            rw [hs]; simp [stepG.apply, hrun, hgr, htr]
        split at hne
        · rename_i v older
          cases hcm with
          | pan hch =>
            cases hch with
            | @cons _ v' _ _ older' hv ho =>
              cases hfin : aFinish f v with
              | none => rw [hfin] at hne; exact absurd rfl hne
              | some f2 =>
                simp only
                refine good_one (f' := fr.finish v') (fs' := { cf with mode := .panicking ({ v := v', recovered := true } :: older') } :: rf) e.le_refl ?_ (.cons (aFinish_ok hfin hf hv) (.cons ⟨hc.fn, hc.tm, hc.todo.imp (fun h0 => ⟨(fun h1 => by cases h1), h0.2⟩) id, hc.dfr, .pan (.cons hv ho), hc.kind, hc.rnd⟩ hrs)) H hG
                have htr : tryRecover fr (cf :: (rf ++ cs)) = some (v', { cf with mode := .panicking ({ v := v', recovered := true } :: older') } :: (rf ++ cs)) := by
                  unfold tryRecover
                  rw [hk]
                  simp only [hcfm]
                rw [hs]; simp [stepG.apply, hrun, hgr, htr]
        · rename_i hnot
          refine nofin ?_ hne
          intro v older hE
          subst hE
          cases hcm with
          | pan hch =>
            cases hch with
            | cons hv ho => exact hnot _ _ rfl
    · exact absurd rfl hne
  | @panic v v' hv =>
    simp only [aApply] at hne ⊢
    refine good_one (f' := fr.raise [{ v := v', recovered := false }]) e.le_refl ?_ (.cons ?_ hr) H hG
    · rw [hs]; simp [stepG.apply, hrun]
    · have : fr.raise [{ v := v', recovered := false }] = { fr with mode := .panicking [{ v := v', recovered := false }] } := by simp [Frame.raise, hm]
      rw [this]
      exact ⟨hf.fn, hf.tm, hf.todo.imp (fun h0 => ⟨(fun h1 => by cases h1), h0.2⟩) id, hf.dfr, .pan (.cons hv .nil), hf.kind, hf.rnd⟩
  | @alts l o v' w' ho hv hH =>
    simp only [aApply] at hne ⊢
    cases hL : finAll f rest nx l with
    | none => rw [hL] at hne; exact absurd rfl hne
    | some L =>
      obtain ⟨f2, h1, h2⟩ := finAll_ok hL o ho
      refine ⟨_, h2, e, _, e.le_refl, step_lone_go (fr' := fr.finish v') (cs' := fs ++ cs) (w' := w') ?_, fr.finish v', fs, w', rfl, .cons (aFinish_ok h1 hf hv) hr, hH, hG⟩
      rw [hs]; simp [stepG.apply, hrun]
end
end
end Go.Xm
namespace Go.Xm
noncomputable section
section
variable {P : Program} {G : Nat} {K : Kp} {e : Env} {cs : List Frame} {w : World}

theorem wanted_ok {e : Env} {o : Oper} {ops : Array Oper} {tm : Tr Value} {nt : Nat} {tmps : Array Value} {b : Bool} (h : aWanted o ops.toList tm = some b) (ht : TR e tm nt tmps) : Region.wanted o (yielded ops tmps) = b := by
  unfold aWanted at h
  unfold Region.wanted
  cases hg : o.guard with
  | none => rw [hg] at h; cases h; rfl
  | some g =>
    obtain ⟨j, want⟩ := g
    rw [hg] at h
    simp only at h ⊢
    unfold yielded
    rw [Array.getElem?_toList] at h
    cases hj : ops[j]? with
    | none => rw [hj] at h; cases h; rfl
    | some q =>
      rw [hj] at h
      simp only [Option.bind_some] at h ⊢
      cases hd : q.dst with
      | none => rw [hd] at h; cases h; rfl
      | some d =>
        rw [hd] at h
        simp only [Option.bind_some] at h ⊢
        cases hv : tm.get 12 d with
        | none => rw [hv] at h; cases h
        | some v =>
          rw [hv] at h
          obtain ⟨v', h1, h2⟩ := ht.2 d v hv
          rw [h1]
          cases h2 <;> first | (cases h; done) | (cases h; rfl) | skip
          all_goals (simp only [Option.some.injEq] at h; subst h; rfl)

theorem aEnter_bodied {q : FuncId} {args : List Value} {kd : CallKind} {a : AF} (h : aEnter P q args kd = some a) : bodied P q = true := by
  unfold aEnter at h
  unfold bodied
  split at h
  · rename_i fn hf
    split at h
    · rename_i c hc
      first | (rw [hf]; simp [hc]) | simp [hc]
    · cases h
  · cases h
theorem aExec_ok (hN : NamesOk P) {S : AS} {f : AF} {fr : Frame} {rest : List AF} {fs : List Frame} (hf : FR e f fr) (hr : FRs e rest fs) (H : HR P G K e S.h S.nx w) (hG : G ≤ S.nx) (hm : f.mode = .run)
    (hne : aExec P G S f rest ≠ .fail) : Good P G K cs e (lone fr (fs ++ cs) w) (aExec P G S f rest) := by
  obtain ⟨fn, tmps, todo, defers, mode, kind, rnd⟩ := fr
  have hmode := hf.mode
  rw [hm] at hmode
  cases hmode
  have htodo := hf.todo.resolve_left (fun h0 => h0.1 hm)
  have to : ∀ (k : List AI) (k' : List Item), IRs e k k' →
      (stepG P true { frame := ⟨fn, tmps, todo, defers, .run, kind, rnd⟩, callers := fs ++ cs, status := .running, dying := none } w).bare = .go { frame := ⟨fn, tmps, k', defers, .run, kind, rnd⟩, callers := fs ++ cs, status := .running, dying := none } w →
      Good P G K cs e (lone ⟨fn, tmps, todo, defers, .run, kind, rnd⟩ (fs ++ cs) w) (.one { S with fs := { f with todo := k } :: rest }) := fun k k' hk hs => good_to hf hr H hG hk hs
  have hrd := fun x => TR.rdx H (f := ⟨fn, tmps, todo, defers, .run, kind, rnd⟩) hf.tm x
  unfold aExec at hne ⊢
  dsimp only at hne htodo ⊢
  generalize hft : f.todo = ft at hne htodo ⊢
  cases htodo with
  | nil =>
    refine aLeave_ok hf hr H hG ?_ ?_ hne
    · intro h0 _; simp only at h0; subst h0; simp [stepG, stepG.exec]
    · intro l v w' h0 hrun; simp only at h0; subst h0; simp [stepG, stepG.exec, hrun]
  | @cons a i k k' hi hk =>
    cases hi with
    | inRF hl => exact absurd rfl hne
    | @endRF l l' s x hl =>
      dsimp only at hne ⊢
      cases hat : S.h.at l with
      | none => rw [hat] at hne; exact absurd rfl hne
      | some o =>
        rw [hat] at hne
        split at hne
        · exact absurd rfl hne
        · rename_i st pd fn1 tm nt ps a b d hnb heq
          cases heq
          obtain ⟨ob, ho, hR⟩ := H.obj hat hl
          cases hR with
          | @loop _ _ _ _ _ d' _ sd yd _ tmps1 _ _ _ ht hd =>
            have hst : st ≠ .busy := fun h => hnb (by rw [h])
            have hH := set_obj H hat rfl hl ho (.loop (P := P) (x := x) (st := .exhausted) (pd := pd) (fn := fn1) (ps := ps) (a := a) (b := b) ht hd)
            have hrun : (Instr.endLoop l').run P w = .ok pd { w with heap := w.heap.setIfInBounds l' (.loop { state := .exhausted, pending := pd, fn := fn1, tmps := tmps1, params := ps.toArray, assign := a, body := b, defers := d' }) } := by
              have hb : (st == LoopState.busy) = false := by cases st <;> first | rfl | exact absurd rfl hst
              simp only [Instr.endLoop, Sem.run_bind, run_getLoop ho, Result.andThen_ok, hb, Bool.false_eq_true, if_false, Sem.run_pure, run_setObj ho (by simp)]
            refine good_one (f' := ⟨fn, tmps, (pd.map Item.code).toList ++ k', defers, .run, kind, rnd⟩) (w' := { w with heap := w.heap.setIfInBounds l' (.loop { state := .exhausted, pending := pd, fn := fn1, tmps := tmps1, params := ps.toArray, assign := a, body := b, defers := d' }) })
              e.le_refl ?_ (.cons ⟨hf.fn, hf.tm, ?_, hf.dfr, hm ▸ .run, hf.kind, hf.rnd⟩ hr) hH hG
            · simp [stepG, stepG.exec, hrun]
            · cases pd with
              | none => exact .inr hk
              | some c => exact .inr (.cons (.it _) hk)
        · exact absurd rfl hne
    | it i =>
      cases i with
      | inBlock id => exact to k k' hk (by simp [stepG, stepG.exec])
      | inScope b => exact to k k' hk (by simp [stepG, stepG.exec])
      | inLoop b => exact to _ _ (.cons (.it _) (.cons (.it _) hk)) (by simp [stepG, stepG.exec])
      | inRegion ops td =>
        cases td with
        | nil => exact to k k' hk (by simp [stepG, stepG.exec])
        | cons i r =>
          dsimp only at hne ⊢
          cases ho : ops.toList[i]? with
          | none => rw [ho] at hne; exact absurd rfl hne
          | some o =>
            rw [ho] at hne
            rw [Array.getElem?_toList] at ho
            dsimp only at hne ⊢
            cases hw : aWanted o ops.toList f.tm with
            | none => rw [hw] at hne; exact absurd rfl hne
            | some b =>
              rw [hw] at hne
              have hwc := wanted_ok hw hf.tm
              cases b with
              | false =>
                dsimp only at hne ⊢
                cases hfin : aFinish f (.tuple #[]) with
                | none => rw [hfin] at hne; exact absurd rfl hne
                | some f2 =>
                  dsimp only
                  refine good_one (f' := (⟨fn, tmps, .inRegion ops (i :: r) :: k', defers, .run, kind, rnd⟩ : Frame).finish undef) e.le_refl ?_ (.cons (aFinish_ok hfin hf (.tuple .nil)) hr) H hG
                  simp only at hwc
                  simp [stepG, stepG.exec, ho, hwc]
              | true =>
                dsimp only at hne ⊢
                cases hdd : (isDefer o.op && f.rnd.isSome) with
                | true => rw [hdd] at hne; exact absurd rfl hne
                | false =>
                  rw [hdd] at hne
                  simp only [cond_false] at hne ⊢
                  have hne2 : aop P (rd G f.tm) o.op S.h S.nx ≠ .fail := by
                    intro h; rw [h] at hne; exact hne rfl
                  have hok := aop_ok (w := w) hN H hG hrd (o := o) hne2
                  refine aApply_ok (s := execOp (Frame.eval ⟨fn, tmps, .inRegion ops (i :: r) :: k', defers, .run, kind, rnd⟩) o) hf hr H hG hok rfl (by intro d b r v k h; cases h) ?_ hne
                  simp only at hwc
                  have hnd : ∀ l c, rnd = some l → o.op ≠ .defer c := by
                    intro l c h1 h2
                    have hrr := hf.rnd
                    simp only [h1] at hrr
                    have : f.rnd.isSome = true := by generalize f.rnd = q at hrr; cases hrr; rfl
                    rw [this, h2] at hdd
                    simp [isDefer] at hdd
                  cases rnd with
                  | none => simp only [stepG, stepG.exec, ho, hwc, Option.map_some, Option.getD_some, if_true, stepG.oper, Frame.oper?]
                  | some l =>
                    have hnd' := hnd l
                    simp only [stepG, stepG.exec, ho, hwc, Option.map_some, Option.getD_some, if_true, stepG.oper, Frame.oper?]
      | beginRound =>
        dsimp only at hne ⊢
        have hrnd := hf.rnd
        dsimp only at hrnd
        generalize hfo : f.rnd = fo at hne hrnd ⊢
        cases hrnd with
        | none => exact absurd rfl hne
        | @some l l' s x hl =>
          dsimp only at hne ⊢
          cases hat : S.h.at l with
          | none => rw [hat] at hne; exact absurd rfl hne
          | some o =>
            rw [hat] at hne
            split at hne
            · rename_i pd fn1 tm nt ps a b d heq
              cases heq
              obtain ⟨ob, ho, hR⟩ := H.obj hat hl
              cases hR with
              | @loop _ _ _ _ _ d' _ sd yd _ tmps1 _ _ _ ht hd =>
                have hH := set_obj H hat rfl hl ho (.loop (P := P) (x := x) (st := .busy) (pd := pd) (fn := fn1) (ps := ps) (a := a) (b := b) ht hd)
                have hrun : (Instr.beginRound l').run P w = .ok () { w with heap := w.heap.setIfInBounds l' (.loop { state := .busy, pending := pd, fn := fn1, tmps := tmps1, params := ps.toArray, assign := a, body := b, defers := d' }) } := by
                  simp only [Instr.beginRound, Sem.run_bind, run_getLoop ho, Result.andThen_ok, run_setObj ho (by simp), Sem.run_pure]
                refine good_one (f' := ⟨fn, tmps, k', defers, .run, kind, some l'⟩) (w' := { w with heap := w.heap.setIfInBounds l' (.loop { state := .busy, pending := pd, fn := fn1, tmps := tmps1, params := ps.toArray, assign := a, body := b, defers := d' }) })
                  e.le_refl ?_ (.cons ⟨hf.fn, hf.tm, .inr hk, hf.dfr, hm ▸ .run, hf.kind, (by show RR e f.rnd _; rw [hfo]; exact .some hl)⟩ hr) hH hG
                simp [stepG, stepG.exec, stepG.apply, hrun, Frame.finish]
            · exact absurd rfl hne
      | code c =>
        cases c with
        | ret =>
          refine aLeave_ok hf hr H hG ?_ ?_ hne
          · intro h0 _; simp only at h0; subst h0; simp [stepG, stepG.exec]
          · intro l v w' h0 hrun; simp only at h0; subst h0; simp [stepG, stepG.exec, hrun]
        | skip => exact to k k' hk (by simp [stepG, stepG.exec])
        | label l => exact to k k' hk (by simp [stepG, stepG.exec])
        | seq a b => exact to _ _ (.cons (.it _) (.cons (.it _) hk)) (by simp [stepG, stepG.exec])
        | cond c a b =>
          dsimp only at hne ⊢
          have hc := hrd c
          generalize rd G f.tm c = cv at hne hc ⊢
          generalize hce : Frame.eval _ c = cv' at hc
          split at hne
          · cases hc
            exact to _ _ (.cons (.it _) hk) (by simp only [stepG, stepG.exec, hce]; simp)
          · cases hc
            exact to _ _ (.cons (.it _) hk) (by simp only [stepG, stepG.exec, hce]; simp)
          · exact absurd rfl hne
        | block id b => exact to _ _ (.cons (.it _) (.cons (.it _) hk)) (by simp [stepG, stepG.exec])
        | loop b => exact to _ _ (.cons (.it _) (.cons (.it _) hk)) (by simp [stepG, stepG.exec])
        | scope b => exact to _ _ (.cons (.it _) (.cons (.it _) hk)) (by simp [stepG, stepG.exec])
        | exit id =>
          dsimp only at hne ⊢
          obtain ⟨p1, p2⟩ := popTo_ok (id := id) hk
          cases hp : popTo id k with
          | some k2 =>
            obtain ⟨k2', h1, h2⟩ := p1 k2 hp
            exact to _ _ h2 (by simp [stepG, stepG.exec, h1])
          | none =>
            rw [hp] at hne
            have hx := p2 hp
            refine aLeave_ok hf hr H hG ?_ ?_ hne
            · intro _ hj; rcases hj with hj | hj <;> cases hj
            · intro l v w' h0 hrun; simp only at h0; subst h0; simp [stepG, stepG.exec, hx, hrun]
        | region id ops draw =>
          cases draw with
          | true => exact absurd rfl hne
          | false => exact to _ _ (.cons (.it _) hk) (by simp [stepG, stepG.exec])
        | rangeFunc g ps a b =>
          dsimp only at hne ⊢
          have hrnd := hf.rnd
          have hfn := hf.fn
          have hg := hrd g
          dsimp only at hrnd hfn
          generalize hfo : f.rnd = fo at hne hrnd ⊢
          generalize rd G f.tm g = gv at hne hg ⊢
          generalize hge : Frame.eval _ g = gv' at hg
          split at hne
          · rename_i q first cap
            cases hrnd
            cases hg with
            | @func _ _ first' _ cap' hv1 hv2 =>
              cases hen : aEnter P q (first.toList ++ [.func (.yield (Nat.add S.nx 1)) #[] #[]] ++ cap.toList) .normal with
              | none => rw [hen] at hne; exact absurd rfl hne
              | some fr2 =>
                dsimp only
                have hq : bodied P q = true := aEnter_bodied hen
                obtain ⟨H1, le1⟩ := H.alloc (o := .dfr (some [])) (ob := .deferred (some [])) (x := 0) (.dfr .nil) hG
                have hps : ps.toList.toArray = ps := by simp
                obtain ⟨H2, le2⟩ := H1.alloc (o := .loop .ready none f.fn f.tm f.nt ps.toList a b S.nx) (ob := .loop { state := .ready, pending := none, fn := fn, tmps := tmps, params := ps, assign := a, body := b, defers := w.heap.size }) (x := 0)
                  (by
                    have := OR.loop (P := P) (x := 0) (st := .ready) (pd := none) (fn := fn) (ps := ps.toList) (a := a) (b := b) (hf.tm.mono le1) (Env.set_same e S.nx (w.heap.size, 0, 0))
                    rw [hps] at this
                    rw [← hfn]; exact this) (Nat.le_succ_of_le hG)
                have le := Env.le_trans le1 le2
                have hyv : VR _ (.func (.yield (S.nx + 1)) #[] #[]) (.func (.yield (w.heap.push (.deferred (some []))).size) #[] #[]) := .yield (Env.set_same (e.set S.nx (w.heap.size, 0, 0)) (S.nx + 1) ((w.heap.push (.deferred (some []))).size, 0, 0))
                have hsz : (w.heap.push (.deferred (some []))).size = w.heap.size + 1 := by simp
                have hargs := ((hv1.mono le).append (.cons hyv .nil)).append (hv2.mono le)
                refine good_one (f' := Frame.enter P q (first' ++ #[.func (.yield (w.heap.size + 1)) #[] #[]] ++ cap') .normal) (fs' := ⟨fn, tmps, .inRangeFunc (w.heap.size + 1) :: k', ⟨.collected w.heap.size, #[]⟩ :: defers, .run, kind, none⟩ :: fs)
                  (w' := (w.alloc (.deferred (some []))).alloc (.loop { state := .ready, pending := none, fn := fn, tmps := tmps, params := ps, assign := a, body := b, defers := w.heap.size })) le ?_ (.cons (aEnter_ok hen ?_) (.cons ?_ (hr.mono le))) H2 (by show G ≤ S.nx + 2; omega)
                · have hrun : (Instr.enterLoop fn tmps ps a b none).run P w = .ok (w.heap.size + 1, [⟨.collected w.heap.size, #[]⟩]) ((w.alloc (.deferred (some []))).alloc (.loop { state := .ready, pending := none, fn := fn, tmps := tmps, params := ps, assign := a, body := b, defers := w.heap.size })) := by
                    simp [Instr.enterLoop]
                  have hge2 : ∀ td df, Frame.eval ⟨fn, tmps, td, df, .run, kind, none⟩ g = .func (.func q) first' cap' := fun td df => by rw [← hge]; cases g <;> rfl
                  simp only [stepG, stepG.exec, Sem.runT_eq, hrun, GStep.bare_after, stepG.apply, if_true, resolve, pure_bind, hge2, Deferred.ofValue, invoke, callFunc_ok hN hq]
                  simp [Frame.eval]
                · rw [hsz] at hargs
                  simpa using hargs
                · refine ⟨hf.fn, hf.tm.mono le, .inr (.cons (.inRF (s := 0) (x := 0) ?_) (hk.mono le)), .cons (.coll (s := 0) (x := 0) (le2 _ _ (Env.set_same _ _ _))) (hf.dfr.mono le), ?_, hf.kind, ?_⟩
                  · rw [← hsz]; exact Env.set_same _ _ _
                  · rw [hm]; exact .run
                  · show RR _ f.rnd _; rw [hfo]; exact .none
          · rename_i l0 q first cap
            cases hrnd with
            | @some _ l0' s0 x0 hl0 =>
              cases hg with
              | @func _ _ first' _ cap' hv1 hv2 =>
                cases hat : S.h.at l0 with
                | none => rw [hat] at hne; exact absurd rfl hne
                | some o =>
                  rw [hat] at hne
                  split at hne
                  · rename_i st0 pd0 fn0 tm0 nt0 ps0 a0 b0 d0 heq
                    cases heq
                    obtain ⟨ob, ho, hR⟩ := H.obj hat hl0
                    cases hR with
                    | @loop _ _ _ _ _ d' _ sd yd _ tmps0 _ _ _ ht0 hd0 =>
                      cases hen : aEnter P q (first.toList ++ [.func (.yield S.nx) #[] #[]] ++ cap.toList) .normal with
                      | none => rw [hen] at hne; exact absurd rfl hne
                      | some fr2 =>
                        dsimp only
                        have hq : bodied P q = true := aEnter_bodied hen
                        have hps : ps.toList.toArray = ps := by simp
                        obtain ⟨H2, le⟩ := H.alloc (o := .loop .ready none f.fn f.tm f.nt ps.toList a b d0) (ob := .loop { state := .ready, pending := none, fn := fn, tmps := tmps, params := ps, assign := a, body := b, defers := d' }) (x := 0)
                          (by
                            have := OR.loop (P := P) (x := 0) (st := .ready) (pd := none) (fn := fn) (ps := ps.toList) (a := a) (b := b) hf.tm hd0
                            rw [hps] at this
                            rw [← hfn]; exact this) hG
                        have hyv : VR _ (.func (.yield S.nx) #[] #[]) (.func (.yield w.heap.size) #[] #[]) := .yield (Env.set_same e S.nx (w.heap.size, 0, 0))
                        have hargs := ((hv1.mono le).append (.cons hyv .nil)).append (hv2.mono le)
                        refine good_one (f' := Frame.enter P q (first' ++ #[.func (.yield w.heap.size) #[] #[]] ++ cap') .normal) (fs' := ⟨fn, tmps, .inRangeFunc w.heap.size :: k', defers, .run, kind, some l0'⟩ :: fs)
                          (w' := w.alloc (.loop { state := .ready, pending := none, fn := fn, tmps := tmps, params := ps, assign := a, body := b, defers := d' })) le ?_ (.cons (aEnter_ok hen ?_) (.cons ?_ (hr.mono le))) H2 (by show G ≤ S.nx + 1; omega)
                        · have hrun : (Instr.enterLoop fn tmps ps a b (some l0')).run P w = .ok (w.heap.size, []) (w.alloc (.loop { state := .ready, pending := none, fn := fn, tmps := tmps, params := ps, assign := a, body := b, defers := d' })) := by
                            simp [Instr.enterLoop, run_getLoop ho]
                          have hge2 : ∀ td df, Frame.eval ⟨fn, tmps, td, df, .run, kind, some l0'⟩ g = .func (.func q) first' cap' := fun td df => by rw [← hge]; cases g <;> rfl
                          simp only [stepG, stepG.exec, Sem.runT_eq, hrun, GStep.bare_after, stepG.apply, if_true, resolve, pure_bind, hge2, Deferred.ofValue, invoke, callFunc_ok hN hq]
                          simp [Frame.eval]
                        · simpa using hargs
                        · refine ⟨hf.fn, hf.tm.mono le, .inr (.cons (.inRF (s := 0) (x := 0) (Env.set_same _ _ _)) (hk.mono le)), hf.dfr.mono le, ?_, hf.kind, ?_⟩
                          · rw [hm]; exact .run
                          · show RR _ f.rnd _; rw [hfo]; exact .some (le _ _ hl0)
                  · exact absurd rfl hne
          · exact absurd rfl hne
        | _ => exact absurd rfl hne
      | _ => exact absurd rfl hne

def resOf (tmps : Array Value) : ResultVar → Sem Value
  | .tmp t => pure (tmps.getD t undef)
  | .cell a t => do loadVar t (← asAddr (tmps.getD a undef))
theorem results_eq (fn : Func) (tmps : Array Value) : results fn tmps = (do let vs ← fn.results.mapM (resOf tmps); pure (if h : vs.size = 1 then vs[0] else .tuple vs) : Sem Value) := by
  unfold results
  have : (fun x : ResultVar => (match x with | .tmp t => pure (tmps.getD t undef) | .cell a t => do loadVar t (← asAddr (tmps.getD a undef)) : Sem Value)) = resOf tmps := by
    funext x; cases x <;> rfl
  rw [← this]
  rfl
theorem aResV_ok {h : Hp} {nx : Nat} (H : HR P G K e h nx w) {tm : Tr Value} {nt : Nat} {tmps : Array Value} (ht : TR e tm nt tmps) : ∀ {l : List ResultVar} {vs : List Value}, aResV P G h tm l = some vs →
    ∃ vs', (l.mapM (resOf tmps) : Sem (List Value)).run P w = .ok vs' w ∧ VRs e vs vs'
  | [], vs, h => by cases h; exact ⟨[], rfl, .nil⟩
  | .tmp t :: l, vs, h => by
    simp only [aResV] at h
    split at h
    · rename_i vs2 h2
      cases h
      obtain ⟨vs', r1, r2⟩ := aResV_ok H ht h2
      have hv := TR.rdx H (f := ⟨0, tmps, [], [], .run, .normal, none⟩) ht (.tmp t)
      refine ⟨_, ?_, .cons hv r2⟩
      rw [List.mapM_cons]
      simp only [resOf, Sem.run_bind, Sem.run_pure, Result.andThen_ok, r1]
      rfl
    · cases h
  | .cell a t :: l, vs, h => by
    simp only [aResV] at h
    split at h
    · rename_i v vs2 h1 h2
      cases h
      obtain ⟨vs', r1, r2⟩ := aResV_ok H ht h2
      have hv := TR.rdx H (f := ⟨0, tmps, [], [], .run, .normal, none⟩) ht (.tmp a)
      obtain ⟨v', q1, q2⟩ := aLoad_ok (w := w) H h1 hv
      refine ⟨v' :: vs', ?_, .cons q2 r2⟩
      have : (resOf tmps (.cell a t)).run P w = .ok v' w := by
        rw [← q1]
        simp only [Instr.loadAt, Frame.eval]
        generalize hp : tmps.getD a undef = p at hv q1
        simp only [Instr.loadAt, Frame.eval, hp] at q1
        cases p with
        | pointer a0 =>
          cases a0 with
          | none => simp [Instr.sureAddr] at q1
          | some a1 =>
            simp only [resOf]
            rw [hp]
            rfl
        | _ => simp [Instr.sureAddr] at q1
      rw [List.mapM_cons]
      simp only [Sem.run_bind, this, Result.andThen_ok, r1, Sem.run_pure]
    · cases h

theorem aResults_ok {h : Hp} {nx : Nat} (H : HR P G K e h nx w) {fn : Func} {tm : Tr Value} {nt : Nat} {tmps : Array Value} {v : Value} (ht : TR e tm nt tmps) (hr : aResults P G h fn tm = some v) :
    ∃ v', (results fn tmps).run P w = .ok v' w ∧ VR e v v' := by
  unfold aResults at hr
  have run : ∀ vs', (fn.results.toList.mapM (resOf tmps) : Sem (List Value)).run P w = .ok vs' w →
      (results fn tmps).run P w = .ok (if h : vs'.toArray.size = 1 then vs'.toArray[0] else .tuple vs'.toArray) w := by
    intro vs' h
    rw [results_eq, Array.mapM_eq_mapM_toList]
    simp only [Sem.run_bind, Sem.run_map, h, Result.andThen_ok, Sem.run_pure]
  split at hr
  · rename_i x hx
    cases hr
    obtain ⟨vs', r1, r2⟩ := aResV_ok (w := w) H ht hx
    cases r2 with
    | cons h1 h2 => cases h2; exact ⟨_, run _ r1, h1⟩
  · rename_i l hnot hl
    cases hr
    obtain ⟨vs', r1, r2⟩ := aResV_ok (w := w) H ht hl
    have hlen : ¬ vs'.toArray.size = 1 := by
      intro h1
      have := r2.length
      simp only [List.size_toArray] at h1
      rw [h1] at this
      match l, this with
      | [x], _ => exact hnot x rfl
    refine ⟨_, run _ r1, ?_⟩
    rw [dif_neg hlen]
    exact .tuple (by simpa using r2)
  · cases hr
end
end
end Go.Xm
namespace Go.Xm
noncomputable section
section
variable {P : Program} {G : Nat} {K : Kp} {e : Env} {cs : List Frame} {w : World}

theorem CR.app {a b : List (Value × Bool)} {c d : List PanicEntry} (h : CR e a c) (k : CR e b d) : CR e (a ++ b) (c ++ d) := by
  induction a generalizing c with
  | nil => cases h; exact k
  | cons x l ih => cases h with | cons h hs => exact .cons h (ih hs)

theorem aUnwind_ok (hN : NamesOk P) {S : AS} {f : AF} {fr : Frame} {rest : List AF} {fs : List Frame} (hf : FR e f fr) (hr : FRs e rest fs) (H : HR P G K e S.h S.nx w) (hG : G ≤ S.nx) (hm : f.mode ≠ .run)
    (hne : aUnwind P G S f rest ≠ .fail) : Good P G K cs e (lone fr (fs ++ cs) w) (aUnwind P G S f rest) := by
  have hmode := hf.mode
  have hd := hf.dfr
  have hnr : fr.mode ≠ .run := by
    intro h; rw [h] at hmode
    generalize hfm : f.mode = m at hmode
    cases hmode; exact hm hfm
  have step1 : stepG P true { frame := fr, callers := fs ++ cs, status := .running, dying := none } w = unwind P true fr (fs ++ cs) none w := by
    obtain ⟨fn, tmps, todo, defers, mode, kind, rnd⟩ := fr
    cases mode with
    | run => exact absurd rfl hnr
    | returning => rfl
    | panicking c => rfl
  unfold aUnwind at hne ⊢
  generalize hfd : f.dfr = ds at hne hd ⊢
  generalize hgd : fr.defers = gs at hd
  cases hd with
  | @cons d d' ds ds' hd hds =>
    cases hd with
    | @coll r r' s x hl =>
      dsimp only at hne ⊢
      cases hat : S.h.at r with
      | none => rw [hat] at hne; exact absurd rfl hne
      | some o =>
        rw [hat] at hne
        split at hne
        · rename_i calls heq
          cases heq
          obtain ⟨ob, ho, hR⟩ := H.obj hat hl
          cases hR with
          | @dfr _ _ calls' hc =>
            have hH := set_obj H hat rfl hl ho (.dfrN (P := P) (x := x))
            have hrun : (Instr.takeDeferred r').run P w = .ok calls' { w with heap := w.heap.setIfInBounds r' (.deferred none) } := by
              simp [Instr.takeDeferred, run_getObj ho (by simp), run_setObj ho (by simp)]
            refine good_one (f' := { fr with defers := calls' ++ ds' }) (w' := { w with heap := w.heap.setIfInBounds r' (.deferred none) }) e.le_refl ?_ (.cons ⟨hf.fn, hf.tm, hf.todo, hc.append hds, hf.mode, hf.kind, hf.rnd⟩ hr) hH hG
            rw [step1]
            simp [unwind, hgd, hrun]
        · exact absurd rfl hne
    | @fn g cap args cap' args' hc ha =>
      dsimp only at hne ⊢
      cases hen : aEnter P g (args ++ cap) .deferred with
      | none => rw [hen] at hne; exact absurd rfl hne
      | some a =>
        dsimp only
        have hb := aEnter_bodied hen
        refine good_one (f' := Frame.enter P g (args' ++ cap') .deferred) (fs' := { fr with defers := ds' } :: fs) e.le_refl ?_ (.cons (aEnter_ok hen ?_) (.cons ⟨hf.fn, hf.tm, hf.todo, hds, hf.mode, hf.kind, hf.rnd⟩ hr)) H hG
        · rw [step1]
          simp [unwind, hgd, callDeferred, invoke, callFunc_ok hN hb]
        · simpa using ha.append hc
  | nil =>
    dsimp only at hne ⊢
    have hfn := hf.fn
    cases hfun : P.funcs[f.fn]? with
    | none => rw [hfun] at hne; exact absurd rfl hne
    | some fn =>
      rw [hfun] at hne
      have hfun' : P.funcs[fr.fn]? = some fn := by rw [hfn]; exact hfun
      dsimp only at hne ⊢
      generalize hfm : f.mode = fm at hne hmode ⊢
      generalize hgm : fr.mode = gm at hmode
      split at hne
      · rename_i chain c r
        cases hmode with
        | @pan _ chain' hch =>
          cases hr with
          | @cons _ cf _ rf hc hrs =>
            have hcm := hc.mode
            have hcatch : fr.catches P = false := by simp [Frame.catches, hfun']
            have hs : ∀ g, cf.raise chain' = g → (stepG P true { frame := fr, callers := cf :: rf ++ cs, status := .running, dying := none } w).bare = .go { frame := g, callers := rf ++ cs, status := .running, dying := none } w := by
              intro g hg
              rw [step1]
              simp [unwind, hgd, hgm, hcatch, hg]
            generalize hcmm : c.mode = cm at hne hcm ⊢
            generalize hcfm : cf.mode = cfm at hcm
            cases hcm with
            | run => exact good_one (f' := { cf with mode := .panicking chain' }) e.le_refl (hs _ (by simp [Frame.raise, hcfm])) (.cons ⟨hc.fn, hc.tm, hc.todo.imp (fun h0 => ⟨(fun h1 => by cases h1), h0.2⟩) id, hc.dfr, .pan hch, hc.kind, hc.rnd⟩ hrs) H hG
            | ret => exact good_one (f' := { cf with mode := .panicking chain' }) e.le_refl (hs _ (by simp [Frame.raise, hcfm])) (.cons ⟨hc.fn, hc.tm, hc.todo.imp (fun h0 => ⟨(fun h1 => by cases h1), h0.2⟩) id, hc.dfr, .pan hch, hc.kind, hc.rnd⟩ hrs) H hG
            | @pan old old' ho => exact good_one (f' := { cf with mode := .panicking (chain' ++ old') }) e.le_refl (hs _ (by simp [Frame.raise, hcfm])) (.cons ⟨hc.fn, hc.tm, hc.todo.imp (fun h0 => ⟨(fun h1 => by cases h1), h0.2⟩) id, hc.dfr, .pan (hch.app ho), hc.kind, hc.rnd⟩ hrs) H hG
      · rename_i c r
        cases hmode
        cases hres : aResults P G S.h fn f.tm with
        | none => rw [hres] at hne; exact absurd rfl hne
        | some v =>
          rw [hres] at hne
          dsimp only at hne ⊢
          cases hret : aReturn f (c :: r) v with
          | none => rw [hret] at hne; exact absurd rfl hne
          | some fs' =>
            dsimp only
            obtain ⟨v', h1, h2⟩ := aResults_ok (w := w) H hf.tm hres
            obtain ⟨g, gs, h3, h4⟩ := aReturn_ok (P := P) (cs := cs) hret hf hr h2 w
            refine good_one e.le_refl ?_ h4 H hG
            rw [step1]
            simp [unwind, hgd, hgm, hfun', h1, h3]
      · exact absurd rfl hne

theorem astep_ok (hN : NamesOk P) {S : AS} {M : Machine} (hS : SR P G K cs e S M) (hne : astep P G S ≠ .fail) : Good P G K cs e M (astep P G S) := by
  obtain ⟨f, fs, w, rfl, hF, H, hG⟩ := hS
  obtain ⟨Sfs, Sh, Snx⟩ := S
  cases hF with
  | @cons a _ rest _ hf hr =>
    unfold astep at hne ⊢
    dsimp only at hne ⊢
    split at hne
    · rename_i hm
      exact aExec_ok hN hf hr H hG hm hne
    · rename_i hm
      exact aUnwind_ok hN hf hr H hG hm hne

/-! ### runs -/
/-- from each machine that fits the first state one comes to one that fits one of the others -/
def Leads (P : Program) (G : Nat) (S : AS) (L : List AS) : Prop :=
  ∀ K cs e M, SR P G K cs e S M → ∃ S' ∈ L, ∃ e' M', e.le e' ∧ Steps P M M' ∧ SR P G K cs e' S' M'
theorem Leads.refl (S : AS) : Leads P G S [S] := fun _ _ e M h => ⟨S, List.mem_cons_self, e, M, e.le_refl, .refl P M, h⟩
theorem Leads.step {S S' : AS} {L : List AS} (hN : NamesOk P) (hs : astep P G S = .one S') (h : Leads P G S' L) : Leads P G S L := fun K cs e M hM => by
  have := astep_ok hN hM (by rw [hs]; simp)
  rw [hs] at this
  obtain ⟨e1, M1, h1, h2, h3⟩ := this
  obtain ⟨S2, hm, e2, M2, k1, k2, k3⟩ := h K cs e1 M1 h3
  exact ⟨S2, hm, e2, M2, Env.le_trans h1 k1, .head h2 k2, k3⟩
theorem Leads.many {S : AS} {L L' : List AS} (hN : NamesOk P) (hs : astep P G S = .many L) (h : ∀ S' ∈ L, Leads P G S' L') : Leads P G S L' := fun K cs e M hM => by
  have := astep_ok hN hM (by rw [hs]; simp)
  rw [hs] at this
  obtain ⟨S1, hm1, e1, M1, h1, h2, h3⟩ := this
  obtain ⟨S2, hm, e2, M2, k1, k2, k3⟩ := h S1 hm1 K cs e1 M1 h3
  exact ⟨S2, hm, e2, M2, Env.le_trans h1 k1, .head h2 k2, k3⟩
theorem Leads.trans {S : AS} {L L' : List AS} (h : Leads P G S L) (k : ∀ S' ∈ L, Leads P G S' L') : Leads P G S L' := fun K cs e M hM => by
  obtain ⟨S1, hm1, e1, M1, h1, h2, h3⟩ := h K cs e M hM
  obtain ⟨S2, hm, e2, M2, k1, k2, k3⟩ := k S1 hm1 K cs e1 M1 h3
  exact ⟨S2, hm, e2, M2, Env.le_trans h1 k1, h2.trans k2, k3⟩
theorem Leads.sub {S : AS} {L L' : List AS} (h : Leads P G S L) (hs : ∀ x ∈ L, x ∈ L') : Leads P G S L' := fun K cs e M hM => by
  obtain ⟨S1, hm1, r⟩ := h K cs e M hM
  exact ⟨S1, hs _ hm1, r⟩
end
end
end Go.Xm
