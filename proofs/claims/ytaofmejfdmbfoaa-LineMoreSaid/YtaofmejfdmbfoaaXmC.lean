/-
  The machine of names: its step in a form for the kernel; families of memories; a region run in any order. No condition.
-/
import Derived.Test.YtaofmejfdmbfoaaXmB
import Derived.Orders
namespace Go.Xm
noncomputable section

/-! ### the same step, in a form that the kernel runs faster -/
def nthF {α : Type} (l : List α) : Nat → Option α :=
  List.rec (motive := fun _ => Nat → Option α) (fun _ => none) (fun a _ ih n => Nat.rec (motive := fun _ => Option α) (some a) (fun m _ => ih m) n) l
theorem nthF_eq {α : Type} : ∀ (l : List α) (n : Nat), nthF l n = l[n]?
  | [], n => by simp [nthF]
  | a :: l, 0 => rfl
  | a :: l, n + 1 => by
    show nthF l n = _
    rw [nthF_eq l n]; simp

def setF (tm : Tr Value) (nt d : Nat) (v : Value) : Option (Tr Value) :=
  Bool.rec (motive := fun _ => Option (Tr Value)) none (some (tm.upd 12 d (some v))) (Nat.ble (Nat.succ d) nt)
theorem setF_eq (tm : Tr Value) (nt d : Nat) (v : Value) : setF tm nt d v = setTm tm nt d v := by
  show _ = cond (Nat.ble (Nat.succ d) nt) _ _
  unfold setF
  cases Nat.ble (Nat.succ d) nt <;> rfl

def rdF (G : Nat) (tm : Tr Value) (x : Operand) : Value :=
  Operand.rec (motive := fun _ => Nat → Tr Value → Value)
    (fun t _ tm => Option.rec (motive := fun _ => Value) (.chan none) (fun v => v) (tm.get 12 t))
    (fun v _ _ => Bool.rec (motive := fun _ => Value) (.chan none) v (closed 30 v))
    (fun g G _ => Bool.rec (motive := fun _ => Value) (.chan none) (.pointer (some ⟨g, 0, none⟩)) (Nat.ble (Nat.succ g) G))
    (fun f _ _ => .func (.func f) #[] #[]) x G tm
theorem rdF_eq (G : Nat) (tm : Tr Value) : rdF G tm = rd G tm := by
  funext x
  cases x with
  | tmp t => show _ = (match tm.get 12 t with | some v => v | none => .chan none); show (Option.rec _ _ (tm.get 12 t) : Value) = _; cases tm.get 12 t <;> rfl
  | const v => show (Bool.rec _ _ (closed 30 v) : Value) = cond (closed 30 v) _ _; cases closed 30 v <;> rfl
  | global g => show (Bool.rec _ _ (Nat.ble (Nat.succ g) G) : Value) = cond (Nat.ble (Nat.succ g) G) _ _; cases Nat.ble (Nat.succ g) G <;> rfl
  | func f => rfl

def vF (o : Option Value) (h : Hp) (nx : Nat) : AOut := Option.rec (motive := fun _ => AOut) .fail (fun v => .val v h nx) o

/-- the operations, each alternative closed -/
def fop (o : Op) : Program → (Operand → Value) → Hp → Nat → AOut :=
  Op.rec (motive := fun _ => Program → (Operand → Value) → Hp → Nat → AOut)
    (fun x _ r h n => .val (r x) h n)
    (fun x _ r h n => .val (r x) h n)
    (fun c a b P r h n => aop P r (.pick c a b) h n)
    (fun t P _ h n => ofT (aAlloc P h n t))
    (fun t x _ r h n => ofT (aBox h n t (r x)))
    (fun t ps P r h n => ofV (aBuild P t (ps.toList.map fun p => (p.1, r p.2))) h n)
    (fun t k ps P r h n => aop P r (.buildSlice t k ps) h n)
    (fun t m k v P r h n => ofH (aMapUpdate P h t (r m) (r k) (r v)) n)
    (fun t a P r h n => vF (aLoad P h t (r a)) h n)
    (fun t a x P r h n => ofH (aStore P h t (r a) (r x)) n)
    (fun _ _ _ _ _ => .fail)
    (fun _ _ _ _ _ => .fail)
    (fun x P r h n => aop P r (.nilCheck x) h n)
    (fun op t x y _ P r h n => vF (aBin P op t x y (r x) (r y)) h n)
    (fun op _ x _ r h n => vF (aUn op (r x)) h n)
    (fun s d x P r h n => aConvA P s d (r x) h n)
    (fun _ _ _ _ _ _ => .fail)
    (fun t x P r h n => ofV (aIface P t (r x)) h n)
    (fun f first cap P r h n => aop P r (.makeFunc f first cap) h n)
    (fun t z P r h n => aop P r (.makeMap t z) h n)
    (fun _ _ _ _ _ _ => .fail)
    (fun t l c P r h n => ofT (aMakeSlice P h n t (r l) (r c)))
    (fun t x lo hi mx P r h n => aop P r (.slice t x lo hi mx) h n)
    (fun t x f P r h n => vF (aFieldAddr P t (r x) f) h n)
    (fun t x f P r h n => vF (aField P t (r x) f) h n)
    (fun t x i P r h n => vF (aIndexAddr P t (r x) (r i)) h n)
    (fun t x i P r h n => vF (aIndex P t (r x) (r i)) h n)
    (fun t m k ok P r h n => ofV (aLookup P h t (r m) (r k) ok) h n)
    (fun t m k v P r h n => ofH (aMapUpdate P h t (r m) (r k) (r v)) n)
    (fun t m k P r h n => aop P r (.mapEntry t m k) h n)
    (fun _ m s x _ r h n => ofH (aEntryStore h (r m) (r s) (r x)) n)
    (fun t x P r h n => ofT (aRange P h n t (r x)))
    (fun it s P r h n => aop P r (.next it s) h n)
    (fun it _ r h n => ofV (aEntry h (r it)) h n)
    (fun x _ a ok P r h n => ofV (aAssert P (r x) a ok) h n)
    (fun t i _ r h n => vF (aExtract (r t) i) h n)
    (fun c P r h n => aCall P r c h n)
    (fun _ _ _ _ _ => .fail)
    (fun c P r h n => aop P r (.defer c) h n)
    (fun x P r h n => aop P r (.panic x) h n)
    (fun _ _ _ _ _ _ => .fail)
    (fun _ _ _ _ _ _ _ => .fail)
    (fun _ _ _ _ _ _ => .fail)
    o
theorem vF_eq (o : Option Value) (h : Hp) (nx : Nat) : vF o h nx = ofV o h nx := by cases o <;> rfl
theorem fop_eq (o : Op) (P : Program) (r : Operand → Value) (h : Hp) (n : Nat) : fop o P r h n = aop P r o h n := by
  cases o <;> first | rfl | exact vF_eq _ _ _

/-- where the quick run of a region stands -/
inductive RO where
  | done (tm : Tr Value) (h : Hp) (nx : Nat)
  | stop (is : List Nat) (tm : Tr Value) (h : Hp) (nx : Nat)

def fDst (dst : Option Tmp) : Tr Value → Nat → Value → Option (Tr Value) :=
  Option.rec (motive := fun _ => Tr Value → Nat → Value → Option (Tr Value)) (fun tm _ _ => some tm) (fun d tm nt v => setF tm nt d v) dst

/-- one operation, where it comes to a value alone -/
def fOne (o : Oper) : Program → Nat → Tr Value → Nat → Hp → Nat → Option (Tr Value × Hp × Nat) :=
  Oper.rec (motive := fun _ => Program → Nat → Tr Value → Nat → Hp → Nat → Option (Tr Value × Hp × Nat))
    (fun dst op _ _ _ guard P G tm nt h nx => Option.rec (motive := fun _ => Option (Tr Value × Hp × Nat))
      (AOut.rec (motive := fun _ => Option (Tr Value × Hp × Nat))
        (fun v h nx => Option.rec (motive := fun _ => Option (Tr Value × Hp × Nat)) none (fun tm2 => some (tm2, h, nx)) (fDst dst tm nt v))
        (fun _ _ => none) (fun _ _ => none) (fun _ => none) none (fun _ => none) (fun _ => none) none
        (fop op P (rdF G tm) h nx))
      (fun _ => none) guard) o

def fReg (ops : List Oper) (is : List Nat) : Program → Nat → Tr Value → Nat → Hp → Nat → RO :=
  List.rec (motive := fun _ => Program → Nat → Tr Value → Nat → Hp → Nat → RO)
    (fun _ _ tm _ h nx => .done tm h nx)
    (fun i is ih P G tm nt h nx => Option.rec (motive := fun _ => RO) (.stop (i :: is) tm h nx)
      (fun o => Option.rec (motive := fun _ => RO) (.stop (i :: is) tm h nx)
        (fun q => Prod.rec (motive := fun _ => RO) (fun tm2 r => Prod.rec (motive := fun _ => RO) (fun h2 nx2 => ih P G tm2 nt h2 nx2) r) q) (fOne o P G tm nt h nx))
      (nthF ops i)) is

def mkS (fn : FuncId) (tm : Tr Value) (nt : Nat) (todo : List AI) (dfr : List ADef) (kind : CallKind) (rnd : Option Nat) (rest : List AF) (h : Hp) (nx : Nat) : AS :=
  ⟨⟨fn, tm, nt, todo, dfr, .run, kind, rnd⟩ :: rest, h, nx⟩

abbrev FT := FuncId → Tr Value → Nat → List AI → List ADef → CallKind → Option Nat → List AF → Program → Nat → Hp → Nat → ARes
def slow (it : AI) : FT := fun fn tm nt k dfr kind rnd rest P G h nx =>
  aExec P G (mkS fn tm nt (it :: k) dfr kind rnd rest h nx) ⟨fn, tm, nt, it :: k, dfr, .run, kind, rnd⟩ rest
def fCode (c : Code) : FT :=
  Code.rec (motive := fun _ => FT)
    (fun fn tm nt k dfr kind rnd rest _ _ h nx => .one (mkS fn tm nt k dfr kind rnd rest h nx))
    (fun id ops draw fn tm nt k dfr kind rnd rest P G h nx => Bool.rec (motive := fun _ => ARes)
      (.one (mkS fn tm nt (.it (.inRegion ops (List.range ops.size)) :: k) dfr kind rnd rest h nx))
      (slow (.it (.code (.region id ops true))) fn tm nt k dfr kind rnd rest P G h nx) draw)
    (fun a b _ _ fn tm nt k dfr kind rnd rest _ _ h nx => .one (mkS fn tm nt (.it (.code a) :: .it (.code b) :: k) dfr kind rnd rest h nx))
    (fun c a b _ _ fn tm nt k dfr kind rnd rest P G h nx => slow (.it (.code (.cond c a b))) fn tm nt k dfr kind rnd rest P G h nx)
    (fun id b _ fn tm nt k dfr kind rnd rest _ _ h nx => .one (mkS fn tm nt (.it (.code b) :: .it (.inBlock id) :: k) dfr kind rnd rest h nx))
    (fun b _ fn tm nt k dfr kind rnd rest _ _ h nx => .one (mkS fn tm nt (.it (.code b) :: .it (.inLoop b) :: k) dfr kind rnd rest h nx))
    (fun g ps a b _ _ fn tm nt k dfr kind rnd rest P G h nx => slow (.it (.code (.rangeFunc g ps a b))) fn tm nt k dfr kind rnd rest P G h nx)
    (fun id fn tm nt k dfr kind rnd rest P G h nx => slow (.it (.code (.exit id))) fn tm nt k dfr kind rnd rest P G h nx)
    (fun b _ fn tm nt k dfr kind rnd rest _ _ h nx => .one (mkS fn tm nt (.it (.code b) :: .it (.inScope b) :: k) dfr kind rnd rest h nx))
    (fun _ fn tm nt k dfr kind rnd rest _ _ h nx => .one (mkS fn tm nt k dfr kind rnd rest h nx))
    (fun _ _ _ _ _ _ _ _ _ _ _ _ _ => .fail)
    (fun fn tm nt k dfr kind rnd rest P G h nx => slow (.it (.code .ret)) fn tm nt k dfr kind rnd rest P G h nx)
    (fun _ _ _ _ _ _ _ _ _ _ _ _ _ => .fail)
    c
def fRegion (ops : Array Oper) (is : List Nat) : FT := fun fn tm nt k dfr kind rnd rest P G h nx =>
  RO.rec (motive := fun _ => ARes)
    (fun tm h nx => .one (mkS fn tm nt k dfr kind rnd rest h nx))
    (fun is tm h nx => slow (.it (.inRegion ops is)) fn tm nt k dfr kind rnd rest P G h nx)
    (fReg ops.toList is P G tm nt h nx)
def fItem (i : Item) : FT :=
  Item.rec (motive := fun _ => FT)
    fCode
    (fun _ fn tm nt k dfr kind rnd rest _ _ h nx => .one (mkS fn tm nt k dfr kind rnd rest h nx))
    (fun b fn tm nt k dfr kind rnd rest _ _ h nx => .one (mkS fn tm nt (.it (.code b) :: .it (.inLoop b) :: k) dfr kind rnd rest h nx))
    (fun _ fn tm nt k dfr kind rnd rest _ _ h nx => .one (mkS fn tm nt k dfr kind rnd rest h nx))
    fRegion
    (fun l => slow (.it (.inRangeFunc l)))
    (fun l => slow (.it (.endRangeFunc l)))
    (slow (.it .beginRound))
    (fun d w r s => slow (.it (.call d w r s)))
    (fun r a => slow (.it (.extern r a)))
    i
def fAI (i : AI) : FT := AI.rec (motive := fun _ => FT) fItem (fun l => slow (.inRF l)) (fun l => slow (.endRF l)) i
def fFrame (f : AF) : List AF → Program → Nat → Hp → Nat → ARes :=
  AF.rec (motive := fun _ => List AF → Program → Nat → Hp → Nat → ARes)
    (fun fn tm nt todo dfr mode kind rnd rest P G h nx => AM.rec (motive := fun _ => ARes)
      (List.rec (motive := fun _ => FuncId → Tr Value → Nat → List ADef → CallKind → Option Nat → List AF → Program → Nat → Hp → Nat → ARes)
        (fun fn tm nt dfr kind rnd rest _ _ h nx => aLeave (mkS fn tm nt [] dfr kind rnd rest h nx) ⟨fn, tm, nt, [], dfr, .run, kind, rnd⟩ rest none)
        (fun i k _ fn tm nt dfr kind rnd rest P G h nx => fAI i fn tm nt k dfr kind rnd rest P G h nx) todo fn tm nt dfr kind rnd rest P G h nx)
      (aUnwind P G ⟨⟨fn, tm, nt, todo, dfr, .ret, kind, rnd⟩ :: rest, h, nx⟩ ⟨fn, tm, nt, todo, dfr, .ret, kind, rnd⟩ rest)
      (fun c => aUnwind P G ⟨⟨fn, tm, nt, todo, dfr, .pan c, kind, rnd⟩ :: rest, h, nx⟩ ⟨fn, tm, nt, todo, dfr, .pan c, kind, rnd⟩ rest) mode) f
def fstep (P : Program) (G : Nat) (S : AS) : ARes :=
  AS.rec (motive := fun _ => Program → Nat → ARes)
    (fun fs h nx P G => List.rec (motive := fun _ => Program → Nat → Hp → Nat → ARes) (fun _ _ _ _ => .fail) (fun f rest _ P G h nx => fFrame f rest P G h nx) fs P G h nx) S P G
end
end Go.Xm
namespace Go.Xm
noncomputable section
/-! ### forcing: the same value, laid out -/
variable {β : Type}
def kNat (n : Nat) (k : Nat → β) : β := Nat.rec (motive := fun _ => β) (k 0) (fun m _ => k (Nat.succ m)) n
theorem kNat_eq (n : Nat) (k : Nat → β) : kNat n k = k n := by cases n <;> rfl
def kInt (n : Int) (k : Int → β) : β := Int.rec (motive := fun _ => β) (fun m => kNat m fun m => k (.ofNat m)) (fun m => kNat m fun m => k (.negSucc m)) n
theorem kInt_eq (n : Int) (k : Int → β) : kInt n k = k n := by cases n <;> simp only [kInt, kNat_eq]
def kBool (b : Bool) (k : Bool → β) : β := Bool.rec (motive := fun _ => β) (k false) (k true) b
theorem kBool_eq (b : Bool) (k : Bool → β) : kBool b k = k b := by cases b <;> rfl
def kOpt {α : Type} (f : α → (α → β) → β) (o : Option α) (k : Option α → β) : β := Option.rec (motive := fun _ => β) (k none) (fun a => f a fun a => k (some a)) o
theorem kOpt_eq {α : Type} {f : α → (α → β) → β} (hf : ∀ a k, f a k = k a) (o : Option α) (k : Option α → β) : kOpt f o k = k o := by
  cases o with
  | none => rfl
  | some a => exact hf _ _
def kList {α : Type} (f : α → (α → β) → β) (l : List α) : (List α → β) → β :=
  List.rec (motive := fun _ => (List α → β) → β) (fun k => k []) (fun a _ ih k => f a fun a => ih fun l => k (a :: l)) l
theorem kList_eq {α : Type} {f : α → (α → β) → β} (hf : ∀ a k, f a k = k a) : ∀ (l : List α) (k : List α → β), kList f l k = k l
  | [], k => rfl
  | a :: l, k => by
    show f a (fun a => kList f l fun l => k (a :: l)) = _
    rw [hf, kList_eq hf l]
def kTr {α : Type} (f : α → (α → β) → β) (t : Tr α) : (Tr α → β) → β :=
  Tr.rec (motive := fun _ => (Tr α → β) → β) (fun k => k .nil) (fun v _ _ ihl ihr k => kOpt f v fun v => ihl fun l => ihr fun r => k (.node v l r)) t
theorem kTr_eq {α : Type} {f : α → (α → β) → β} (hf : ∀ a k, f a k = k a) : ∀ (t : Tr α) (k : Tr α → β), kTr f t k = k t
  | .nil, k => rfl
  | .node v l r, k => by
    show kOpt f v (fun v => kTr f l fun l => kTr f r fun r => k (.node v l r)) = _
    rw [kOpt_eq hf, kTr_eq hf l, kTr_eq hf r]
def kAddr (a : Addr) (k : Addr → β) : β := match a with | ⟨b, o, i⟩ => kNat b fun b => kNat o fun o => kOpt (fun x k => k x) i fun i => k ⟨b, o, i⟩
theorem kAddr_eq (a : Addr) (k : Addr → β) : kAddr a k = k a := by
  obtain ⟨b, o, i⟩ := a
  simp only [kAddr]
  rw [kNat_eq, kNat_eq, kOpt_eq (fun _ _ => rfl)]
def kBytes (s : ByteArray) (k : ByteArray → β) : β := match s with | ⟨⟨l⟩⟩ => kList (fun x k => k x) l fun l => k ⟨⟨l⟩⟩
theorem kBytes_eq (s : ByteArray) (k : ByteArray → β) : kBytes s k = k s := by
  obtain ⟨⟨l⟩⟩ := s
  exact kList_eq (fun _ _ => rfl) l _
def kVal (v : Value) : (Value → β) → β := Value.rec (motive_1 := fun _ => (Value → β) → β) (motive_2 := fun _ => (Array Value → β) → β) (motive_3 := fun _ => (List Value → β) → β)
    (fun b k => kBool b fun b => k (.bool b))
    (fun t n k => kInt n fun n => k (.int t n))
    (fun t b k => k (.float t b))
    (fun t a b k => k (.complex t a b))
    (fun s k => kBytes s fun s => k (.string s))
    (fun a k => kOpt kAddr a fun a => k (.pointer a))
    (fun a l c k => kOpt kAddr a fun a => kNat l fun l => kNat c fun c => k (.slice a l c))
    (fun r k => kOpt kNat r fun r => k (.map r))
    (fun r k => kOpt kNat r fun r => k (.chan r))
    (fun g _ _ iha ihc k => iha fun a => ihc fun c => k (.func g a c))
    (fun k => k .nilFunc)
    (fun t _ ih k => kNat t fun t => ih fun v => k (.iface t v))
    (fun k => k .nilIface)
    (fun _ ih k => ih fun l => k (.agg l))
    (fun _ ih k => ih fun l => k (.tuple l))
    (fun _ ih k => ih fun l => k ⟨l⟩)
    (fun k => k [])
    (fun _ _ ih ihs k => ih fun v => ihs fun l => k (v :: l))
    v
def kArr (v : Array Value) : (Array Value → β) → β := Value.rec_1 (motive_1 := fun _ => (Value → β) → β) (motive_2 := fun _ => (Array Value → β) → β) (motive_3 := fun _ => (List Value → β) → β)
    (fun b k => kBool b fun b => k (.bool b))
    (fun t n k => kInt n fun n => k (.int t n))
    (fun t b k => k (.float t b))
    (fun t a b k => k (.complex t a b))
    (fun s k => kBytes s fun s => k (.string s))
    (fun a k => kOpt kAddr a fun a => k (.pointer a))
    (fun a l c k => kOpt kAddr a fun a => kNat l fun l => kNat c fun c => k (.slice a l c))
    (fun r k => kOpt kNat r fun r => k (.map r))
    (fun r k => kOpt kNat r fun r => k (.chan r))
    (fun g _ _ iha ihc k => iha fun a => ihc fun c => k (.func g a c))
    (fun k => k .nilFunc)
    (fun t _ ih k => kNat t fun t => ih fun v => k (.iface t v))
    (fun k => k .nilIface)
    (fun _ ih k => ih fun l => k (.agg l))
    (fun _ ih k => ih fun l => k (.tuple l))
    (fun _ ih k => ih fun l => k ⟨l⟩)
    (fun k => k [])
    (fun _ _ ih ihs k => ih fun v => ihs fun l => k (v :: l))
    v
def kVls (v : List Value) : (List Value → β) → β := Value.rec_2 (motive_1 := fun _ => (Value → β) → β) (motive_2 := fun _ => (Array Value → β) → β) (motive_3 := fun _ => (List Value → β) → β)
    (fun b k => kBool b fun b => k (.bool b))
    (fun t n k => kInt n fun n => k (.int t n))
    (fun t b k => k (.float t b))
    (fun t a b k => k (.complex t a b))
    (fun s k => kBytes s fun s => k (.string s))
    (fun a k => kOpt kAddr a fun a => k (.pointer a))
    (fun a l c k => kOpt kAddr a fun a => kNat l fun l => kNat c fun c => k (.slice a l c))
    (fun r k => kOpt kNat r fun r => k (.map r))
    (fun r k => kOpt kNat r fun r => k (.chan r))
    (fun g _ _ iha ihc k => iha fun a => ihc fun c => k (.func g a c))
    (fun k => k .nilFunc)
    (fun t _ ih k => kNat t fun t => ih fun v => k (.iface t v))
    (fun k => k .nilIface)
    (fun _ ih k => ih fun l => k (.agg l))
    (fun _ ih k => ih fun l => k (.tuple l))
    (fun _ ih k => ih fun l => k ⟨l⟩)
    (fun k => k [])
    (fun _ _ ih ihs k => ih fun v => ihs fun l => k (v :: l))
    v
theorem kVal_eq (v : Value) : ∀ (k : Value → β), kVal v k = k v := by
  refine Value.rec (motive_1 := fun v => ∀ k : Value → β, kVal v k = k v) (motive_2 := fun l => ∀ k : Array Value → β, kArr l k = k l) (motive_3 := fun l => ∀ k : List Value → β, kVls l k = k l)
    ?_ ?_ ?_ ?_ ?_ ?_ ?_ ?_ ?_ ?_ ?_ ?_ ?_ ?_ ?_ ?_ ?_ ?_ v
  · intro b k; exact kBool_eq b (fun b => k (.bool b))
  · intro t n k; exact kInt_eq n (fun n => k (.int t n))
  · intro t b k; rfl
  · intro t a b k; rfl
  · intro s k; exact kBytes_eq s (fun s => k (.string s))
  · intro a k; exact kOpt_eq kAddr_eq a (fun a => k (.pointer a))
  · intro a l c k
    show kOpt kAddr a (fun a => kNat l fun l => kNat c fun c => k (.slice a l c)) = _
    simp only [kOpt_eq kAddr_eq, kNat_eq]
  · intro r k; exact kOpt_eq kNat_eq r (fun r => k (.map r))
  · intro r k; exact kOpt_eq kNat_eq r (fun r => k (.chan r))
  · intro g a c iha ihc k
    show kArr a (fun a => kArr c fun c => k (.func g a c)) = _
    rw [iha, ihc]
  · intro k; rfl
  · intro t v ih k
    show kNat t (fun t => kVal v fun v => k (.iface t v)) = _
    rw [kNat_eq, ih]
  · intro k; rfl
  · intro l ih k
    show kArr l (fun l => k (.agg l)) = _
    rw [ih]
  · intro l ih k
    show kArr l (fun l => k (.tuple l)) = _
    rw [ih]
  · intro l ih k
    show kVls l (fun l => k ⟨l⟩) = _
    rw [ih]
  · intro k; rfl
  · intro v l ih ihs k
    show kVal v (fun v => kVls l fun l => k (v :: l)) = _
    rw [ih, ihs]
def kDef (d : ADef) (k : ADef → β) : β := match d with
  | ⟨.fn f c, a⟩ => kNat f fun f => kList kVal c fun c => kList kVal a fun a => k ⟨.fn f c, a⟩
  | ⟨.coll r, a⟩ => kNat r fun r => kList kVal a fun a => k ⟨.coll r, a⟩
theorem kDef_eq (d : ADef) (k : ADef → β) : kDef d k = k d := by
  obtain ⟨t, a⟩ := d
  cases t <;> simp only [kDef, kNat_eq, kList_eq kVal_eq]
def kEnt (d : AEnt) (k : AEnt → β) : β := match d with | ⟨a, b, c⟩ => kVal a fun a => kVal b fun b => kNat c fun c => k ⟨a, b, c⟩
theorem kEnt_eq (d : AEnt) (k : AEnt → β) : kEnt d k = k d := by
  obtain ⟨a, b, c⟩ := d
  simp only [kEnt, kNat_eq, kVal_eq]
def kObj (o : AObj) (k : AObj → β) : β := match o with
  | .cells c e r x => kList kVal c fun c => kNat e fun e => kBool r fun r => kBool x fun x => k (.cells c e r x)
  | .map es c => kList kEnt es fun es => kNat c fun c => k (.map es c)
  | .striter s p => kBytes s fun s => kNat p fun p => k (.striter s p)
  | .mapiter m s l t => kOpt kNat m fun m => kNat s fun s => kList kNat l fun l => kNat t fun t => k (.mapiter m s l t)
  | .loop st p fn tm nt ps a b d => kTr kVal tm fun tm => kNat nt fun nt => k (.loop st p fn tm nt ps a b d)
  | .dfr c => kOpt (kList kDef) c fun c => k (.dfr c)
theorem kObj_eq (o : AObj) (k : AObj → β) : kObj o k = k o := by
  cases o <;> simp only [kObj, kList_eq kVal_eq, kNat_eq, kBool_eq, kList_eq kEnt_eq, kBytes_eq, kOpt_eq kNat_eq, kList_eq kNat_eq, kTr_eq kVal_eq, kOpt_eq (kList_eq kDef_eq)]
def kAI (i : AI) (k : AI → β) : β := match i with
  | .it (.inRegion ops l) => kList kNat l fun l => k (.it (.inRegion ops l))
  | i => k i
theorem kAI_eq (i : AI) (k : AI → β) : kAI i k = k i := by
  unfold kAI
  split
  · simp only [kList_eq kNat_eq]
  · rfl
def kPan (p : Value × Bool) (k : Value × Bool → β) : β := match p with | (v, b) => kVal v fun v => kBool b fun b => k (v, b)
theorem kPan_eq (p : Value × Bool) (k : Value × Bool → β) : kPan p k = k p := by
  obtain ⟨v, b⟩ := p
  simp only [kPan, kVal_eq, kBool_eq]
def kMode (m : AM) (k : AM → β) : β := match m with
  | .pan c => kList kPan c fun c => k (.pan c)
  | m => k m
theorem kMode_eq (m : AM) (k : AM → β) : kMode m k = k m := by
  cases m with
  | pan c => simp only [kMode, kList_eq kPan_eq]
  | _ => rfl
def kAF (f : AF) (k : AF → β) : β := match f with
  | ⟨fn, tm, nt, todo, dfr, mode, kind, rnd⟩ => kNat fn fun fn => kTr kVal tm fun tm => kNat nt fun nt => kList kAI todo fun todo => kList kDef dfr fun dfr => kMode mode fun mode => kOpt kNat rnd fun rnd => k ⟨fn, tm, nt, todo, dfr, mode, kind, rnd⟩
theorem kAF_eq (f : AF) (k : AF → β) : kAF f k = k f := by
  obtain ⟨fn, tm, nt, todo, dfr, mode, kind, rnd⟩ := f
  simp only [kAF, kNat_eq, kTr_eq kVal_eq, kList_eq kAI_eq, kList_eq kDef_eq, kMode_eq, kOpt_eq kNat_eq]
def kAS (S : AS) (k : AS → β) : β := match S with
  | ⟨fs, h, nx⟩ => kList kAF fs fun fs => kTr kObj h fun h => kNat nx fun nx => k ⟨fs, h, nx⟩
theorem kAS_eq (S : AS) (k : AS → β) : kAS S k = k S := by
  obtain ⟨fs, h, nx⟩ := S
  simp only [kAS, kNat_eq, kTr_eq kObj_eq, kList_eq kAF_eq]
end
end Go.Xm
namespace Go.Xm
noncomputable section
section
variable {P : Program} {G : Nat}

theorem not_defer {r : Operand → Value} {o : Op} {h : Hp} {nx : Nat} {v : Value} {h2 : Hp} {nx2 : Nat} (hq : aop P r o h nx = .val v h2 nx2) : isDefer o = false := by
  cases o with
  | defer c =>
    exfalso
    simp only [aop] at hq
    split at hq
    · split at hq <;> cases hq
    · cases hq
  | _ => rfl

theorem fOne_ok {ops : Array Oper} {i : Nat} {is : List Nat} {o : Oper} {fn : FuncId} {tm tm2 : Tr Value} {nt : Nat} {k : List AI} {dfr : List ADef} {kind : CallKind} {rnd : Option Nat} {rest : List AF} {h h2 : Hp} {nx nx2 : Nat}
    (hi : nthF ops.toList i = some o) (hr : fOne o P G tm nt h nx = some (tm2, h2, nx2)) :
    astep P G (mkS fn tm nt (.it (.inRegion ops (i :: is)) :: k) dfr kind rnd rest h nx) = .one (mkS fn tm2 nt (.it (.inRegion ops is) :: k) dfr kind rnd rest h2 nx2) := by
  obtain ⟨dst, op, ty, pos, after, guard⟩ := o
  rw [nthF_eq] at hi
  cases guard with
  | some g => cases hr
  | none =>
    simp only [fOne, fop_eq, rdF_eq] at hr
    generalize hq : aop P (rd G tm) op h nx = q at hr
    cases q with
    | val v h3 nx3 =>
      have hdf := not_defer hq
      dsimp only at hr
      cases hd : fDst dst tm nt v with
      | none => rw [hd] at hr; cases hr
      | some tm3 =>
        rw [hd] at hr; cases hr
        cases dst with
        | none =>
          cases hd
          simp only [astep, mkS, aExec, hi, aWanted, hdf, Bool.false_and, cond_false, hq, aApply, aFinish]
        | some d =>
          have hs : setTm tm nt d v = some tm2 := by rw [← setF_eq]; exact hd
          simp only [astep, mkS, aExec, hi, aWanted, hdf, Bool.false_and, cond_false, hq, aApply, aFinish, hs]
    | _ => cases hr

theorem fReg_ok (hN : NamesOk P) {ops : Array Oper} {fn : FuncId} {nt : Nat} {k : List AI} {dfr : List ADef} {kind : CallKind} {rnd : Option Nat} {rest : List AF} : ∀ (is : List Nat) (tm : Tr Value) (h : Hp) (nx : Nat),
    Leads P G (mkS fn tm nt (.it (.inRegion ops is) :: k) dfr kind rnd rest h nx)
      [RO.rec (motive := fun _ => AS) (fun tm h nx => mkS fn tm nt (.it (.inRegion ops []) :: k) dfr kind rnd rest h nx)
        (fun is tm h nx => mkS fn tm nt (.it (.inRegion ops is) :: k) dfr kind rnd rest h nx) (fReg ops.toList is P G tm nt h nx)]
  | [], tm, h, nx => Leads.refl _
  | i :: is, tm, h, nx => by
    simp only [fReg]
    cases hi : nthF ops.toList i with
    | none => exact Leads.refl _
    | some o =>
      dsimp only
      cases ho : fOne o P G tm nt h nx with
      | none => exact Leads.refl _
      | some q =>
        obtain ⟨tm2, h2, nx2⟩ := q
        exact Leads.step hN (fOne_ok hi ho) (fReg_ok hN is tm2 h2 nx2)

theorem fCode_eq (c : Code) (fn : FuncId) (tm : Tr Value) (nt : Nat) (k : List AI) (dfr : List ADef) (kind : CallKind) (rnd : Option Nat) (rest : List AF) (h : Hp) (nx : Nat) :
    fCode c fn tm nt k dfr kind rnd rest P G h nx = slow (.it (.code c)) fn tm nt k dfr kind rnd rest P G h nx := by
  cases c with
  | region id ops draw => cases draw <;> rfl
  | _ => rfl

theorem fstep_ok (hN : NamesOk P) (S : AS) : ∃ S1, Leads P G S [S1] ∧ fstep P G S = astep P G S1 := by
  obtain ⟨fs, h, nx⟩ := S
  cases fs with
  | nil => exact ⟨_, Leads.refl _, rfl⟩
  | cons f rest =>
    obtain ⟨fn, tm, nt, todo, dfr, mode, kind, rnd⟩ := f
    cases mode with
    | ret => exact ⟨_, Leads.refl _, rfl⟩
    | pan c => exact ⟨_, Leads.refl _, rfl⟩
    | run =>
      cases todo with
      | nil => exact ⟨_, Leads.refl _, rfl⟩
      | cons i k =>
        cases i with
        | inRF l => exact ⟨_, Leads.refl _, rfl⟩
        | endRF l => exact ⟨_, Leads.refl _, rfl⟩
        | it i =>
          cases i with
          | code c => exact ⟨_, Leads.refl _, fCode_eq c fn tm nt k dfr kind rnd rest h nx⟩
          | inRegion ops is =>
            refine ⟨_, fReg_ok hN is tm h nx, ?_⟩
            show fRegion ops is fn tm nt k dfr kind rnd rest P G h nx = _
            unfold fRegion
            cases fReg ops.toList is P G tm nt h nx <;> rfl
          | _ => exact ⟨_, Leads.refl _, rfl⟩

theorem fstep_one (hN : NamesOk P) {S S' : AS} (h : fstep P G S = .one S') : Leads P G S [S'] := by
  obtain ⟨S1, h1, h2⟩ := fstep_ok (G := G) hN S
  refine h1.trans fun S2 hm => ?_
  rw [List.mem_singleton.1 hm]
  exact Leads.step hN (h2.symm.trans h) (Leads.refl _)
theorem fstep_many (hN : NamesOk P) {S : AS} {L : List AS} (h : fstep P G S = .many L) : Leads P G S L := by
  obtain ⟨S1, h1, h2⟩ := fstep_ok (G := G) hN S
  refine h1.trans fun S2 hm => ?_
  rw [List.mem_singleton.1 hm]
  exact Leads.many hN (h2.symm.trans h) fun S' hS => (Leads.refl S').sub fun x hx => by rw [List.mem_singleton.1 hx]; exact hS
end
end
end Go.Xm
namespace Go.Xm
noncomputable section
section
variable {P : Program} {G : Nat} {K : Kp} {e : Env} {h hp : Hp} {nx : Nat} {w : World}

theorem HR.sub (H : HR P G K e h nx w) {h2 : Hp} (hs : ∀ b o, h2.at b = some o → h.at b = some o) : HR P G K e h2 nx w :=
  ⟨fun c y hc => H.live c y (hs _ _ hc), fun c d y y' b' s x s' x' hc hd => H.inj c d y y' b' s x s' x' (hs _ _ hc) (hs _ _ hd), H.keep, H.glob, H.fresh, fun c y b' s x hc => H.away c y b' s x (hs _ _ hc), H.no, H.un, H.os, H.output, H.tape⟩

/-- a block more, under a name that stood for nothing -/
theorem HR.push (H : HR P G K e h nx w) {b : Nat} (ob : Obj) (hb : e b = none) (hbn : b < nx) (hG : G ≤ b) (hu : ¬ K.un b) :
    HR P G K (e.set b (w.heap.size, 0, 0)) h nx (w.alloc ob) := by
  have hle : e.le (e.set b (w.heap.size, 0, 0)) := Env.le_set hb
  have old : ∀ {c : Nat} {q : Obj}, w.heap[c]? = some q → (w.alloc ob).heap[c]? = some q := by
    intro c q hq
    have := lt_of_some hq
    show (w.heap.push ob)[c]? = some q
    rw [Array.getElem?_push_lt this]; rw [Array.getElem?_eq_getElem this] at hq; exact hq
  have olde : ∀ {c : Nat} {y : AObj}, h.at c = some y → (e.set b (w.heap.size, 0, 0)) c = e c := by
    intro c y hc
    have : c ≠ b := fun hE => by
      subst hE
      obtain ⟨_, _, _, _, a1, _⟩ := H.live c y hc
      rw [hb] at a1; cases a1
    simp [Env.set, this]
  refine ⟨?_, ?_, ?_, ?_, ?_, ?_, H.no, ?_, H.os, H.output, H.tape⟩
  · intro c y hc
    obtain ⟨b', s, x', q, a1, a2, a3, a4⟩ := H.live c y hc
    exact ⟨b', s, x', q, hle _ _ a1, old a2, a3.mono hle, a4⟩
  · intro c d y y' b' s x1 s' x' hc hd hrw ec ed
    rw [olde hc] at ec; rw [olde hd] at ed
    exact H.inj c d y y' _ _ _ _ _ hc hd hrw ec ed
  · intro c o' hk; exact old (H.keep c o' hk)
  · intro g hg
    have : g ≠ b := by omega
    simp [Env.set, this, H.glob g hg]
  · intro c hc
    have : c ≠ b := by omega
    simp [Env.set, this, H.fresh c hc]
  · intro c y c' s x hc ec
    rw [olde hc] at ec
    exact H.away c y _ _ _ hc ec
  · intro c hc
    obtain ⟨h1, h2⟩ := H.un c hc
    have : c ≠ b := fun hE => hu (hE ▸ hc)
    exact ⟨h1, by simp [Env.set, this, h2]⟩

/-- memories beside each other; names that stand for nothing yet -/
structure HRF (P : Program) (G : Nat) (K : Kp) (e : Env) (hs : Nat → Hp) (nx : Nat) (w : World) (U : Nat → Prop) : Prop where
  each : ∀ i, HR P G K e (hs i) nx w
  dj : ∀ i j b o c o' b' c' s x s' x', i ≠ j → (hs i).at b = some o → (hs j).at c = some o' → e b = some (b', s, x) → e c = some (c', s', x') → (o.rw = true ∨ o'.rw = true) → b' ≠ c'
  un : ∀ b, U b → b < nx ∧ e b = none
def fset (hs : Nat → Hp) (i : Nat) (h : Hp) : Nat → Hp := fun j => if j = i then h else hs j
theorem fset_same (hs : Nat → Hp) (i : Nat) (h : Hp) : fset hs i h i = h := if_pos rfl
theorem fset_ne (hs : Nat → Hp) {i j : Nat} (h : Hp) (hj : j ≠ i) : fset hs i h j = hs j := if_neg hj

variable {U : Nat → Prop} {hs : Nat → Hp}
theorem HRF.one (H : HR P G K e h nx w) (hU : ∀ b, U b → b < nx ∧ e b = none) : HRF P G K e (fset (fun _ => .nil) 0 h) nx w U := by
  have emp : ∀ {i b o}, i ≠ 0 → (fset (fun _ => (.nil : Hp)) 0 h i).at b ≠ some o := by
    intro i b o hi hb
    rw [fset_ne _ _ hi] at hb
    cases (show none = some o from hb)
  refine ⟨fun i => ?_, fun i j b o c o' b' c' s x s' x' hij hb hc => ?_, hU⟩
  · by_cases hi : i = 0
    · subst hi; rw [fset_same]; exact H
    · exact H.sub fun b o hb => absurd hb (emp hi)
  · by_cases hi : i = 0
    · subst hi; exact absurd hc (emp (Ne.symm hij))
    · exact absurd hb (emp hi)

/-- while one memory is worked on, the others stay -/
theorem HRF.run (H : HRF P G K e hs nx w U) (i : Nat) : ∃ K2 : Kp, HR P G K2 e (hs i) nx w ∧ (∀ e' h' nx' w', e.le e' → HR P G K2 e' h' nx' w' → HRF P G K e' (fset hs i h') nx' w' U) := by
  classical
  let im : Nat → Prop := fun c => ∃ b o s x, (hs i).at b = some o ∧ o.rw = true ∧ e b = some (c, s, x)
  let K2 : Kp := { at' := fun c => if im c then none else w.heap[c]?, no := fun c => K.no c ∨ ∃ j b o s x, j ≠ i ∧ (hs j).at b = some o ∧ e b = some (c, s, x) ∧ o.rw = true, un := fun b => K.un b ∨ U b, os := K.os, output := K.output, tape := K.tape }
  have hat : ∀ c, ¬ im c → K2.at' c = w.heap[c]? := fun c hc => if_neg hc
  have H0 := H.each i
  have hkim : ∀ c q, K.at' c = some q → ¬ im c := by
    rintro c q hk ⟨b, o, s, x, hb, hrw, eb⟩
    obtain ⟨b', s', x', ob, a1, a2, a3, a4⟩ := H0.live b o hb
    rw [eb] at a1; cases a1
    rw [a4 hrw] at hk; cases hk
  have hpim : ∀ j b o c s x, j ≠ i → (hs j).at b = some o → e b = some (c, s, x) → ¬ im c := by
    rintro j b o c s x hj hb eb ⟨b1, o1, s1, x1, hb1, hrw1, eb1⟩
    exact H.dj i j b1 o1 b o c c s1 x1 s x (Ne.symm hj) hb1 hb eb1 eb (.inl hrw1) rfl
  refine ⟨K2, ⟨?_, H0.inj, ?_, H0.glob, H0.fresh, ?_, ?_, ?_, H0.os, H0.output, H0.tape⟩, ?_⟩
  · intro b o hb
    obtain ⟨b', s, x, ob, a1, a2, a3, a4⟩ := H0.live b o hb
    exact ⟨b', s, x, ob, a1, a2, a3, fun hrw => if_pos ⟨b, o, s, x, hb, hrw, a1⟩⟩
  · intro c o hk
    by_cases hc : im c
    · rw [show K2.at' c = none from if_pos hc] at hk; cases hk
    · rwa [hat c hc] at hk
  · rintro b o b' s x hb eb (hn | ⟨j, b1, o1, s1, x1, hj, hb1, eb1, hrw1⟩)
    · exact H0.away b o b' s x hb eb hn
    · exact H.dj i j b o b1 o1 b' b' s x s1 x1 (Ne.symm hj) hb hb1 eb eb1 (.inr hrw1) rfl
  · rintro c (hn | ⟨j, b1, o1, s1, x1, hj, hb1, eb1, _⟩)
    · obtain ⟨q, hq⟩ := Option.isSome_iff_exists.1 (H0.no c hn)
      rw [hat c (hkim c q hq), H0.keep c q hq]; rfl
    · obtain ⟨b', s', x', ob, a1, a2, a3, a4⟩ := (H.each j).live b1 o1 hb1
      rw [eb1] at a1; cases a1
      rw [hat c (hpim _ _ _ _ _ _ hj hb1 eb1), a2]; rfl
  · rintro b (hb | hb)
    · exact H0.un b hb
    · exact H.un b hb
  · intro e' h' nx' w' hle H'
    have hkeep : ∀ c o, K.at' c = some o → w'.heap[c]? = some o := fun c o hk =>
      H'.keep c o (by rw [hat c (hkim c o hk)]; exact H0.keep c o hk)
    have hlive : ∀ j b o, j ≠ i → (hs j).at b = some o → ∃ b' s x ob, e b = some (b', s, x) ∧ e' b = some (b', s, x) ∧ w'.heap[b']? = some ob ∧ OR P e' o s x ob ∧ (o.rw = true → K.at' b' = none) := by
      intro j b o hj hb
      obtain ⟨b', s, x, ob, a1, a2, a3, a4⟩ := (H.each j).live b o hb
      exact ⟨b', s, x, ob, a1, hle _ _ a1, H'.keep b' ob (by rw [hat b' (hpim _ _ _ _ _ _ hj hb a1)]; exact a2), a3.mono hle, a4⟩
    refine ⟨fun j => ?_, fun j l b o c o' b' c' s x s' x' hjl hb hc eb ec hrw => ?_, fun b hb => H'.un b (.inr hb)⟩
    · by_cases hj : j = i
      · subst hj; rw [fset_same]
        refine ⟨?_, H'.inj, hkeep, H'.glob, H'.fresh, fun b o b' s x hb eb hn => H'.away b o b' s x hb eb (.inl hn), H0.no, fun b hb => H'.un b (.inl hb), H'.os, H'.output, H'.tape⟩
        intro b o hb
        obtain ⟨b', s, x, ob, a1, a2, a3, a4⟩ := H'.live b o hb
        refine ⟨b', s, x, ob, a1, a2, a3, fun hrw => ?_⟩
        have h1 := a4 hrw
        by_cases hc : im b'
        · obtain ⟨b1, o1, s1, x1, hb1, hrw1, eb1⟩ := hc
          obtain ⟨b2, s2, x2, ob2, c1, _, _, c4⟩ := H0.live b1 o1 hb1
          rw [eb1] at c1; cases c1
          exact c4 hrw1
        · rw [hat b' hc] at h1
          cases hk : K.at' b' with
          | none => rfl
          | some q => rw [H0.keep b' q hk] at h1; cases h1
      · rw [fset_ne _ _ hj]
        refine ⟨?_, ?_, hkeep, H'.glob, H'.fresh, ?_, H0.no, fun b hb => H'.un b (.inl hb), H'.os, H'.output, H'.tape⟩
        · intro b o hb
          obtain ⟨b', s, x, ob, _, a1, a2, a3, a4⟩ := hlive j b o hj hb
          exact ⟨b', s, x, ob, a1, a2, a3, a4⟩
        · intro b c o o' b' s x s' x' hb hc hrw eb ec
          obtain ⟨_, _, _, _, b1, b2, _⟩ := hlive j b o hj hb
          obtain ⟨_, _, _, _, c1, c2, _⟩ := hlive j c o' hj hc
          rw [b2] at eb; cases eb
          rw [c2] at ec; cases ec
          exact (H.each j).inj b c o o' _ _ _ _ _ hb hc hrw b1 c1
        · intro b o b' s x hb eb
          obtain ⟨_, _, _, _, b1, b2, _⟩ := hlive j b o hj hb
          rw [b2] at eb; cases eb
          exact (H.each j).away b o _ _ _ hb b1
    · have main : ∀ {j b o c o' b' c' s x s' x'}, j ≠ i → h'.at b = some o → (hs j).at c = some o' → e' b = some (b', s, x) → e' c = some (c', s', x') → (o.rw = true ∨ o'.rw = true) → b' ≠ c' := by
        intro j b o c o' b' c' s x s' x' hj hb hc eb ec hrw hE
        subst hE
        obtain ⟨_, _, _, ob, c1, c2, _⟩ := hlive j c o' hj hc
        rw [c2] at ec; cases ec
        rcases hrw with hrw | hrw
        · obtain ⟨_, _, _, _, d1, _, _, d4⟩ := H'.live b o hb
          rw [eb] at d1; cases d1
          have := d4 hrw
          rw [hat _ (hpim _ _ _ _ _ _ hj hc c1)] at this
          obtain ⟨_, _, _, _, f1, f2, _⟩ := (H.each j).live c o' hc
          rw [c1] at f1; cases f1
          rw [f2] at this; cases this
        · exact H'.away b o _ _ _ hb eb (.inr ⟨j, c, o', _, _, hj, hc, c1, hrw⟩)
      by_cases hj : j = i
      · subst hj
        rw [fset_same] at hb
        rw [fset_ne _ _ (Ne.symm hjl)] at hc
        exact main (Ne.symm hjl) hb hc eb ec hrw
      · rw [fset_ne _ _ hj] at hb
        by_cases hl : l = i
        · subst hl
          rw [fset_same] at hc
          exact (main hj hc hb ec eb hrw.symm).symm
        · rw [fset_ne _ _ hl] at hc
          obtain ⟨_, _, _, _, b1, b2, _⟩ := hlive j b o hj hb
          obtain ⟨_, _, _, _, c1, c2, _⟩ := hlive l c o' hl hc
          rw [b2] at eb; cases eb
          rw [c2] at ec; cases ec
          exact H.dj j l b o c o' _ _ _ _ _ _ hjl hb hc b1 c1 hrw

/-- a new object in a memory that was empty -/
theorem HRF.new (H : HRF P G K e hs nx w U) {i b : Nat} {o : AObj} {ob : Obj} (hi : hs i = .nil) (hU : U b) (hG : G ≤ b) (hK : ¬ K.un b) (ho : OR P e o 0 0 ob) :
    HRF P G K (e.set b (w.heap.size, 0, 0)) (fset hs i (Hp.put .nil b (some o))) nx (w.alloc ob) (fun c => U c ∧ c ≠ b) ∧ e.le (e.set b (w.heap.size, 0, 0)) := by
  obtain ⟨hbn, hb⟩ := H.un b hU
  have hle : e.le (e.set b (w.heap.size, 0, 0)) := Env.le_set hb
  have H0 := H.each i
  have H2 := H0.push ob hb hbn hG hK
  have hKn : K.at' w.heap.size = none := by
    cases hk : K.at' w.heap.size with
    | none => rfl
    | some o => exact absurd (lt_of_some (H0.keep _ _ hk)) (Nat.lt_irrefl _)
  have olde : ∀ {j c : Nat} {y : AObj}, (hs j).at c = some y → (e.set b (w.heap.size, 0, 0)) c = e c := by
    intro j c y hc
    have : c ≠ b := fun hE => by
      subst hE
      obtain ⟨_, _, _, _, a1, _⟩ := (H.each j).live c y hc
      rw [hb] at a1; cases a1
    simp [Env.set, this]
  have small : ∀ {j c : Nat} {y : AObj} {c' s x : Nat}, (hs j).at c = some y → e c = some (c', s, x) → c' < w.heap.size := by
    intro j c y c' s x hc ec
    obtain ⟨_, _, _, _, a1, a2, _⟩ := (H.each j).live c y hc
    rw [ec] at a1; cases a1
    exact lt_of_some a2
  have just : ∀ {c : Nat} {y : AObj}, (Hp.put .nil b (some o)).at c = some y → c = b ∧ y = o := by
    intro c y hc
    rcases Hp.at_put hc with ⟨rfl, hy⟩ | ⟨hne, hy⟩
    · cases hy; exact ⟨rfl, rfl⟩
    · cases (show none = some y from hy)
  refine ⟨⟨fun j => ?_, fun j l c y d y' c' d' s x s' x' hjl hc hd ec ed hrw => ?_, fun c hc => ?_⟩, hle⟩
  · by_cases hj : j = i
    · subst hj; rw [fset_same]
      refine ⟨?_, ?_, H2.keep, H2.glob, H2.fresh, ?_, H2.no, H2.un, H2.os, H2.output, H2.tape⟩
      · intro c y hc
        obtain ⟨rfl, rfl⟩ := just hc
        exact ⟨_, _, _, ob, Env.set_same _ _ _, (by show (w.heap.push ob)[w.heap.size]? = some ob; simp), ho.mono hle, fun _ => hKn⟩
      · intro c d y y' b' s x s' x' hc hd hrw ec ed
        exact (just hc).1.trans (just hd).1.symm
      · intro c y b' s x hc ec hn
        obtain ⟨rfl, rfl⟩ := just hc
        rw [Env.set_same] at ec; cases ec
        have := H0.no _ hn
        rw [hKn] at this; cases this
    · rw [fset_ne _ _ hj]; exact (H.each j).push ob hb hbn hG hK
  · by_cases hj : j = i
    · subst hj
      rw [fset_same] at hc
      rw [fset_ne _ _ (Ne.symm hjl)] at hd
      obtain ⟨rfl, rfl⟩ := just hc
      rw [Env.set_same] at ec; cases ec
      rw [olde hd] at ed
      exact Nat.ne_of_gt (small hd ed)
    · rw [fset_ne _ _ hj] at hc
      by_cases hl : l = i
      · subst hl
        rw [fset_same] at hd
        obtain ⟨rfl, rfl⟩ := just hd
        rw [Env.set_same] at ed; cases ed
        rw [olde hc] at ec
        exact Nat.ne_of_lt (small hc ec)
      · rw [fset_ne _ _ hl] at hd
        rw [olde hc] at ec; rw [olde hd] at ed
        exact H.dj j l c y d y' _ _ _ _ _ _ hjl hc hd ec ed hrw
  · obtain ⟨h1, h2⟩ := H.un c hc.1
    exact ⟨h1, by simp [Env.set, hc.2, h2]⟩

/-- an object of one memory is taken over by another one -/
theorem HRF.commit (H : HRF P G K e hs nx w U) {i j b : Nat} {o : AObj} (hij : i ≠ j) (hb : (hs j).at b = some o) :
    HRF P G K e (fset (fset hs i ((hs i).put b (some o))) j .nil) nx w U := by
  have nope : ∀ {c : Nat} {y : AObj}, Hp.at .nil c ≠ some y := fun {c y} hc => by cases (show none = some y from hc)
  have h0 : ∀ {c : Nat} {y : AObj}, ((hs i).put b (some o)).at c = some y → (c = b ∧ y = o) ∨ (hs i).at c = some y := by
    intro c y hc
    rcases Hp.at_put hc with ⟨rfl, hy⟩ | ⟨_, hy⟩
    · cases hy; exact .inl ⟨rfl, rfl⟩
    · exact .inr hy
  have mem : ∀ {l c : Nat} {y : AObj}, (fset (fset hs i ((hs i).put b (some o))) j .nil l).at c = some y → l ≠ j ∧ ((l = i ∧ c = b ∧ y = o) ∨ (hs l).at c = some y) := by
    intro l c y hc
    by_cases hl : l = j
    · subst hl; rw [fset_same] at hc; exact absurd hc nope
    · rw [fset_ne _ _ hl] at hc
      refine ⟨hl, ?_⟩
      by_cases hli : l = i
      · subst hli; rw [fset_same] at hc
        rcases h0 hc with ⟨h1, h2⟩ | h1
        · exact .inl ⟨rfl, h1, h2⟩
        · exact .inr h1
      · rw [fset_ne _ _ hli] at hc; exact .inr hc
  have Hi := H.each i
  refine ⟨fun l => ?_, fun l m c y d y' c' d' s x s' x' hlm hc hd ec ed hrw => ?_, H.un⟩
  · refine ⟨?_, ?_, Hi.keep, Hi.glob, Hi.fresh, ?_, Hi.no, Hi.un, Hi.os, Hi.output, Hi.tape⟩
    · intro c y hc
      obtain ⟨_, ⟨_, rfl, rfl⟩ | h1⟩ := mem hc
      · exact (H.each j).live _ _ hb
      · exact (H.each l).live _ _ h1
    · intro c d y y' b' s x s' x' hc hd hrw ec ed
      obtain ⟨hlj, ⟨hli, rfl, rfl⟩ | h1⟩ := mem hc
      · obtain ⟨_, ⟨_, rfl, rfl⟩ | h2⟩ := mem hd
        · rfl
        · exact absurd rfl (H.dj j l c y d y' _ _ _ _ _ _ (Ne.symm hlj) hb h2 ec ed (.inl hrw))
      · obtain ⟨_, ⟨_, rfl, rfl⟩ | h2⟩ := mem hd
        · exact absurd rfl (H.dj l j c y d y' _ _ _ _ _ _ hlj h1 hb ec ed (.inl hrw))
        · exact (H.each l).inj c d y y' _ _ _ _ _ h1 h2 hrw ec ed
    · intro c y b' s x hc ec
      obtain ⟨_, ⟨_, rfl, rfl⟩ | h1⟩ := mem hc
      · exact (H.each j).away _ _ _ _ _ hb ec
      · exact (H.each l).away _ _ _ _ _ h1 ec
  · obtain ⟨hlj, hc⟩ := mem hc
    obtain ⟨hmj, hd⟩ := mem hd
    rcases hc with ⟨rfl, rfl, rfl⟩ | h1
    · rcases hd with ⟨rfl, _, _⟩ | h2
      · exact absurd rfl hlm
      · exact H.dj j m c y d y' _ _ _ _ _ _ (Ne.symm hmj) hb h2 ec ed hrw
    · rcases hd with ⟨rfl, rfl, rfl⟩ | h2
      · exact H.dj l j c y d y' _ _ _ _ _ _ hlj h1 hb ec ed hrw
      · exact H.dj l m c y d y' _ _ _ _ _ _ hlm h1 h2 ec ed hrw

/-- one memory in two parts -/
theorem HR.split (H : HR P G K e h nx w) {ha hb : Hp} (h1 : ∀ b o, ha.at b = some o → h.at b = some o) (h2 : ∀ b o, hb.at b = some o → h.at b = some o)
    (h3 : ∀ b o o', ha.at b = some o → hb.at b = some o' → o.rw = false) : HRF P G K e (fset (fset (fun _ => .nil) 0 ha) 1 hb) nx w (fun _ => False) := by
  have mem : ∀ {l c : Nat} {y : AObj}, (fset (fset (fun _ => (.nil : Hp)) 0 ha) 1 hb l).at c = some y → (l = 0 ∧ ha.at c = some y) ∨ (l = 1 ∧ hb.at c = some y) := by
    intro l c y hc
    by_cases hl : l = 1
    · subst hl; rw [fset_same] at hc; exact .inr ⟨rfl, hc⟩
    · rw [fset_ne _ _ hl] at hc
      by_cases hl0 : l = 0
      · subst hl0; rw [fset_same] at hc; exact .inl ⟨rfl, hc⟩
      · rw [fset_ne _ _ hl0] at hc; cases (show none = some y from hc)
  have all : ∀ {l c : Nat} {y : AObj}, (fset (fset (fun _ => (.nil : Hp)) 0 ha) 1 hb l).at c = some y → h.at c = some y := by
    intro l c y hc
    rcases mem hc with ⟨_, hc⟩ | ⟨_, hc⟩
    · exact h1 _ _ hc
    · exact h2 _ _ hc
  refine ⟨fun l => H.sub fun b o hb => all hb, fun l m c y d y' c' d' s x s' x' hlm hc hd ec ed hrw hE => ?_, fun b hb => hb.elim⟩
  subst hE
  have hcd : c = d := by
    rcases hrw with hrw | hrw
    · exact H.inj c d y y' _ _ _ _ _ (all hc) (all hd) hrw ec ed
    · exact (H.inj d c y' y _ _ _ _ _ (all hd) (all hc) hrw ed ec).symm
  subst hcd
  have hyy : y = y' := by
    have := all hc
    rw [all hd] at this; cases this; rfl
  subst hyy
  have hno : y.rw = false := by
    rcases mem hc with ⟨l0, hc⟩ | ⟨l1, hc⟩
    · rcases mem hd with ⟨m0, hd⟩ | ⟨m1, hd⟩
      · exact absurd (l0.trans m0.symm) hlm
      · exact h3 _ _ _ hc hd
    · rcases mem hd with ⟨m0, hd⟩ | ⟨m1, hd⟩
      · exact h3 _ _ _ hd hc
      · exact absurd (l1.trans m1.symm) hlm
  rcases hrw with hrw | hrw <;> (rw [hno] at hrw; cases hrw)
/-- two memories as one -/
theorem HRF.union (H : HRF P G K e hs nx w U) {i j : Nat} {hu : Hp} (hij : i ≠ j) (h1 : ∀ b o, hu.at b = some o → (hs i).at b = some o ∨ (hs j).at b = some o) : HR P G K e hu nx w := by
  have Hi := H.each i
  refine ⟨fun b o hb => ?_, fun b c o o' b' s x s' x' hb hc hrw eb ec => ?_, Hi.keep, Hi.glob, Hi.fresh, fun b o b' s x hb eb => ?_, Hi.no, Hi.un, Hi.os, Hi.output, Hi.tape⟩
  · rcases h1 b o hb with hb | hb
    · exact Hi.live b o hb
    · exact (H.each j).live b o hb
  · rcases h1 b o hb with hb | hb <;> rcases h1 c o' hc with hc | hc
    · exact Hi.inj b c o o' _ _ _ _ _ hb hc hrw eb ec
    · exact absurd rfl (H.dj i j b o c o' _ _ _ _ _ _ hij hb hc eb ec (.inl hrw))
    · exact absurd rfl (H.dj j i b o c o' _ _ _ _ _ _ (Ne.symm hij) hb hc eb ec (.inl hrw))
    · exact (H.each j).inj b c o o' _ _ _ _ _ hb hc hrw eb ec
  · rcases h1 b o hb with hb | hb
    · exact Hi.away b o b' s x hb eb
    · exact (H.each j).away b o b' s x hb eb
end
end
end Go.Xm
namespace Go.Xm
noncomputable section

/-! ### tries, exactly -/
namespace Tr
variable {α : Type}
theorem get_single_same (g : Nat) : ∀ (f k : Nat) (x : Option α), k + 1 < 2 ^ f → (single f k x).get g k = x
  | 0, k, x, h => by simp at h
  | f + 1, k, x, h => by
    rw [Nat.pow_succ] at h
    rcases key_cases k with rfl | ⟨j, rfl⟩ | ⟨j, rfl⟩
    · rfl
    · rw [single_odd, get_odd]; exact get_single_same g f j x (by omega)
    · rw [single_even, get_even]; exact get_single_same g f j x (by omega)
theorem get_upd_same (f : Nat) : ∀ (t : Tr α) (k : Nat) (x : Option α), k + 1 < 2 ^ f → (t.upd f k x).get f k = x
  | .nil, k, x, h => get_single_same f f k x h
  | .node v l r, k, x, h => by
    rcases key_cases k with rfl | ⟨j, rfl⟩ | ⟨j, rfl⟩
    · rfl
    · rw [upd_odd, get_odd]; exact get_upd_same f l j x (by omega)
    · rw [upd_even, get_even]; exact get_upd_same f r j x (by omega)
theorem get_single_ne (g : Nat) : ∀ (f k : Nat) (x : Option α) (k' : Nat), k' ≠ k → (single f k x).get g k' = none
  | 0, _, _, _, _ => rfl
  | f + 1, k, x, k', h => by
    rcases key_cases k with rfl | ⟨j, rfl⟩ | ⟨j, rfl⟩ <;> rcases key_cases k' with rfl | ⟨i, rfl⟩ | ⟨i, rfl⟩ <;>
      simp only [single_zero, single_odd, single_even, get_zero, get_odd, get_even, get_nil] <;> first
      | exact absurd rfl h
      | exact get_single_ne g f j x i (by omega)
theorem get_upd_ne (f : Nat) : ∀ (t : Tr α) (k : Nat) (x : Option α) (k' : Nat), k' ≠ k → (t.upd f k x).get f k' = t.get f k'
  | .nil, k, x, k', h => get_single_ne f f k x k' h
  | .node v l r, k, x, k', h => by
    rcases key_cases k with rfl | ⟨j, rfl⟩ | ⟨j, rfl⟩ <;> rcases key_cases k' with rfl | ⟨i, rfl⟩ | ⟨i, rfl⟩ <;>
      simp only [upd_zero, upd_odd, upd_even, get_zero, get_odd, get_even] <;> first
      | exact absurd rfl h
      | exact get_upd_ne f l j x i (by omega)
      | exact get_upd_ne f r j x i (by omega)
end Tr

/-! ### an operation looks at its operands alone -/
theorem map_congr {r q : Operand → Value} {l : List Operand} (h : ∀ x ∈ l, r x = q x) : l.map r = l.map q := List.map_congr_left h
theorem aCall_congr {P : Program} {r q : Operand → Value} {c : Call} (h : ∀ x ∈ c.operands.toList, r x = q x) (hp : Hp) (n : Nat) : aCall P r c hp n = aCall P q c hp n := by
  have hargs : c.args.toList.map r = c.args.toList.map q := map_congr fun x hx => h x (by simp [Call.operands]; exact .inr (by simpa using hx))
  obtain ⟨cal, args, tys⟩ := c
  cases cal with
  | value f =>
    have hf : r f = q f := h f (by simp [Call.operands])
    simp only [aCall, hf] at hargs ⊢
    rw [hargs]
  | invoke x m =>
    have hf : r x = q x := h x (by simp [Call.operands])
    simp only [aCall, hf] at hargs ⊢
    rw [hargs]
  | builtin b =>
    have ha : ∀ x ∈ args.toList, r x = q x := fun x hx => h x (by simpa [Call.operands] using hx)
    simp only [aCall]
    unfold aBuiltin
    split
    · rename_i t x h1 h2
      rw [ha x (by rw [h2]; simp)]
    · rename_i s x h1
      rw [ha x (by rw [h1]; simp), ha s (by rw [h1]; simp)]
    · rename_i s x h1
      rw [ha x (by rw [h1]; simp), ha s (by rw [h1]; simp)]
    · rename_i s x h1
      rw [ha x (by rw [h1]; simp), ha s (by rw [h1]; simp)]
    · rename_i s x h1
      rw [ha x (by rw [h1]; simp), ha s (by rw [h1]; simp)]
    · rfl
    · rename_i x h1
      rw [ha x (by rw [h1]; simp)]
    · rfl
theorem aop_congr {P : Program} {r q : Operand → Value} {o : Op} (h : ∀ x ∈ o.operands.toList, r x = q x) (hp : Hp) (n : Nat) : aop P r o hp n = aop P q o hp n := by
  have ps : ∀ ps : Array (Nat × Operand), (∀ x ∈ ((ps.toList.map (·.2)).toArray).toList, r x = q x) → (ps.toList.map fun p => (p.1, r p.2)) = (ps.toList.map fun p => (p.1, q p.2)) := fun ps hps =>
    List.map_congr_left fun p hm => by
      rw [hps p.2 (by simp; exact ⟨p.1, by simpa using hm⟩)]
  cases o with
  | call c => exact aCall_congr h hp n
  | build t l => simp only [aop]; rw [ps l h]
  | buildSlice t k l => simp only [aop]; rw [ps l h]
  | makeFunc f first cap =>
    cases f with
    | func g =>
      simp only [aop]
      rw [map_congr (l := first.toList) fun x hx => h x (by simp [Op.operands]; exact .inl (by simpa using hx)), map_congr (l := cap.toList) fun x hx => h x (by simp [Op.operands]; exact .inr (by simpa using hx))]
    | _ => rfl
  | makeMap t z => cases z <;> rfl
  | slice t x lo hi mx =>
    cases mx with
    | some m =>
      simp only [aop]
      have hx : r x = q x := h x (by simp [Op.operands])
      have hm : r m = q m := h m (by simp [Op.operands])
      have hl : lo.map r = lo.map q := by
        cases lo with
        | none => rfl
        | some y => simp [h y (by simp [Op.operands])]
      have hh : hi.map r = hi.map q := by
        cases hi with
        | none => rfl
        | some y => simp [h y (by simp [Op.operands])]
      rw [hx, hl, hh, hm]
    | none =>
      simp only [aop]
      have hx : r x = q x := h x (by simp [Op.operands])
      have hl : lo.map r = lo.map q := by
        cases lo with
        | none => rfl
        | some y => simp [h y (by simp [Op.operands])]
      have hh : hi.map r = hi.map q := by
        cases hi with
        | none => rfl
        | some y => simp [h y (by simp [Op.operands])]
      rw [hx, hl, hh]
  | defer c =>
    simp only [aop]
    have hargs : c.args.toList.map r = c.args.toList.map q := map_congr fun x hx => h x (by simp [Op.operands, Call.operands]; exact .inr (by simpa using hx))
    obtain ⟨cal, args, tys⟩ := c
    cases cal with
    | value f =>
      have hf : r f = q f := h f (by simp [Op.operands, Call.operands])
      simp only [hf] at hargs ⊢
      rw [hargs]
    | _ => rfl
  | _ => first | rfl | (simp only [aop]; simp [Op.operands] at h; simp [h]; done)

/-! ### new objects under a name given -/
def atNew (id : Nat) (o : Option (Value × Hp × Nat)) : Option (Value × AObj) :=
  match o with
  | some (v, h, _) => match h.at id with | some o => some (v, o) | none => none
  | none => none
def aNewAt (P : Program) (r : Operand → Value) (op : Op) (id : Nat) : Option (Value × AObj) :=
  match op with
  | .alloc t => atNew id (aAlloc P .nil id t)
  | .box t x => atNew id (aBox .nil id t (r x))
  | .buildSlice t n ps => atNew id (aBuildSlice P .nil id t n (ps.toList.map fun p => (p.1, r p.2)))
  | .makeMap _ none => some (.map (some id), .map [] 0)
  | _ => none
section
variable {P : Program} {e : Env} {w : World}
/-- what a new object is, held against what it is here -/
def OKN (P : Program) (e : Env) (w : World) (r : Result Value) (id : Nat) (v : Value) (o : AObj) : Prop :=
  o.rw = true ∧ ∃ ob v', r = .ok v' (w.alloc ob) ∧ OR P e o 0 0 ob ∧ ∀ e2 : Env, e.le e2 → e2 id = some (w.heap.size, 0, 0) → VR e2 v v'
theorem just_put {id c : Nat} {o y : AObj} (h : (Hp.put .nil id (some o)).at c = some y) : c = id ∧ y = o := by
  rcases Hp.at_put h with ⟨rfl, hy⟩ | ⟨_, hy⟩
  · cases hy; exact ⟨rfl, rfl⟩
  · cases (show none = some y from hy)
theorem alloc_new {id : Nat} {elem : TypeId} {v : Value} {o : AObj} (hr : atNew id (aAlloc P .nil id elem) = some (v, o)) : OKN P e w ((Instr.alloc elem true (.tuple #[])).run P w) id v o := by
  unfold atNew at hr
  split at hr
  · rename_i v1 h1 n1 hr1
    split at hr
    · rename_i o1 ho
      cases hr
      unfold aAlloc at hr1
      split at hr1
      · rename_i i hi
        split at hr1
        · rename_i z hz
          split at hr1
          · rename_i cs hcs
            obtain ⟨hcl, h3⟩ := bif_some hr1
            cases h3
            obtain ⟨_, rfl⟩ := just_put ho
            have hv := cellsOf_vr (closed_vr 30 e z hcl) hcs
            refine ⟨rfl, .cells z.cells elem, .pointer (some ⟨w.heap.size, 0, none⟩), ?_, or_exact hv, fun e2 _ h2 => .ptr (s := 0) h2⟩
            simp only [Instr.alloc, Sem.run_bind, run_zeroValue hi hz, Result.andThen_ok, run_newVar, Sem.run_pure]
          · cases hr1
        · cases hr1
      · cases hr1
    · cases hr
  · cases hr
theorem box_new {id : Nat} {elem : TypeId} {x x' v : Value} {o : AObj} (hr : atNew id (aBox .nil id elem x) = some (v, o)) (hx : VR e x x') : OKN P e w ((Instr.box elem x').run P w) id v o := by
  unfold atNew at hr
  split at hr
  · rename_i v1 h1 n1 hr1
    split at hr
    · rename_i o1 ho
      cases hr
      unfold aBox at hr1
      split at hr1
      · rename_i cs hcs
        cases hr1
        obtain ⟨_, rfl⟩ := just_put ho
        refine ⟨rfl, .cells x'.cells elem, .pointer (some ⟨w.heap.size, 0, none⟩), ?_, or_exact (cellsOf_vr hx hcs), fun e2 _ h2 => .ptr (s := 0) h2⟩
        simp only [Instr.box, Sem.run_bind, Result.andThen_ok, run_newVar, Sem.run_pure]
      · cases hr1
    · cases hr
  · cases hr
theorem slice_new {id : Nat} {t : TypeId} {len : Nat} {l l' : List (Nat × Value)} {v : Value} {o : AObj} (hr : atNew id (aBuildSlice P .nil id t len l) = some (v, o)) (hl : PRs e l l') : OKN P e w ((Instr.buildSlice t len l'.toArray).run P w) id v o := by
  unfold atNew at hr
  split at hr
  · rename_i v1 h1 n1 hr1
    split at hr
    · rename_i o1 ho
      cases hr
      unfold aBuildSlice at hr1
      split at hr1
      · rename_i elem hu
        split at hr1
        · rename_i i hi
          split at hr1
          · rename_i z hz
            split at hr1
            · rename_i zs hzs
              cases hc : (closed 30 z && Nat.beq zs.length i.size && Nat.ble (Nat.mul len i.size) 16777216 && Nat.blt 0 (Nat.mul len i.size)) with
              | false => rw [hc] at hr1; simp at hr1
              | true =>
                rw [hc] at hr1
                simp only [cond_true] at hr1
                split at hr1
                · rename_i cs hcs
                  cases hr1
                  obtain ⟨_, rfl⟩ := just_put ho
                  simp only [Bool.and_eq_true] at hc
                  obtain ⟨⟨⟨hcl, hsz⟩, hle⟩, hpos⟩ := hc
                  have hsz := Nat.eq_of_beq_eq_true hsz
                  have hle : len * i.size ≤ 16777216 := Nat.le_of_ble_eq_true hle
                  have hpos : 0 < len * i.size := Nat.le_of_ble_eq_true hpos
                  have hzz := cellsOf_closed hzs
                  have hzsz : z.cells.size = i.size := by rw [← Array.length_toList, hzz, hsz]
                  have hzv : VRs e zs zs := by have := cellsOf_vr (closed_vr 30 e z hcl) hzs; rwa [hzz] at this
                  have hp : 0 < i.size := by
                    rcases Nat.eq_zero_or_pos i.size with h0 | h0
                    · rw [h0] at hpos; simp at hpos
                    · exact h0
                  have hfl : ((Array.range (len * i.size)).map (fun k => z.cells[k % i.size]!)).toList = (List.replicate len zs).flatten := by
                    rw [← hzsz, zeros_eq z.cells len (by rw [hzsz]; exact hp), hzz]
                  obtain ⟨out', r1, r2⟩ := fill_ok (place := fun k => some (k * i.size, i.size)) (cells' := (Array.range (len * i.size)).map (fun k => z.cells[k % i.size]!)) hl (by rw [hfl]; exact closed_flat hzv len) hcs
                  refine ⟨rfl, .cells out' elem, .slice (some ⟨w.heap.size, 0, none⟩) len len, ?_, or_exact r2, fun e2 _ h2 => .slice (s := 0) (x := 0) h2⟩
                  simp only [Instr.buildSlice, Sem.run_bind, run_underlying hu, Result.andThen_ok, run_sizeOf hi]
                  rw [if_neg (by omega), if_neg (by omega)]
                  simp only [Sem.run_bind, run_zeroValue hi hz, Result.andThen_ok, Sem.run_pure, hzsz, r1, newRow, run_newObj]
                  rfl
                · cases hr1
            · cases hr1
          · cases hr1
        · cases hr1
      · cases hr1
    · cases hr
  · cases hr
/-- the operation, where it makes an object -/
def OKNN (P : Program) (e : Env) (w : World) (r : Result Next) (id : Nat) (v : Value) (o : AObj) : Prop :=
  o.rw = true ∧ ∃ ob v', r = .ok (.value v') (w.alloc ob) ∧ OR P e o 0 0 ob ∧ ∀ e2 : Env, e.le e2 → e2 id = some (w.heap.size, 0, 0) → VR e2 v v'
theorem OKN.next {s : Sem Value} {id : Nat} {v : Value} {o : AObj} (h : OKN P e w (s.run P w) id v o) : OKNN P e w ((do pure (.value (← s)) : Sem Next).run P w) id v o := by
  obtain ⟨h0, ob, v', h1, h2, h3⟩ := h
  exact ⟨h0, ob, v', by simp only [Sem.run_bind, h1, Result.andThen_ok, Sem.run_pure], h2, h3⟩
theorem aNewAt_ok {rdx ρ : Operand → Value} (hρ : ∀ x, VR e (rdx x) (ρ x)) {o : Oper} {id : Nat} {v : Value} {ob : AObj} (hr : aNewAt P rdx o.op id = some (v, ob)) :
    OKNN P e w ((execOp ρ o).run P w) id v ob := by
  obtain ⟨dst, op, type, pos, after, guard⟩ := o
  dsimp only at hr
  cases op with
  | alloc t => exact (alloc_new hr).next
  | box t x => exact (box_new hr (hρ x)).next
  | buildSlice t n ps =>
    have := (slice_new (w := w) hr (map_pr hρ ps.toList)).next
    have he : (List.map (fun p => (p.1, ρ p.2)) ps.toList).toArray = ps.map (fun p => (p.1, ρ p.2)) := by apply Array.ext'; simp
    rw [he] at this
    exact this
  | makeMap t r =>
    cases r with
    | none =>
      cases hr
      refine ⟨rfl, .map #[] 0, .map (some w.heap.size), ?_, .map .nil, fun e2 _ h2 => .map (s := 0) (x := 0) h2⟩
      simp [execOp, Instr.makeMap]
    | some r => cases hr
  | _ => cases hr

/-- the machine's step, where an operation comes to a value -/
theorem step_value {cs : List Frame} {a a2 : AF} {fr : Frame} {rest : List AF} {fs : List Frame} {ops : Array Oper} {i : Nat} {l : List Nat} {k : List AI} {o : Oper} {e2 : Env} {v v' : Value} {w' : World}
    (hf : FR e a fr) (hr : FRs e rest fs) (htodo : a.todo = .it (.inRegion ops (i :: l)) :: k) (hmode : a.mode = .run) (ho : ops[i]? = some o) (hw : aWanted o ops.toList a.tm = some true) (hnd : isDefer o.op = false)
    (hrun : (execOp fr.eval o).run P w = .ok (.value v') w') (hle : e.le e2) (hv : VR e2 v v') (hfin : aFinish a v = some a2) :
    ∃ f', (stepG P true { frame := fr, callers := fs ++ cs, status := .running, dying := none } w).bare = .go { frame := f', callers := fs ++ cs, status := .running, dying := none } w' ∧ FRs e2 (a2 :: rest) (f' :: fs) := by
  refine ⟨fr.finish v', ?_, .cons (aFinish_ok hfin (hf.mono hle) hv) (hr.mono hle)⟩
  have hwc := wanted_ok hw hf.tm
  have h3 := hf.todo.resolve_left (fun h0 => h0.1 hmode)
  have h5 := hf.mode
  rw [htodo] at h3
  rw [hmode] at h5
  obtain ⟨fn, tmps, todo, defers, mode, kind, rnd⟩ := fr
  cases h3 with
  | cons hi hk =>
    cases hi
    cases h5
    simp only at hwc
    have hnd2 : ∀ c, o.op ≠ .defer c := fun c h => by rw [h] at hnd; cases hnd
    cases rnd with
    | none => simp [stepG, stepG.exec, ho, hwc, stepG.oper, Frame.oper?, stepG.apply, hrun]
    | some r => simp [stepG, stepG.exec, ho, hwc, stepG.oper, Frame.oper?, stepG.apply, hrun, hnd2]
end
end
end Go.Xm
namespace Go.Xm
noncomputable section
/-! ### the orders of a region -/
/-- a rest that goes on from what is done, each operation behind what it waits for -/
def Ext (ops : Array Oper) : List Nat → List Nat → Prop
  | L, [] => ∀ i, i < ops.size → i ∈ L
  | L, i :: l => i < ops.size ∧ i ∉ L ∧ (∀ o, ops[i]? = some o → ∀ e ∈ o.after, Region.binds .any e = true → e.on ∈ L) ∧ Ext ops (i :: L) l
def Back (ops : Array Oper) : Prop := ∀ i o, ops[i]? = some o → ∀ e ∈ o.after, Region.binds .any e = true → e.on < i
def left (n : Nat) (listed : Array Bool) : Nat := ((List.range n).filter fun j => !listed.getD j true).length

theorem left_set {n i : Nat} {listed : Array Bool} (hi : i < n) (hl : listed.getD i true = false) : left n (listed.setIfInBounds i true) + 1 ≤ left n listed := by
  unfold left
  have hlt : i < listed.size := by
    rcases Nat.lt_or_ge i listed.size with h | h
    · exact h
    · simp [Array.getD, Nat.not_lt.2 h] at hl
  have hsub : ∀ j, (!(listed.setIfInBounds i true).getD j true) = true → (!listed.getD j true) = true := by
    intro j hj
    by_cases hij : i = j
    · subst hij; simp [hlt] at hj
    · rwa [getD_set_ne true hij] at hj
  have key : ∀ l : List Nat, i ∈ l → l.Nodup → (l.filter fun j => !(listed.setIfInBounds i true).getD j true).length + 1 ≤ (l.filter fun j => !listed.getD j true).length := by
    intro l
    induction l with
    | nil => intro h; cases h
    | cons a l ih =>
      intro hm hnd
      have hnd' := List.nodup_cons.1 hnd
      have mono : (l.filter fun j => !(listed.setIfInBounds i true).getD j true).length ≤ (l.filter fun j => !listed.getD j true).length := by
        clear ih hm hnd hnd'
        induction l with
        | nil => exact Nat.le_refl _
        | cons b l ih2 =>
          simp only [List.filter_cons]
          by_cases hb : (!(listed.setIfInBounds i true).getD b true) = true
          · rw [if_pos hb, if_pos (hsub b hb)]; simpa using ih2
          · rw [if_neg hb]
            split
            · exact Nat.le_succ_of_le ih2
            · exact ih2
      simp only [List.filter_cons]
      rcases List.mem_cons.1 hm with rfl | hm
      · have h1 : ¬ (!(listed.setIfInBounds i true).getD i true) = true := by simp [hlt]
        have h2 : (!listed.getD i true) = true := by rw [hl]; rfl
        rw [if_neg h1, if_pos h2]
        simpa using mono
      · have ih := ih hm hnd'.2
        by_cases hb : (!(listed.setIfInBounds i true).getD a true) = true
        · rw [if_pos hb, if_pos (hsub a hb)]; simpa using ih
        · rw [if_neg hb]
          split
          · exact Nat.le_succ_of_le ih
          · exact ih
  exact key _ (List.mem_range.2 hi) List.nodup_range

theorem ext_go {ops : Array Oper} (hb : Back ops) : ∀ (fuel t : Nat) (listed : Array Bool) (L : List Nat), (∀ j, j < ops.size → (listed.getD j true = true ↔ j ∈ L)) → listed.size = ops.size → left ops.size listed ≤ fuel →
    Ext ops L (Region.linearise.go .any ops fuel t listed [])
  | 0, t, listed, L, hL, hsz, hf => by
    simp only [Region.linearise.go, List.reverse_nil, Ext]
    intro i hi
    refine (hL i hi).1 ?_
    cases hg : listed.getD i true with
    | true => rfl
    | false =>
      have := left_set hi hg
      omega
  | fuel + 1, t, listed, L, hL, hsz, hf => by
    have hget : ∀ j, j < ops.size → listed.getD j false = listed.getD j true := by
      intro j hj
      rw [← hsz] at hj
      simp [hj]
    simp only [Region.linearise.go]
    change Ext ops L (match (Region.ready .any ops listed)[t % (Region.ready .any ops listed).length]? with
      | some i => Region.linearise.go .any ops fuel (t / (Region.ready .any ops listed).length) (listed.setIfInBounds i true) [i]
      | none => [].reverse)
    cases hi : (Region.ready .any ops listed)[t % (Region.ready .any ops listed).length]? with
    | none =>
      have hnil : Region.ready .any ops listed = [] := by
        cases hr : Region.ready .any ops listed with
        | nil => rfl
        | cons x xs =>
          rw [hr] at hi
          have hlt : t % (x :: xs).length < (x :: xs).length := Nat.mod_lt _ (by simp)
          simp at hi
          simp at hlt
          omega
      show ∀ i, i < ops.size → i ∈ L
      have all : ∀ j, j < ops.size → listed.getD j true = true := by
        intro j
        induction j using Nat.strongRecOn with
        | _ j ih =>
          intro hj
          cases hg : listed.getD j true with
          | true => rfl
          | false =>
            have hm : j ∈ Region.ready .any ops listed := by
              rw [mem_ready]
              refine ⟨hg, ops[j], by simp [hj], fun e he hbd => ?_⟩
              have hlt := hb j ops[j] (by simp [hj]) e he hbd
              rw [hget _ (Nat.lt_trans hlt hj)]
              exact ih e.on hlt (Nat.lt_trans hlt hj)
            rw [hnil] at hm; cases hm
      exact fun i hi => (hL i hi).1 (all i hi)
    | some i =>
      simp only []
      rw [linearise_go_acc, List.reverse_singleton, List.singleton_append]
      obtain ⟨hun, o, ho, hall⟩ := mem_ready.1 (List.mem_of_getElem? hi)
      have hlt := lt_of_some ho
      refine ⟨hlt, fun hm => ?_, fun o' ho' e he hbd => ?_, ext_go hb fuel _ _ _ ?_ (by simp [hsz]) ?_⟩
      · rw [(hL i hlt).2 hm] at hun; cases hun
      · rw [ho] at ho'; cases ho'
        have hon := Nat.lt_trans (hb i o ho e he hbd) hlt
        have := hall e he hbd
        rw [hget _ hon] at this
        exact (hL _ hon).1 this
      · intro j hj
        by_cases hij : i = j
        · subst hij
          rw [← hsz] at hj
          simp [hj]
        · rw [getD_set_ne true hij, hL j hj]
          simp [Ne.symm hij]
      · have := left_set hlt hun
        omega

theorem ext_linearise {ops : Array Oper} (hb : Back ops) (t : Nat) : Ext ops [] (Region.linearise .any ops t) := by
  unfold Region.linearise
  refine ext_go hb _ _ _ _ ?_ (by simp) ?_
  · intro j hj; simp [hj]
  · unfold left
    exact Nat.le_trans (List.length_filter_le _ _) (by simp)
theorem ext_schedule {ops : Array Oper} (hb : Back ops) {mixed : Bool} (hd : (mixed || !Region.departs ops) = true) (t : Nat) : Ext ops [] (Region.schedule mixed ops t) := by
  unfold Region.schedule
  simp only [hd, if_true]
  exact ext_linearise hb t
end
end Go.Xm
namespace Go.Xm
noncomputable section
/-! ### a region run in any order -/
def ds (ops : Array Oper) (i : Nat) : Option Tmp := match ops[i]? with | some o => o.dst | none => none
def setD (ops : Array Oper) (tm : Tr Value) (i : Nat) (v : Value) : Tr Value := match ds ops i with | some d => tm.upd 12 d (some v) | none => tm
/-- what a table of variables says -/
def TF (ops : Array Oper) (tm0 : Tr Value) (v : Nat → Value) (L : Nat → Prop) (tm : Tr Value) : Prop :=
  (∀ j d, L j → ds ops j = some d → tm.get 12 d = some (v j)) ∧ (∀ t, (∀ j, ds ops j ≠ some t) → tm.get 12 t = tm0.get 12 t)
theorem TF.mono {ops : Array Oper} {tm0 tm : Tr Value} {v : Nat → Value} {L L' : Nat → Prop} (h : TF ops tm0 v L tm) (hl : ∀ j, L' j → L j) : TF ops tm0 v L' tm :=
  ⟨fun j d hj hd => h.1 j d (hl j hj) hd, h.2⟩
theorem TF.set {ops : Array Oper} {tm0 tm : Tr Value} {v : Nat → Value} {L : Nat → Prop} (h : TF ops tm0 v L tm) {i : Nat} (hlt : ∀ d, ds ops i = some d → d + 1 < 4096) (hinj : ∀ i j d, ds ops i = some d → ds ops j = some d → i = j) :
    TF ops tm0 v (fun j => j = i ∨ L j) (setD ops tm i (v i)) := by
  unfold setD
  cases hd : ds ops i with
  | none =>
    refine ⟨fun j d hj hjd => ?_, h.2⟩
    rcases hj with rfl | hj
    · rw [hd] at hjd; cases hjd
    · exact h.1 j d hj hjd
  | some d =>
    refine ⟨fun j d' hj hjd => ?_, fun t ht => ?_⟩
    · by_cases hji : j = i
      · subst hji
        rw [hd] at hjd; cases hjd
        exact Tr.get_upd_same 12 tm d _ (hlt d hd)
      · have hne : d' ≠ d := fun hE => hji (hinj j i d' hjd (hE ▸ hd))
        rw [Tr.get_upd_ne 12 tm d _ d' hne]
        rcases hj with hj | hj
        · exact absurd hj hji
        · exact h.1 j d' hj hjd
    · have hne : t ≠ d := fun hE => ht i (hE ▸ hd)
      rw [Tr.get_upd_ne 12 tm d _ t hne]
      exact h.2 t ht

/-- a map's object with one entry more, or another value of one -/
def aMapOne (P : Program) (t : TypeId) (o : AObj) (k v : Value) : Option AObj :=
  match P.underlying t, o with
  | some (.map kt _), .map es clock =>
    match P.underlying kt with
    | some d =>
      bif keyOk P kt d k then
        match aFindT P kt d k es 0 with
        | some (some (i, _)) => match es[i]? with
          | some x => some (.map (es.set i ⟨k, v, x.born⟩) clock)
          | none => none
        | some none => some (.map (es ++ [⟨k, v, clock⟩]) (Nat.add clock 1))
        | none => none
      else none
    | none => none
  | _, _ => none
theorem aMapOne_ok {P : Program} {t : TypeId} {o o2 : AObj} {k v : Value} {h : Hp} {r : Nat} (h1 : aMapOne P t o k v = some o2) (hat : h.at r = some o) : aMapUpdate P h t (.map (some r)) k v = some (h.put r (some o2)) := by
  unfold aMapOne at h1
  unfold aMapUpdate
  split at h1
  · rename_i kt el es clock hu
    rw [hu]
    dsimp only
    split at h1
    · rename_i d hd
      rw [hd, hat]
      dsimp only
      cases hk : keyOk P kt d k with
      | false => rw [hk] at h1; cases h1
      | true =>
        rw [hk] at h1
        simp only [cond_true] at h1 ⊢
        cases hf : aFindT P kt d k es 0 with
        | none => rw [hf] at h1; cases h1
        | some q =>
          rw [hf] at h1
          cases q with
          | none => cases h1; rfl
          | some q =>
            obtain ⟨i, y⟩ := q
            dsimp only at h1 ⊢
            cases he : es[i]? with
            | none => rw [he] at h1; cases h1
            | some x => rw [he] at h1; cases h1; rfl
    · cases h1
  · cases h1
def insAt (P : Program) (t : TypeId) (b : Nat) (ob : AObj) (m k v : Value) : Option AObj :=
  match m with
  | .map (some c) => bif Nat.beq c b then aMapOne P t ob k v else none
  | _ => none
def aInsAt (P : Program) (r : Operand → Value) (op : Op) (b : Nat) (ob : AObj) : Option AObj :=
  match op with
  | .mapUpdate t m k v => insAt P t b ob (r m) (r k) (r v)
  | .insert t m k v => insAt P t b ob (r m) (r k) (r v)
  | _ => none
theorem insAt_ok {P : Program} {t : TypeId} {b : Nat} {ob o2 : AObj} {m k v : Value} {h : Hp} (h1 : insAt P t b ob m k v = some o2) (hat : h.at b = some ob) : aMapUpdate P h t m k v = some (h.put b (some o2)) := by
  unfold insAt at h1
  split at h1
  · rename_i c
    cases hc : Nat.beq c b with
    | false => rw [hc] at h1; cases h1
    | true =>
      rw [hc] at h1
      have := Nat.eq_of_beq_eq_true hc
      subst this
      exact aMapOne_ok h1 hat
  · cases h1
theorem aInsAt_ok {P : Program} {r : Operand → Value} {op : Op} {b : Nat} {ob o2 : AObj} {h : Hp} (h1 : aInsAt P r op b ob = some o2) (hat : h.at b = some ob) (nx : Nat) : aop P r op h nx = .val (.tuple #[]) (h.put b (some o2)) nx := by
  cases op with
  | mapUpdate t m k v => simp only [aop, insAt_ok h1 hat, ofH]
  | insert t m k v => simp only [aop, insAt_ok h1 hat, ofH]
  | _ => cases h1

/-- the plan of a region -/
structure Pl where
  anc : Nat → Nat → Bool
  v : Nat → Value
  obj : Nat → Option AObj
  own : Nat → Option Nat
  pv : Nat → Nat
  ob : Nat → AObj
  m : Nat
  es : Nat → Nat
  stg : Nat → Hp × Nat
  cm : Nat → List (Nat × Nat × AObj)
  b0 : Nat
def putUn (b0 : Nat) : List (Nat × Nat × AObj) → Hp → Hp
  | [], h => h
  | x :: l, h => putUn b0 l (h.put (Nat.add b0 x.1) (some x.2.2))
/-- who has touched an object -/
def Tch (p : Pl) (j t : Nat) : Prop := t = j ∨ p.own t = some j
/-- the last one that has, so far -/
def Top (p : Pl) (L : List Nat) (j t : Nat) : Prop := t ∈ L ∧ Tch p j t ∧ ∀ i, i ∈ L → p.own i = some j → p.pv i ≠ t
theorem Top.back {p : Pl} {L : List Nat} {i j t : Nat} (ho : p.own i = none) (hj : i ≠ j) (h : Top p (i :: L) j t) : Top p L j t := by
  obtain ⟨h1, h2, h3⟩ := h
  refine ⟨?_, h2, fun i' hi' => h3 i' (List.mem_cons_of_mem _ hi')⟩
  rcases List.mem_cons.1 h1 with rfl | h1
  · rcases h2 with h2 | h2
    · exact absurd h2 hj
    · rw [ho] at h2; cases h2
  · exact h1

section
variable (P : Program) (G : Nat) (ops : Array Oper) (fn : FuncId) (tm0 : Tr Value) (nt : Nat) (k : List AI) (dfr : List ADef) (kind : CallKind) (rnd : Option Nat) (rest : List AF) (p : Pl)

def QOk (i : Nat) (o : Oper) : Prop :=
  p.obj i = none ∧ p.own i = none ∧ (∀ q, q < p.m → p.es q ≠ i) ∧ ∀ tm, TF ops tm0 p.v (fun j => p.anc i j = true) tm →
    (aWanted o ops.toList tm = some false ∧ p.v i = .tuple #[]) ∨
    (aWanted o ops.toList tm = some true ∧ isDefer o.op = false ∧ ∀ s, s ≤ p.m → (∀ q, q < p.m → p.anc i (p.es q) = true → q < s) → (∀ q, q < p.m → p.anc (p.es q) i = true → s ≤ q) →
      aop P (rd G tm) o.op (p.stg s).1 (p.stg s).2 = .val (p.v i) (p.stg s).1 (p.stg s).2)
def NOk (i : Nat) (o : Oper) : Prop :=
  p.obj i = some (p.ob i) ∧ p.own i = none ∧ (∀ q, q < p.m → p.es q ≠ i) ∧ isDefer o.op = false ∧ ∀ tm, TF ops tm0 p.v (fun j => p.anc i j = true) tm →
    aWanted o ops.toList tm = some true ∧ aNewAt P (rd G tm) o.op (Nat.add p.b0 i) = some (p.v i, p.ob i)
def IOk (i : Nat) (o : Oper) : Prop :=
  p.obj i = none ∧ (∀ q, q < p.m → p.es q ≠ i) ∧ isDefer o.op = false ∧ p.v i = .tuple #[] ∧ ∃ j, p.own i = some j ∧ ∀ tm, TF ops tm0 p.v (fun j => p.anc i j = true) tm →
    aWanted o ops.toList tm = some true ∧ aInsAt P (rd G tm) o.op (Nat.add p.b0 j) (p.ob (p.pv i)) = some (p.ob i)
def EOk (i : Nat) : Prop :=
  p.obj i = none ∧ p.own i = none ∧ ∃ q, q < p.m ∧ p.es q = i ∧ ∀ tm l, TF ops tm0 p.v (fun j => p.anc i j = true) tm →
    Leads P G (mkS fn tm nt (.it (.inRegion ops (i :: l)) :: k) dfr kind rnd rest (putUn p.b0 (p.cm q) (p.stg q).1) (p.stg q).2)
      [mkS fn (setD ops tm i (p.v i)) nt (.it (.inRegion ops l) :: k) dfr kind rnd rest (p.stg (q + 1)).1 (p.stg (q + 1)).2]

structure PlOk : Prop where
  back : Back ops
  ndep : (P.follows .mixedOrders || !Region.departs ops) = true
  anc_ok : ∀ i o, ops[i]? = some o → ∀ j, p.anc i j = true → ∃ e ∈ o.after, Region.binds .any e = true ∧ (j = e.on ∨ p.anc e.on j = true)
  dst_lt : ∀ i d, ds ops i = some d → d + 1 < 4096 ∧ d < nt
  dst_inj : ∀ i j d, ds ops i = some d → ds ops j = some d → i = j
  es_inj : ∀ a b, a < p.m → b < p.m → p.es a = p.es b → a = b
  es_ord : ∀ a b, a < b → b < p.m → p.anc (p.es b) (p.es a) = true
  nx_le : ∀ s, s ≤ p.m → Nat.add p.b0 ops.size ≤ (p.stg s).2
  hG : G ≤ p.b0
  small : Nat.add p.b0 ops.size < 2 ^ 39
  es_lt : ∀ q, q < p.m → p.es q < ops.size
  each : ∀ i o, ops[i]? = some o → QOk P G ops tm0 p i o ∨ NOk P G ops tm0 p i o ∨ IOk P G ops tm0 p i o ∨ EOk P G ops fn tm0 nt k dfr kind rnd rest p i
  own_ok : ∀ i j, p.own i = some j → i < ops.size ∧ j < i ∧ (p.obj j).isSome = true ∧ Tch p j (p.pv i) ∧ p.pv i < i ∧ p.anc i (p.pv i) = true ∧ ∀ t, Tch p j t → t < i → t ≤ p.pv i
  cm_ok : ∀ s x, s ≤ p.m → x ∈ p.cm s → (p.obj x.1).isSome = true ∧ p.ob x.2.1 = x.2.2 ∧ Tch p x.1 x.2.1 ∧ ∀ t, Tch p x.1 t → t ≤ x.2.1
  cm_anc : ∀ s x, s < p.m → x ∈ p.cm s → p.anc (p.es s) x.2.1 = true
  cm_inj : ∀ s s' x x', s ≤ p.m → s' ≤ p.m → x ∈ p.cm s → x' ∈ p.cm s' → x.1 = x'.1 → s = s'
  cm_nd : ∀ s, ((p.cm s).map (·.1)).Nodup
  cm_lt : ∀ j o, p.obj j = some o → j < ops.size

/-- where a run of the region stands -/
structure RInv (L l : List Nat) (s : Nat) (K : Kp) (cs : List Frame) (e : Env) (M : Machine) : Prop where
  unlt : ∀ b, K.un b → b < p.b0
  ex : ∃ fr fs w tm hs, M = lone fr (fs ++ cs) w ∧ FR e ⟨fn, tm, nt, .it (.inRegion ops l) :: k, dfr, .run, kind, rnd⟩ fr ∧ FRs e rest fs ∧
    HRF P G K e hs (p.stg s).2 w (fun b => ∃ j, b = p.b0 + j ∧ (p.obj j).isSome = true ∧ j ∉ L) ∧ hs 0 = (p.stg s).1 ∧ TF ops tm0 p.v (fun j => j ∈ L) tm ∧
    (∀ j t, (p.obj j).isSome = true → Top p L j t → (∀ q, q < s → ∀ x, x ∈ p.cm q → x.1 ≠ j) → (hs (j + 1)).at (p.b0 + j) = some (p.ob t)) ∧
    (∀ j o, p.obj j = some o → j ∉ L → hs (j + 1) = .nil)

variable {P G ops fn tm0 nt k dfr kind rnd rest p}

theorem finish_eq {tm : Tr Value} {i : Nat} {l : List Nat} {o : Oper} (ho : ops[i]? = some o) (hlt : ∀ d, ds ops i = some d → d < nt) (v : Value) :
    aFinish ⟨fn, tm, nt, .it (.inRegion ops (i :: l)) :: k, dfr, .run, kind, rnd⟩ v = some ⟨fn, setD ops tm i v, nt, .it (.inRegion ops l) :: k, dfr, .run, kind, rnd⟩ := by
  have ho' : ops.toList[i]? = some o := by rw [Array.getElem?_toList]; exact ho
  unfold ds at hlt
  rw [ho] at hlt
  simp only [aFinish, ho', setD, ds, ho]
  cases hd : o.dst with
  | none => rfl
  | some d =>
    have : Nat.blt d nt = true := by
      have := hlt d hd
      exact Nat.ble_eq_true_of_le this
    simp only [setTm, this, cond_true]

theorem step_quiet {tm : Tr Value} {i : Nat} {l : List Nat} {o : Oper} {h : Hp} {nx : Nat} {v : Value} (ho : ops[i]? = some o) (hlt : ∀ d, ds ops i = some d → d < nt)
    (hw : (aWanted o ops.toList tm = some false ∧ v = .tuple #[]) ∨ (aWanted o ops.toList tm = some true ∧ isDefer o.op = false ∧ aop P (rd G tm) o.op h nx = .val v h nx)) :
    astep P G (mkS fn tm nt (.it (.inRegion ops (i :: l)) :: k) dfr kind rnd rest h nx) = .one (mkS fn (setD ops tm i v) nt (.it (.inRegion ops l) :: k) dfr kind rnd rest h nx) := by
  have ho' : ops.toList[i]? = some o := by rw [Array.getElem?_toList]; exact ho
  have hfin := finish_eq (fn := fn) (k := k) (dfr := dfr) (kind := kind) (rnd := rnd) (tm := tm) (l := l) ho hlt v
  rcases hw with ⟨h1, rfl⟩ | ⟨h1, h2, h3⟩
  · simp only [astep, mkS, aExec, ho', h1, hfin]
  · simp only [astep, mkS, aExec, ho', h1, h2, Bool.false_and, cond_false, h3, aApply, hfin]

/-- what one memory's work comes to, for the whole -/
theorem lead_mem {K : Kp} {cs : List Frame} {e : Env} {fr : Frame} {fs : List Frame} {w : World} {hs : Nat → Hp} {nx : Nat} {U : Nat → Prop} {a a2 : AF} {rest2 : List AF} {h2 : Hp} {nx2 : Nat} (i : Nat)
    (hl : Leads P G ⟨a :: rest, hs i, nx⟩ [⟨a2 :: rest2, h2, nx2⟩]) (hG : G ≤ nx) (hf : FR e a fr) (hr : FRs e rest fs) (H : HRF P G K e hs nx w U) :
    ∃ e' fr' fs' w', e.le e' ∧ Steps P (lone fr (fs ++ cs) w) (lone fr' (fs' ++ cs) w') ∧ FR e' a2 fr' ∧ FRs e' rest2 fs' ∧ HRF P G K e' (fset hs i h2) nx2 w' U := by
  obtain ⟨K2, H2, hback⟩ := H.run i
  obtain ⟨S', hm, e', M', hle, hst, f', fs', w', rfl, hF, hH, _⟩ := hl K2 cs e _ ⟨fr, fs, w, rfl, .cons hf hr, H2, hG⟩
  rw [List.mem_singleton.1 hm] at hF hH
  cases hF with
  | cons h1 h2 => exact ⟨e', f', fs', w', hle, hst, h1, h2, hback e' _ _ w' hle hH⟩
theorem HRF.weakU {K : Kp} {e : Env} {hs : Nat → Hp} {nx : Nat} {w : World} {U U' : Nat → Prop} (H : HRF P G K e hs nx w U) (h : ∀ b, U' b → U b) : HRF P G K e hs nx w U' :=
  ⟨H.each, H.dj, fun b hb => H.un b (h b hb)⟩

theorem commit_all {b0 : Nat} {K : Kp} {e : Env} {nx : Nat} {w : World} {U : Nat → Prop} : ∀ (c : List (Nat × Nat × AObj)) (hs : Nat → Hp), (c.map (·.1)).Nodup → (∀ x, x ∈ c → (hs (x.1 + 1)).at (b0 + x.1) = some x.2.2) →
    HRF P G K e hs nx w U → ∃ hs', HRF P G K e hs' nx w U ∧ hs' 0 = putUn b0 c (hs 0) ∧ ∀ j, (∀ x, x ∈ c → x.1 ≠ j) → hs' (j + 1) = hs (j + 1)
  | [], hs, _, _, H => ⟨hs, H, rfl, fun _ _ => rfl⟩
  | (j, t, o) :: c, hs, hn, ho, H => by
    rw [List.map_cons] at hn
    obtain ⟨hj, hn⟩ := List.nodup_cons.1 hn
    have h2 := ho (j, t, o) List.mem_cons_self
    have H1 := H.commit (i := 0) (j := j + 1) (by omega) h2
    obtain ⟨hs', H', h3, h4⟩ := commit_all (b0 := b0) c (fset (fset hs 0 ((hs 0).put (b0 + j) (some o))) (j + 1) .nil) hn (fun x hx => by
      have a2 := ho x (List.mem_cons_of_mem _ hx)
      have hlj : x.1 ≠ j := fun hE => hj (hE ▸ List.mem_map.2 ⟨x, hx, rfl⟩)
      rw [fset_ne _ _ (by omega), fset_ne _ _ (by omega)]; exact a2) H1
    refine ⟨hs', H', ?_, fun l hl => ?_⟩
    · rw [h3, fset_ne _ _ (by omega), fset_same]
      rfl
    · have hlj : l ≠ j := fun hE => hl (j, t, o) List.mem_cons_self hE.symm
      rw [h4 l (fun x hm => hl x (List.mem_cons_of_mem _ hm)), fset_ne _ _ (by omega), fset_ne _ _ (by omega)]

/-- below who has touched an object stand all who did so before -/
theorem desc (hp : PlOk P G ops fn tm0 nt k dfr kind rnd rest p) {L : List Nat} {j t0 : Nat} (hcl : ∀ i, i ∈ L → ∀ j, p.anc i j = true → j ∈ L) (h0 : Tch p j t0) : ∀ t, Tch p j t → t ∈ L → t0 < t → t0 ∈ L ∧ ∃ i, i ∈ L ∧ p.own i = some j ∧ p.pv i = t0 := by
  intro t
  induction t using Nat.strongRecOn with
  | _ t ih =>
    intro ht hL hlt
    have hown : p.own t = some j := by
      rcases ht with rfl | ht
      · rcases h0 with rfl | h0
        · omega
        · have := (hp.own_ok t0 _ h0).2.1
          omega
      · exact ht
    obtain ⟨_, _, _, a4, a5, a6, a7⟩ := hp.own_ok t j hown
    have hpL := hcl t hL _ a6
    rcases Nat.lt_or_ge t0 (p.pv t) with h | h
    · exact ih _ a5 a4 hpL h
    · have : t0 = p.pv t := Nat.le_antisymm (a7 t0 h0 hlt) h
      subst this
      exact ⟨hpL, t, hL, hown, rfl⟩

theorem region_run (hN : NamesOk P) (hp : PlOk P G ops fn tm0 nt k dfr kind rnd rest p) : ∀ (l L : List Nat) (s : Nat) (K : Kp) (cs : List Frame) (e : Env) (M : Machine), Ext ops L l →
    (∀ i, i ∈ L → ∀ j, p.anc i j = true → j ∈ L) → s ≤ p.m → (∀ q, q < p.m → (p.es q ∈ L ↔ q < s)) → RInv P G ops fn tm0 nt k dfr kind rnd rest p L l s K cs e M →
    ∃ e' M' L', e.le e' ∧ Steps P M M' ∧ RInv P G ops fn tm0 nt k dfr kind rnd rest p L' [] p.m K cs e' M' ∧ (∀ i, i ∈ L' → ∀ j, p.anc i j = true → j ∈ L') ∧ ∀ i, i < ops.size → i ∈ L'
  | [], L, s, K, cs, e, M, hx, hcl, hs, he, hI => by
    have hall : ∀ i, i < ops.size → i ∈ L := hx
    have : s = p.m := by
      rcases Nat.lt_or_ge s p.m with hlt | hge
      · have := (he s hlt).1 (hall _ (hp.es_lt s hlt))
        omega
      · omega
    subst this
    exact ⟨e, M, L, e.le_refl, .refl P M, hI, hcl, hall⟩
  | i :: l, L, s, K, cs, e, M, hx, hcl, hs, he, hI => by
    obtain ⟨hi, hiL, hpre, hx'⟩ := hx
    obtain ⟨hun, fr, fs, w, tm, hs', rfl, hf, hr, H, h0, hT, hpe, hnl⟩ := hI
    have ho : ops[i]? = some ops[i] := by simp [hi]
    have hanc : ∀ j, p.anc i j = true → j ∈ L := by
      intro j hj
      obtain ⟨ed, hed, hb, hor⟩ := hp.anc_ok i _ ho j hj
      have hon := hpre _ ho ed hed hb
      rcases hor with rfl | hor
      · exact hon
      · exact hcl _ hon j hor
    have hcl' : ∀ a, a ∈ i :: L → ∀ j, p.anc a j = true → j ∈ i :: L := by
      intro a ha j hj
      rcases List.mem_cons.1 ha with rfl | ha
      · exact List.mem_cons_of_mem _ (hanc j hj)
      · exact List.mem_cons_of_mem _ (hcl a ha j hj)
    have hTi : TF ops tm0 p.v (fun j => p.anc i j = true) tm := hT.mono hanc
    have hltn : ∀ d, ds ops i = some d → d < nt := fun d hd => (hp.dst_lt i d hd).2
    have hT' : TF ops tm0 p.v (fun j => j ∈ i :: L) (setD ops tm i (p.v i)) := by
      refine (hT.set (i := i) (fun d hd => (hp.dst_lt i d hd).1) hp.dst_inj).mono ?_
      intro j hj
      exact List.mem_cons.1 hj
    have hnx := hp.nx_le s hs
    have hGn : G ≤ (p.stg s).2 := by have := hp.hG; simp only [Nat.add_eq] at hnx; omega
    have he' : (∀ q, q < p.m → p.es q ≠ i) → ∀ q, q < p.m → (p.es q ∈ i :: L ↔ q < s) := fun q2 q hq => by
      rw [← he q hq]
      constructor
      · intro hm
        rcases List.mem_cons.1 hm with hE | hm
        · exact absurd hE (q2 q hq)
        · exact hm
      · exact List.mem_cons_of_mem _
    have hnn : p.obj i = none → ∀ {j : Nat}, (p.obj j).isSome = true → i ≠ j := fun h j hj hE => by
      rw [← hE, h] at hj; cases hj
    rcases hp.each i _ ho with ⟨q1, q1', q2, q3⟩ | ⟨n1, n1', n2, n3, n4⟩ | ⟨i1, i2, i3, i4, j0, i5, i6⟩ | ⟨e1, e1', q, e2, e3, e4⟩
    · -- quiet
      have hst := step_quiet (P := P) (G := G) (fn := fn) (k := k) (dfr := dfr) (kind := kind) (rnd := rnd) (rest := rest) (tm := tm) (l := l) (h := (p.stg s).1) (nx := (p.stg s).2) (v := p.v i) ho hltn (by
        rcases q3 tm hTi with h1 | ⟨h1, h2, h3⟩
        · exact .inl h1
        · refine .inr ⟨h1, h2, h3 s hs (fun q hq ha => (he q hq).1 (hanc _ ha)) (fun q hq ha => ?_)⟩
          rcases Nat.lt_or_ge q s with hlt | hge
          · exact absurd (hcl _ ((he q hq).2 hlt) i ha) hiL
          · exact hge)
      have hl : Leads P G ⟨⟨fn, tm, nt, .it (.inRegion ops (i :: l)) :: k, dfr, .run, kind, rnd⟩ :: rest, hs' 0, (p.stg s).2⟩ [⟨⟨fn, setD ops tm i (p.v i), nt, .it (.inRegion ops l) :: k, dfr, .run, kind, rnd⟩ :: rest, (p.stg s).1, (p.stg s).2⟩] := by
        rw [h0]; exact Leads.step hN hst (Leads.refl _)
      obtain ⟨e', fr', fs', w', hle, hsteps, hf', hr', H'⟩ := lead_mem (cs := cs) 0 hl hGn hf hr H
      obtain ⟨e2, M2, L2, k1, k2, k3, k4⟩ := region_run hN hp l (i :: L) s K cs e' _ hx' hcl' hs (he' q2)
        ⟨hun, fr', fs', w', _, _, rfl, hf', hr', H'.weakU (fun b ⟨j, a1, a2, a3⟩ => ⟨j, a1, a2, fun hm => a3 (List.mem_cons_of_mem _ hm)⟩), fset_same _ _ _, hT', fun j t a1 a2 a3 => by
          rw [fset_ne _ _ (by omega)]
          exact hpe j t a1 (a2.back q1' (hnn q1 a1)) a3, fun j o a1 a2 => by
          rw [fset_ne _ _ (by omega)]
          exact hnl j o a1 (fun hm => a2 (List.mem_cons_of_mem _ hm))⟩
      exact ⟨e2, M2, L2, Env.le_trans hle k1, hsteps.trans k2, k3, k4⟩
    · -- a new object
      obtain ⟨hw, hnew⟩ := n4 tm hTi
      obtain ⟨hrw, obj, v', hrun, hOR, hVR⟩ := aNewAt_ok (w := w) (ρ := fr.eval) (fun x => TR.rdx (H.each 0) hf.tm x) hnew
      have hbi : Nat.add p.b0 i = p.b0 + i := rfl
      rw [hbi] at hVR
      have hGb : G ≤ p.b0 + i := by have := hp.hG; omega
      have hKb : ¬ K.un (p.b0 + i) := fun hu => by have := hun _ hu; omega
      obtain ⟨H', hle⟩ := H.new (i := i + 1) (b := p.b0 + i) (hnl i _ n1 hiL) ⟨i, rfl, by rw [n1]; rfl, hiL⟩ hGb hKb hOR
      obtain ⟨f', hst, hF⟩ := step_value (cs := cs) (w := w) hf hr rfl rfl ho hw n3 hrun hle (hVR _ hle (Env.set_same _ _ _)) (finish_eq ho hltn (p.v i))
      cases hF with
      | cons hf' hr' =>
        obtain ⟨e2, M2, L2, k1, k2, k3, k4⟩ := region_run hN hp l (i :: L) s K cs _ _ hx' hcl' hs (he' n2)
          ⟨hun, f', fs, _, _, _, rfl, hf', hr', H'.weakU (fun b ⟨j, a1, a2, a3⟩ => ⟨⟨j, a1, a2, fun hm => a3 (List.mem_cons_of_mem _ hm)⟩, fun hE => a3 (by
              have : j = i := by omega
              exact this ▸ List.mem_cons_self)⟩), by rw [fset_ne _ _ (by omega)]; exact h0, hT', fun j t a1 a2 a3 => by
            by_cases hji : i = j
            · subst hji
              have hti : t = i := by
                obtain ⟨b1, b2, _⟩ := a2
                rcases List.mem_cons.1 b1 with h | h
                · exact h
                · exfalso
                  rcases b2 with b2 | b2
                  · exact hiL (b2 ▸ h)
                  · exact hiL (desc hp hcl (.inl rfl) t (.inr b2) h (hp.own_ok t _ b2).2.1).1
              subst hti
              rw [fset_same]
              have hsm := hp.small
              simp only [Nat.add_eq] at hsm
              exact Tr.get_upd_same 40 .nil (p.b0 + t) (some (p.ob t)) (by
                have : (2 : Nat) ^ 39 < 2 ^ 40 := by decide
                omega)
            · rw [fset_ne _ _ (by omega)]
              exact hpe j t a1 (a2.back n1' hji) a3, fun j o a1 a2 => by
            have hji : j ≠ i := fun hE => a2 (hE ▸ List.mem_cons_self)
            rw [fset_ne _ _ (by omega)]
            exact hnl j o a1 (fun hm => a2 (List.mem_cons_of_mem _ hm))⟩
        exact ⟨e2, M2, L2, Env.le_trans hle k1, .head (step_lone_go hst) k2, k3, k4⟩
    · -- one more entry of a map that nobody else has yet
      obtain ⟨hw, hins⟩ := i6 tm hTi
      obtain ⟨o1, o2, o3, o4, o5, o6, o7⟩ := hp.own_ok i j0 i5
      have hpvL := hanc _ o6
      have htop : Top p L j0 (p.pv i) := ⟨hpvL, o4, fun i' hi' ho' hE => by
        rcases Nat.lt_trichotomy i' i with hlt | heq | hgt
        · have := o7 i' (.inr ho') hlt
          have := (hp.own_ok i' j0 ho').2.2.2.2.1
          omega
        · exact hiL (heq ▸ hi')
        · exact hiL (desc hp hcl (.inr i5) i' (.inr ho') hi' hgt).1⟩
      have hfree : ∀ q, q < s → ∀ x, x ∈ p.cm q → x.1 ≠ j0 := fun q hq x hx hE => by
        have hqm : q < p.m := Nat.lt_of_lt_of_le hq hs
        obtain ⟨_, _, c3, c4⟩ := hp.cm_ok q x (Nat.le_of_lt hqm) hx
        have htL := hcl _ ((he q hqm).2 hq) _ (hp.cm_anc q x hqm hx)
        rw [hE] at c3 c4
        have hle := c4 i (.inr i5)
        rcases Nat.lt_or_ge i x.2.1 with h | h
        · exact hiL (desc hp hcl (.inr i5) _ c3 htL h).1
        · have : i = x.2.1 := Nat.le_antisymm hle h
          exact hiL (this ▸ htL)
      have hat := hpe j0 _ o3 htop hfree
      have hsm := hp.small
      simp only [Nat.add_eq] at hsm
      have hst : astep P G (mkS fn tm nt (.it (.inRegion ops (i :: l)) :: k) dfr kind rnd rest (hs' (j0 + 1)) (p.stg s).2) = .one (mkS fn (setD ops tm i (p.v i)) nt (.it (.inRegion ops l) :: k) dfr kind rnd rest ((hs' (j0 + 1)).put (p.b0 + j0) (some (p.ob i))) (p.stg s).2) := by
        have ho' : ops.toList[i]? = some ops[i] := by rw [Array.getElem?_toList]; exact ho
        have hfin := finish_eq (fn := fn) (k := k) (dfr := dfr) (kind := kind) (rnd := rnd) (tm := tm) (l := l) ho hltn (p.v i)
        have haop := aInsAt_ok hins hat (p.stg s).2
        rw [← i4] at haop
        simp only [astep, mkS, aExec, ho', hw, i3, Bool.false_and, cond_false, haop, aApply, hfin]
        rfl
      have hl : Leads P G ⟨⟨fn, tm, nt, .it (.inRegion ops (i :: l)) :: k, dfr, .run, kind, rnd⟩ :: rest, hs' (j0 + 1), (p.stg s).2⟩ [⟨⟨fn, setD ops tm i (p.v i), nt, .it (.inRegion ops l) :: k, dfr, .run, kind, rnd⟩ :: rest, (hs' (j0 + 1)).put (p.b0 + j0) (some (p.ob i)), (p.stg s).2⟩] :=
        Leads.step hN hst (Leads.refl _)
      obtain ⟨e', fr', fs', w', hle, hsteps, hf', hr', H'⟩ := lead_mem (cs := cs) (j0 + 1) hl hGn hf hr H
      have hj0L : j0 ∈ L := by
        rcases o4 with h | h
        · exact h ▸ hpvL
        · exact (desc hp hcl (.inl rfl) _ (.inr h) hpvL (hp.own_ok _ _ h).2.1).1
      obtain ⟨e2, M2, L2, k1, k2, k3, k4⟩ := region_run hN hp l (i :: L) s K cs e' _ hx' hcl' hs (he' i2)
        ⟨hun, fr', fs', w', _, _, rfl, hf', hr', H'.weakU (fun b ⟨j, a1, a2, a3⟩ => ⟨j, a1, a2, fun hm => a3 (List.mem_cons_of_mem _ hm)⟩), by rw [fset_ne _ _ (by omega)]; exact h0, hT', fun j t a1 a2 a3 => by
          by_cases hji : j = j0
          · subst hji
            have hti : t = i := by
              obtain ⟨b1, b2, b3⟩ := a2
              rcases List.mem_cons.1 b1 with h | h
              · exact h
              · exfalso
                have hne : p.pv i ≠ t := b3 i List.mem_cons_self i5
                rcases Nat.lt_trichotomy t i with hlt | heq | hgt
                · have hle := o7 t b2 hlt
                  obtain ⟨_, i', c1, c2, c3⟩ := desc hp hcl b2 _ o4 hpvL (by omega)
                  exact b3 i' (List.mem_cons_of_mem _ c1) c2 c3
                · exact hiL (heq ▸ h)
                · exact hiL (desc hp hcl (.inr i5) t b2 h hgt).1
            subst hti
            rw [fset_same]
            have := hp.own_ok t j i5
            exact Tr.get_upd_same 40 _ (p.b0 + j) (some (p.ob t)) (by
              have : (2 : Nat) ^ 39 < 2 ^ 40 := by decide
              omega)
          · rw [fset_ne _ _ (by omega)]
            refine hpe j t a1 ⟨?_, a2.2.1, fun i' hi' => a2.2.2 i' (List.mem_cons_of_mem _ hi')⟩ a3
            rcases List.mem_cons.1 a2.1 with h | h
            · exfalso
              rcases a2.2.1 with h2 | h2
              · rw [← h2, h, i1] at a1; cases a1
              · rw [h, i5] at h2
                cases h2; exact hji rfl
            · exact h, fun j o a1 a2 => by
          have hjj : j ≠ j0 := fun hE => a2 (List.mem_cons_of_mem _ (hE ▸ hj0L))
          rw [fset_ne _ _ (by omega)]
          exact hnl j o a1 (fun hm => a2 (List.mem_cons_of_mem _ hm))⟩
      exact ⟨e2, M2, L2, Env.le_trans hle k1, hsteps.trans k2, k3, k4⟩
    · -- an effect
      subst e3
      have hqs : q = s := by
        have h1 : ¬ q < s := fun hlt => hiL ((he q e2).2 hlt)
        rcases Nat.lt_or_ge s q with hlt | hge
        · have := (he s (by omega)).1 (hanc _ (hp.es_ord s q hlt e2))
          omega
        · omega
      subst hqs
      obtain ⟨hs2, H2, c0, c1⟩ := commit_all (b0 := p.b0) (p.cm q) hs' (hp.cm_nd q) (fun x hx => by
        obtain ⟨a1, a2, a3, a4⟩ := hp.cm_ok q x hs hx
        rw [← a2]
        exact hpe x.1 _ a1 ⟨hanc _ (hp.cm_anc q x e2 hx), a3, fun i' _ ho' hE => by
          have h1 := a4 i' (.inr ho')
          have h2 := (hp.own_ok i' _ ho').2.2.2.2.1
          omega⟩ (fun q' hq' x' hx' hE => by
          have := hp.cm_inj q' q x' x (by omega) hs hx' hx hE
          omega)) H
      have hl := e4 tm l hTi
      rw [h0] at c0
      rw [← c0] at hl
      obtain ⟨e', fr', fs', w', hle, hsteps, hf', hr', H'⟩ := lead_mem (cs := cs) 0 hl hGn hf hr H2
      obtain ⟨e5, M2, L2, k1, k2, k3, k4⟩ := region_run hN hp l (p.es q :: L) (q + 1) K cs e' _ hx' hcl' (by omega) (fun a ha => by
          constructor
          · intro hm
            rcases List.mem_cons.1 hm with hE | hm
            · have := hp.es_inj a q ha e2 hE
              omega
            · have := (he a ha).1 hm
              omega
          · intro hlt
            by_cases haq : a = q
            · subst haq; exact List.mem_cons_self
            · exact List.mem_cons_of_mem _ ((he a ha).2 (by omega)))
        ⟨hun, fr', fs', w', _, _, rfl, hf', hr', H'.weakU (fun b ⟨j, a1, a2, a3⟩ => ⟨j, a1, a2, fun hm => a3 (List.mem_cons_of_mem _ hm)⟩), fset_same _ _ _, hT', fun j t a1 a2 a3 => by
          rw [fset_ne _ _ (by omega), c1 j (a3 q (by omega))]
          exact hpe j t a1 (a2.back e1' (hnn e1 a1)) (fun q' hq' => a3 q' (by omega)), fun j o a1 a2 => by
          rw [fset_ne _ _ (by omega)]
          have hjL : j ∉ L := fun hm => a2 (List.mem_cons_of_mem _ hm)
          by_cases hjc : ∀ x, x ∈ p.cm q → x.1 ≠ j
          · rw [c1 j hjc]; exact hnl j o a1 hjL
          · exfalso
            apply hjL
            obtain ⟨x, hx⟩ := Classical.not_forall.1 hjc
            obtain ⟨hx, hxj⟩ := Classical.not_imp.1 hx
            have hxj : x.1 = j := Classical.not_not.1 hxj
            obtain ⟨_, _, c3, _⟩ := hp.cm_ok q x hs hx
            have htL := hanc _ (hp.cm_anc q x e2 hx)
            rw [hxj] at c3
            rcases c3 with h | h
            · exact h ▸ htL
            · exact (desc hp hcl (.inl rfl) _ (.inr h) htL (hp.own_ok _ _ h).2.1).1⟩
      exact ⟨e5, M2, L2, Env.le_trans hle k1, hsteps.trans k2, k3, k4⟩
theorem HR.raise {K : Kp} {e : Env} {h : Hp} {nx nx' : Nat} {w : World} (H : HR P G K e h nx w) (hle : nx ≤ nx') : HR P G K e h nx' w :=
  ⟨H.live, H.inj, H.keep, H.glob, fun b hb => H.fresh b (Nat.le_trans hle hb), H.away, H.no, fun b hb => ⟨Nat.lt_of_lt_of_le (H.un b hb).1 hle, (H.un b hb).2⟩, H.os, H.output, H.tape⟩

theorem region_ok (hN : NamesOk P) {id : Nat} {h0 : Hp} {tmF : Tr Value} (hp : PlOk P G ops fn tm0 nt k dfr kind rnd rest p) (hs0 : p.stg 0 = (h0, Nat.add p.b0 ops.size)) (hF : TF ops tm0 p.v (fun j => j < ops.size) tmF) :
    Leads P G (mkS fn tm0 nt (.it (.code (.region id ops true)) :: k) dfr kind rnd rest h0 p.b0) [mkS fn tmF nt k dfr kind rnd rest (putUn p.b0 (p.cm p.m) (p.stg p.m).1) (p.stg p.m).2] := by
  rintro K cs e M ⟨fr, fs, w, rfl, hFs, H, hG⟩
  cases hFs with
  | cons hf hr =>
    have h3 := hf.todo.resolve_left (fun h0 => h0.1 rfl)
    have h5 := hf.mode
    obtain ⟨ffn, tmps, todo, defers, mode, fkind, frnd⟩ := fr
    cases h3 with
    | @cons _ _ _ k' hi hk =>
      cases hi
      cases h5
      have hstep : ∃ t w1, w1.heap = w.heap ∧ Same w w1 ∧ (stepG P true { frame := ⟨ffn, tmps, .code (.region id ops true) :: k', defers, .run, fkind, frnd⟩, callers := fs ++ cs, status := .running, dying := none } w).bare =
          .go { frame := ⟨ffn, tmps, .inRegion ops (Region.schedule (P.follows .mixedOrders) ops t) :: k', defers, .run, fkind, frnd⟩, callers := fs ++ cs, status := .running, dying := none } w1 := by
        by_cases hq : (Question.order ffn id).forced
        · exact ⟨0, w, rfl, Same.refl _, by simp [stepG, stepG.exec, hq]⟩
        · exact ⟨_, { w with drawn := w.drawn + 1 }, rfl, ⟨rfl, rfl, rfl⟩, by simp [stepG, stepG.exec, hq]; rfl⟩
      obtain ⟨t, w1, hw1, hS1, hstep⟩ := hstep
      have hb0 : Nat.add p.b0 ops.size = p.b0 + ops.size := rfl
      have H1 : HR P G K e h0 (p.b0 + ops.size) w1 := (H.other hw1 hS1).raise (Nat.le_add_right _ _)
      have hU : ∀ b, (∃ j, b = p.b0 + j ∧ (p.obj j).isSome = true ∧ j ∉ ([] : List Nat)) → b < p.b0 + ops.size ∧ e b = none := by
        rintro b ⟨j, rfl, hj, _⟩
        obtain ⟨o, ho⟩ := Option.isSome_iff_exists.1 hj
        have := hp.cm_lt j o ho
        exact ⟨by omega, H.fresh _ (Nat.le_add_right _ _)⟩
      have HF := HRF.one H1 hU
      obtain ⟨e1, M1, L1, k1, k2, k3, k4⟩ := region_run hN hp _ [] 0 K cs e (lone ⟨ffn, tmps, .inRegion ops (Region.schedule (P.follows .mixedOrders) ops t) :: k', defers, .run, fkind, frnd⟩ (fs ++ cs) w1)
        (ext_schedule hp.back hp.ndep t) (fun i hi => by cases hi) (Nat.zero_le _) (fun q _ => ⟨fun h => by (cases h), fun h => absurd h (Nat.not_lt_zero _)⟩)
        ⟨fun b hb => (H.un b hb).1, _, fs, w1, tm0, _, rfl, ⟨hf.fn, hf.tm, .inr (.cons (.it _) hk), hf.dfr, .run, hf.kind, hf.rnd⟩, hr, (by rw [hs0]; exact HF), (by rw [hs0]; exact fset_same _ _ _), ⟨fun j d hj => by (cases hj), fun t _ => rfl⟩,
          fun j t _ hj => by (cases hj.1), fun j o _ _ => fset_ne (i := 0) _ _ (Nat.succ_ne_zero j)⟩
      obtain ⟨_, fr1, fs1, w2, tm1, hs1, rfl, hf1, hr1, HF1, c0, hT1, hpe, _⟩ := k3
      obtain ⟨k4c, k4⟩ := k4
      obtain ⟨hs2, HF2, c1, _⟩ := commit_all (b0 := p.b0) (p.cm p.m) hs1 (hp.cm_nd p.m) (fun x hx => by
        obtain ⟨a1, a2, a3, a4⟩ := hp.cm_ok p.m x (Nat.le_refl _) hx
        rw [← a2]
        have hlt : x.2.1 < ops.size := by
          rcases a3 with h | h
          · obtain ⟨o, hoj⟩ := Option.isSome_iff_exists.1 a1
            rw [h]; exact hp.cm_lt _ o hoj
          · exact (hp.own_ok _ _ h).1
        exact hpe x.1 _ a1 ⟨k4 _ hlt, a3, fun i' _ ho' hE => by
          have h1 := a4 i' (.inr ho')
          have h2 := (hp.own_ok i' _ ho').2.2.2.2.1
          omega⟩ (fun q hq x' hx' hE => by
          have := hp.cm_inj q p.m x' x (by omega) (Nat.le_refl _) hx' hx hE
          omega)) HF1
      have hnx := hp.nx_le p.m (Nat.le_refl _)
      have hGn : G ≤ (p.stg p.m).2 := by have := hp.hG; simp only [Nat.add_eq] at hnx; omega
      have hweak : ∀ t v, tmF.get 12 t = some v → tm1.get 12 t = some v := by
        intro t v hv
        by_cases hd : ∃ j, ds ops j = some t
        · obtain ⟨j, hj⟩ := hd
          have hjl : j < ops.size := by
            unfold ds at hj
            cases hoj : ops[j]? with
            | none => rw [hoj] at hj; cases hj
            | some o => exact lt_of_some hoj
          rw [hF.1 j t hjl hj] at hv
          rw [hT1.1 j t (k4 j hjl) hj]; exact hv
        · have hd' : ∀ j, ds ops j ≠ some t := fun j hj => hd ⟨j, hj⟩
          rw [hF.2 t hd'] at hv
          rw [hT1.2 t hd']; exact hv
      have hlast : Leads P G (mkS fn tm1 nt (.it (.inRegion ops []) :: k) dfr kind rnd rest (hs2 0) (p.stg p.m).2) [mkS fn tm1 nt k dfr kind rnd rest (hs2 0) (p.stg p.m).2] :=
        Leads.step hN (S' := mkS fn tm1 nt k dfr kind rnd rest (hs2 0) (p.stg p.m).2) rfl (Leads.refl _)
      obtain ⟨S3, hm, e3, M3, r1, r2, f3, fs3, w3, rfl, r4, r5, _⟩ := hlast K cs e1 _ ⟨fr1, fs1, w2, rfl, .cons hf1 hr1, HF2.each 0, hGn⟩
      rw [List.mem_singleton.1 hm] at r4 r5
      refine ⟨_, List.mem_singleton_self _, e3, _, Env.le_trans k1 r1, (Steps.head (step_lone_go hstep) k2).trans r2, f3, fs3, w3, rfl, ?_, ?_, hGn⟩
      · cases r4 with
        | cons a1 a2 => exact .cons ⟨a1.fn, ⟨a1.tm.1, fun t v hv => a1.tm.2 t v (hweak t v hv)⟩, a1.todo, a1.dfr, a1.mode, a1.kind, a1.rnd⟩ a2
      · show HR P G K e3 (putUn p.b0 (p.cm p.m) (p.stg p.m).1) (p.stg p.m).2 w3
        rw [← c0, ← c1]; exact r5
end
end
end Go.Xm
namespace Go.Xm
noncomputable section
/-! ### operations that leave the memory as it is -/
def isQ (o : Op) : Bool :=
  match o with
  | .move _ | .assign _ | .pick .. | .build .. | .load .. | .nilCheck _ | .binOp .. | .unOp .. | .makeInterface .. | .makeFunc .. | .slice _ _ _ _ none | .fieldAddr .. | .field .. | .indexAddr .. | .index .. | .lookup .. | .entry _ | .typeAssert .. | .extract .. => true
  | .call c => match c.callee with | .builtin .len => true | _ => false
  | _ => false
/-- those that do not even read it -/
def isPure (o : Op) : Bool :=
  match o with
  | .move _ | .assign _ | .pick .. | .build .. | .nilCheck _ | .binOp .. | .unOp .. | .makeInterface .. | .makeFunc .. | .fieldAddr .. | .field .. | .indexAddr .. | .index .. | .typeAssert .. | .extract .. => true
  | _ => false
def outV (o : AOut) : Option Value := match o with | .val v _ _ => some v | _ => none
def qv (P : Program) (r : Operand → Value) (o : Op) (h : Hp) : Option Value :=
  bif isQ o then outV (aop P r o h 0) else none
theorem ofV_out {o : Option Value} {h h2 : Hp} {n n2 : Nat} {v : Value} (hv : outV (ofV o h n) = some v) : ofV o h2 n2 = .val v h2 n2 := by
  cases o with
  | none => cases hv
  | some u => cases hv; rfl
theorem aop_q {P : Program} {r : Operand → Value} {o : Op} {h : Hp} {n n2 : Nat} {v : Value} (hq : isQ o = true) (hv : outV (aop P r o h n) = some v) : aop P r o h n2 = .val v h n2 := by
  cases o with
  | move x => cases hv; rfl
  | assign x => cases hv; rfl
  | pick c a b =>
    simp only [aop] at hv ⊢
    split at hv <;> first | (cases hv; done) | (cases hv; rfl)
  | build t ps => exact ofV_out hv
  | load t a => exact ofV_out hv
  | nilCheck x =>
    simp only [aop] at hv ⊢
    split at hv <;> first | (cases hv; done) | (cases hv; rfl)
  | binOp op t x y z => exact ofV_out hv
  | unOp op t x => exact ofV_out hv
  | makeInterface t x => exact ofV_out hv
  | makeFunc f a c =>
    cases f with
    | func g => cases hv; rfl
    | _ => cases hv
  | slice t x lo hi mx =>
    cases mx with
    | none => exact ofV_out hv
    | some m => cases hq
  | fieldAddr t x f => exact ofV_out hv
  | field t x f => exact ofV_out hv
  | indexAddr t x i => exact ofV_out hv
  | index t x i => exact ofV_out hv
  | lookup t m k ok => exact ofV_out hv
  | entry it => exact ofV_out hv
  | typeAssert x t a ok => exact ofV_out hv
  | extract t i => exact ofV_out hv
  | call c =>
    obtain ⟨cal, args, tys⟩ := c
    cases cal with
    | builtin b =>
      cases b with
      | len =>
        simp only [aop, aCall] at hv ⊢
        unfold aBuiltin at hv ⊢
        split at hv
        · exact ofV_out hv
        · rename_i h1 h2 h3; first | (exact (Builtin.noConfusion h1)) | (exact (Builtin.noConfusion h2)) | (exact (Builtin.noConfusion h3))
        · rename_i h1 h2 h3; first | (exact (Builtin.noConfusion h1)) | (exact (Builtin.noConfusion h2)) | (exact (Builtin.noConfusion h3))
        · rename_i h1 h2 h3; first | (exact (Builtin.noConfusion h1)) | (exact (Builtin.noConfusion h2)) | (exact (Builtin.noConfusion h3))
        · rename_i h1 h2 h3; first | (exact (Builtin.noConfusion h1)) | (exact (Builtin.noConfusion h2)) | (exact (Builtin.noConfusion h3))
        · rename_i h1 h2 h3; first | (exact (Builtin.noConfusion h1)) | (exact (Builtin.noConfusion h2)) | (exact (Builtin.noConfusion h3))
        · rename_i h1 h2 h3; first | (exact (Builtin.noConfusion h1)) | (exact (Builtin.noConfusion h2)) | (exact (Builtin.noConfusion h3))
        · cases hv
      | _ => cases hq
    | _ => cases hq
  | _ => cases hq
theorem aop_pure {P : Program} {r : Operand → Value} {o : Op} {h h2 : Hp} {n n2 : Nat} {v : Value} (hq : isPure o = true) (hv : outV (aop P r o h n) = some v) : aop P r o h2 n2 = .val v h2 n2 := by
  cases o with
  | move x => cases hv; rfl
  | assign x => cases hv; rfl
  | pick c a b =>
    simp only [aop] at hv ⊢
    split at hv <;> first | (cases hv; done) | (cases hv; rfl)
  | build t ps => exact ofV_out hv
  | nilCheck x =>
    simp only [aop] at hv ⊢
    split at hv <;> first | (cases hv; done) | (cases hv; rfl)
  | binOp op t x y z => exact ofV_out hv
  | unOp op t x => exact ofV_out hv
  | makeInterface t x => exact ofV_out hv
  | makeFunc f a c =>
    cases f with
    | func g => cases hv; rfl
    | _ => cases hv
  | fieldAddr t x f => exact ofV_out hv
  | field t x f => exact ofV_out hv
  | indexAddr t x i => exact ofV_out hv
  | index t x i => exact ofV_out hv
  | typeAssert x t a ok => exact ofV_out hv
  | extract t i => exact ofV_out hv
  | _ => cases hq
theorem qv_ok {P : Program} {r : Operand → Value} {o : Op} {h : Hp} {v : Value} (hv : qv P r o h = some v) (n : Nat) : aop P r o h n = .val v h n := by
  obtain ⟨hq, hv⟩ : isQ o = true ∧ outV (aop P r o h 0) = some v := by
    unfold qv at hv
    cases hq : isQ o with
    | true => rw [hq] at hv; exact ⟨rfl, hv⟩
    | false => rw [hq] at hv; cases hv
  exact aop_q hq hv

/-! ### what waits for what -/
def bit (m j : Nat) : Bool := Nat.beq (Nat.land (Nat.shiftRight m j) 1) 1
theorem bit_eq (m j : Nat) : bit m j = m.testBit j := by
  have h1 : Nat.land (Nat.shiftRight m j) 1 = (m >>> j) % 2 := by
    show (m >>> j) &&& 1 = _
    exact Nat.and_one_is_mod _
  unfold bit
  rw [h1, Nat.testBit_eq_decide_div_mod_eq, Nat.shiftRight_eq_div_pow]
  rcases Nat.mod_two_eq_zero_or_one (m / 2 ^ j) with h | h <;> rw [h] <;> rfl
theorem bit_lor {a b j : Nat} (h : bit (Nat.lor a b) j = true) : bit a j = true ∨ bit b j = true := by
  rw [bit_eq] at h ⊢
  rw [bit_eq]
  have : Nat.lor a b = a ||| b := rfl
  rw [this, Nat.testBit_or, Bool.or_eq_true] at h
  exact h
theorem bit_one {e j : Nat} (h : bit (Nat.shiftLeft 1 e) j = true) : j = e := by
  rw [bit_eq] at h
  have : Nat.shiftLeft 1 e = 1 <<< e := rfl
  rw [this, Nat.one_shiftLeft, Nat.testBit_two_pow] at h
  exact (by simpa using h : e = j).symm
theorem bit_zero (j : Nat) : bit 0 j = false := by rw [bit_eq]; simp

def mget (A : Tr Nat) (i : Nat) : Nat := match A.get 12 i with | some m => m | none => 0
def maskOf (A : Tr Nat) : List Edge → Nat
  | [] => 0
  | e :: l => bif Region.binds .any e then Nat.lor (Nat.lor (Nat.shiftLeft 1 e.on) (mget A e.on)) (maskOf A l) else maskOf A l
theorem maskOf_bit {A : Tr Nat} {j : Nat} : ∀ {l : List Edge}, bit (maskOf A l) j = true → ∃ e ∈ l, Region.binds .any e = true ∧ (j = e.on ∨ bit (mget A e.on) j = true)
  | [], h => by rw [show maskOf A [] = 0 from rfl, bit_zero] at h; cases h
  | e :: l, h => by
    unfold maskOf at h
    cases hb : Region.binds .any e with
    | false =>
      rw [hb] at h
      obtain ⟨e', hm, h⟩ := maskOf_bit h
      exact ⟨e', List.mem_cons_of_mem _ hm, h⟩
    | true =>
      rw [hb] at h
      rcases bit_lor h with h | h
      · rcases bit_lor h with h | h
        · exact ⟨e, List.mem_cons_self, hb, .inl (bit_one h)⟩
        · exact ⟨e, List.mem_cons_self, hb, .inr h⟩
      · obtain ⟨e', hm, h⟩ := maskOf_bit h
        exact ⟨e', List.mem_cons_of_mem _ hm, h⟩
theorem maskOf_congr {A B : Tr Nat} : ∀ {l : List Edge}, (∀ e ∈ l, Region.binds .any e = true → mget A e.on = mget B e.on) → maskOf A l = maskOf B l
  | [], _ => rfl
  | e :: l, h => by
    simp only [maskOf]
    rw [maskOf_congr fun e' he => h e' (List.mem_cons_of_mem _ he)]
    cases hb : Region.binds .any e with
    | false => rfl
    | true => rw [h e List.mem_cons_self hb]
def edgesOk (i : Nat) : List Edge → Bool
  | [] => true
  | e :: l => (!Region.binds .any e || Nat.blt e.on i) && edgesOk i l
theorem edgesOk_ok {i : Nat} : ∀ {l : List Edge}, edgesOk i l = true → ∀ e ∈ l, Region.binds .any e = true → e.on < i
  | [], _, _, h => by cases h
  | e :: l, h, e', hm => by
    simp only [edgesOk, Bool.and_eq_true, Bool.or_eq_true, Bool.not_eq_true'] at h
    rcases List.mem_cons.1 hm with rfl | hm
    · intro hb
      rcases h.1 with h1 | h1
      · rw [hb] at h1; cases h1
      · exact blt_lt h1
    · exact edgesOk_ok h.2 e' hm
/-- the masks of all operations, and of which operation a variable is -/
def mkAnc : List Oper → Nat → Tr Nat → Option (Tr Nat)
  | [], _, A => some A
  | o :: l, i, A => bif edgesOk i o.after.toList && Nat.blt (Nat.add i 1) 4096 then mkAnc l (Nat.add i 1) (A.upd 12 i (some (maskOf A o.after.toList))) else none
theorem mkAnc_ok : ∀ {l : List Oper} {i : Nat} {A A' : Tr Nat}, mkAnc l i A = some A' → (∀ j, j < i → A'.get 12 j = A.get 12 j) ∧
    ∀ q o, l[q]? = some o → (∀ e ∈ o.after, Region.binds .any e = true → e.on < i + q) ∧ mget A' (i + q) = maskOf A' o.after.toList
  | [], i, A, A', h => by cases h; exact ⟨fun _ _ => rfl, fun q o hq => by cases hq⟩
  | o :: l, i, A, A', h => by
    unfold mkAnc at h
    obtain ⟨hc, h⟩ : (edgesOk i o.after.toList && Nat.blt (Nat.add i 1) 4096) = true ∧ mkAnc l (Nat.add i 1) (A.upd 12 i (some (maskOf A o.after.toList))) = some A' := by
      cases hcc : (edgesOk i o.after.toList && Nat.blt (Nat.add i 1) 4096) with
      | true => rw [hcc] at h; exact ⟨rfl, h⟩
      | false => rw [hcc] at h; cases h
    simp only [Bool.and_eq_true] at hc
    have hi : i + 1 < 2 ^ 12 := blt_lt hc.2
    obtain ⟨h1, h2⟩ := mkAnc_ok h
    have hlow : ∀ j, j < i → A'.get 12 j = A.get 12 j := fun j hj => by
      rw [h1 j (show j < i + 1 by omega), Tr.get_upd_ne 12 A i _ j (by omega)]
    refine ⟨hlow, fun q o' hq => ?_⟩
    cases q with
    | zero =>
      simp only [List.getElem?_cons_zero, Option.some.injEq] at hq
      subst hq
      refine ⟨fun e he => edgesOk_ok hc.1 e (by simpa using he), ?_⟩
      have : A'.get 12 i = some (maskOf A o.after.toList) := by
        rw [h1 i (show i < i + 1 by omega), Tr.get_upd_same 12 A i _ hi]
      simp only [Nat.add_zero, mget, this]
      exact maskOf_congr fun e he hbe => by
        have := edgesOk_ok hc.1 e he hbe
        simp only [mget, hlow e.on this]
    | succ q =>
      simp only [List.getElem?_cons_succ] at hq
      obtain ⟨h3, h4⟩ := h2 q o' hq
      have : Nat.add i 1 + q = i + (q + 1) := by show i + 1 + q = _; omega
      rw [this] at h3 h4
      exact ⟨h3, h4⟩
def mkDst : List Oper → Nat → Tr Nat → Option (Tr Nat)
  | [], _, t => some t
  | o :: l, i, t => match o.dst with
    | none => mkDst l (Nat.add i 1) t
    | some d => match t.get 12 d with
      | some _ => none
      | none => bif Nat.blt (Nat.add d 1) 4096 then mkDst l (Nat.add i 1) (t.upd 12 d (some i)) else none
theorem mkDst_ok : ∀ {l : List Oper} {i : Nat} {t t' : Tr Nat}, mkDst l i t = some t' → (∀ d j, t.get 12 d = some j → t'.get 12 d = some j) ∧
    ∀ q o d, l[q]? = some o → o.dst = some d → t'.get 12 d = some (i + q) ∧ d + 1 < 4096
  | [], i, t, t', h => by cases h; exact ⟨fun _ _ h => h, fun q o d hq => by cases hq⟩
  | o :: l, i, t, t', h => by
    unfold mkDst at h
    cases hd : o.dst with
    | none =>
      rw [hd] at h
      obtain ⟨h1, h2⟩ := mkDst_ok h
      refine ⟨h1, fun q o' d hq hd' => ?_⟩
      cases q with
      | zero =>
        simp only [List.getElem?_cons_zero, Option.some.injEq] at hq
        subst hq; rw [hd] at hd'; cases hd'
      | succ q =>
        simp only [List.getElem?_cons_succ] at hq
        have := h2 q o' d hq hd'
        rwa [show Nat.add i 1 + q = i + (q + 1) from by show i + 1 + q = _; omega] at this
    | some d0 =>
      rw [hd] at h
      dsimp only at h
      cases hg : t.get 12 d0 with
      | some j => rw [hg] at h; cases h
      | none =>
        rw [hg] at h
        dsimp only at h
        obtain ⟨hc, h⟩ : Nat.blt (Nat.add d0 1) 4096 = true ∧ mkDst l (Nat.add i 1) (t.upd 12 d0 (some i)) = some t' := by
          cases hcc : Nat.blt (Nat.add d0 1) 4096 with
          | true => rw [hcc] at h; exact ⟨rfl, h⟩
          | false => rw [hcc] at h; cases h
        have hlt : d0 + 1 < 2 ^ 12 := blt_lt hc
        obtain ⟨h1, h2⟩ := mkDst_ok h
        refine ⟨fun d j hdj => h1 d j ?_, fun q o' d hq hd' => ?_⟩
        · have hne : d ≠ d0 := fun hE => by subst hE; rw [hg] at hdj; cases hdj
          rw [Tr.get_upd_ne 12 t d0 _ d hne]; exact hdj
        · cases q with
          | zero =>
            simp only [List.getElem?_cons_zero, Option.some.injEq] at hq
            subst hq; rw [hd] at hd'; cases hd'
            exact ⟨h1 d0 i (Tr.get_upd_same 12 t d0 _ hlt), hlt⟩
          | succ q =>
            simp only [List.getElem?_cons_succ] at hq
            have := h2 q o' d hq hd'
            rwa [show Nat.add i 1 + q = i + (q + 1) from by show i + 1 + q = _; omega] at this
end
end Go.Xm
