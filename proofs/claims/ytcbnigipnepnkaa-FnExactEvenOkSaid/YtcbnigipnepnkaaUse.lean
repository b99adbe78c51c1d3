/- Rules for walking the abstract machine: calls, loops, sequences, and the words that are rewritten. Own work; no condition. -/
import Derived.Test.YtcbnigipnepnkaaSoundR
namespace Go.Abs

@[congr] theorem ACalls.congr {P : Program} {f : FuncId} {args args' : List XV} {m m' : Heap} {R : XV → Heap → Prop} (h : args = args') (hm : m = m') : ACalls P f args m R = ACalls P f args' m' R := by subst h; subst hm; rfl
@[congr] theorem ALoop.congr {step : (AExit → Frame → Heap → Prop) → Frame → Heap → Prop} {Q : AExit → Frame → Heap → Prop} {σ σ' : Frame} {m m' : Heap} (h : σ = σ') (hm : m = m') : ALoop step Q σ m = ALoop step Q σ' m' := by subst h; subst hm; rfl

theorem ACalls.mono {P : Program} {f : FuncId} {args : List XV} {m : Heap} {R R' : XV → Heap → Prop} (h : ACalls P f args m R) (hR : ∀ x m', R x m' → R' x m') : ACalls P f args m R' :=
  fun B w0 μ w hw hok => (h B w0 μ w hw hok).mono fun _ _ ⟨x, m', μ', h1, h2⟩ => ⟨x, m', μ', hR _ _ h1, h2⟩

/-- What may be said of memory at a call: families are no later than their rows. -/
def Heap.wf (m : Heap) : Prop := ∀ (id : Nat) (r : Row), m[id]? = some r → r.fam ≤ id

theorem ACalls.wf {P : Program} {f : FuncId} {args : List XV} {m : Heap} {R : XV → Heap → Prop} (h : m.wf → ACalls P f args m R) : ACalls P f args m R :=
  fun B w0 μ w hw hok => h (fun id r hr => (hw.rows id r hr).fam) B w0 μ w hw hok

theorem ACalls.post_wf {P : Program} {f : FuncId} {args : List XV} {m : Heap} {R R' : XV → Heap → Prop} (h : ACalls P f args m R) (hR : ∀ x m', m'.wf → m.length ≤ m'.length → R x m' → R' x m') : ACalls P f args m R' :=
  fun B w0 μ w hw hok => (h B w0 μ w hw hok).mono fun _ _ ⟨x, m', μ', h1, h2, h3, h4, h5, h6⟩ => ⟨x, m', μ', hR _ _ (fun id r hr => (h4.rows id r hr).fam) h5 h1, h2, h3, h4, h5, h6⟩

/-- A loop, by what holds at the head of each round. -/
theorem ALoop.intro {step : (AExit → Frame → Heap → Prop) → Frame → Heap → Prop} {Q : AExit → Frame → Heap → Prop} {σ : Frame} {m : Heap}
    (L : List Nat) (I : Frame → Heap → Prop) (mu : Frame → Heap → Nat) (h0 : I (σ.keep L) m)
    (hr : ∀ σ m, I σ m → ∀ K : Frame → Heap → Prop, (∀ σ' m', I (σ'.keep L) m' → mu (σ'.keep L) m' < mu σ m → K σ' m') → step (AExit.thn K Q) σ m) : ALoop step Q σ m := by
  have key : ∀ n σ m, I (σ.keep L) m → mu (σ.keep L) m < n → aloop step L Q n σ m := by
    intro n
    induction n with
    | zero => intro σ m _ h; exact absurd h (Nat.not_lt_zero _)
    | succ n ih =>
      intro σ m hI hlt
      exact hr _ _ hI _ fun σ' m' hI' hlt' => ih σ' m' hI' (by omega)
  exact ⟨L, _, key _ σ m h0 (Nat.lt_succ_self _)⟩

/-- The same, the state told by a letter. -/
theorem ALoop.by {α : Type} {step : (AExit → Frame → Heap → Prop) → Frame → Heap → Prop} {Q : AExit → Frame → Heap → Prop} {σ : Frame} {m : Heap}
    (L : List Nat) (fr : α → Frame) (hp : α → Heap) (ok : α → Prop) (mu : α → Nat) (a0 : α) (hs : σ.keep L = fr a0) (hm : m = hp a0) (h0 : ok a0)
    (hr : ∀ a, ok a → ∀ K : Frame → Heap → Prop, (∀ b σ' m', σ'.keep L = fr b → m' = hp b → ok b → mu b < mu a → K σ' m') → step (AExit.thn K Q) (fr a) (hp a)) : ALoop step Q σ m := by
  have key : ∀ n σ m a, σ.keep L = fr a → m = hp a → ok a → mu a < n → aloop step L Q n σ m := by
    intro n
    induction n with
    | zero => intro σ m a _ _ _ h; exact absurd h (Nat.not_lt_zero _)
    | succ n ih =>
      intro σ m a h1 h2 h3 h4
      show step _ (σ.keep L) m
      rw [h1, h2]
      exact hr a h3 _ fun b σ' m' g1 g2 g3 g4 => ih σ' m' b g1 g2 g3 (by omega)
  exact ⟨L, _, key _ σ m a0 hs hm h0 (Nat.lt_succ_self _)⟩

section
variable {P : Program} {Q : AExit → Frame → Heap → Prop} {σ : Frame} {m : Heap}
theorem awp_seq {x y : ACode} (h : awp P x (AExit.thn (awp P y Q) Q) σ m) : awp P (.seq x y) Q σ m := h
theorem awp_reg {ops : List AOper} (h : ∀ K : Frame → Heap → Prop, (∀ σ m, Q .normal σ m → K σ m) → awpOps P K ops σ m) : awp P (.reg ops) Q σ m := h _ fun _ _ h => h
theorem ops_go {K : Frame → Heap → Prop} {ops : List AOper} (h : awpOps P K ops σ m) : awpOps P K ops σ m := h
theorem awp_block {id : Nat} {x : ACode} (h : awp P x (AExit.blk id Q) σ m) : awp P (.block id x) Q σ m := h
theorem awp_cond {c : Opd} {x y : ACode} {t : Bool} (hc : σ.ev c = some (.one (.bool t))) (h1 : t = true → awp P x Q σ m) (h2 : t = false → awp P y Q σ m) : awp P (.cond c x y) Q σ m := by
  simp only [awp, hc]
  exact ⟨h1, h2⟩
theorem awp_if {c : Opd} {x y : ACode} {p : Prop} [Decidable p] (hc : σ.ev c = some (.one (.bool (decide p)))) (h1 : p → awp P x Q σ m) (h2 : ¬ p → awp P y Q σ m) : awp P (.cond c x y) Q σ m :=
  awp_cond hc (fun h => h1 (of_decide_eq_true h)) (fun h => h2 (of_decide_eq_false h))
theorem awp_nif {c : Opd} {x y : ACode} {p : Prop} [Decidable p] (hc : σ.ev c = some (.one (.bool (!decide p)))) (h1 : ¬ p → awp P x Q σ m) (h2 : p → awp P y Q σ m) : awp P (.cond c x y) Q σ m :=
  awp_cond hc (fun h => h1 (of_decide_eq_false (by simpa using h))) (fun h => h2 (of_decide_eq_true (by simpa using h)))
theorem awp_not {c : Opd} {x y : ACode} {t : Bool} (hc : σ.ev c = some (.one (.bool (!t)))) (h1 : t = false → awp P x Q σ m) (h2 : t = true → awp P y Q σ m) : awp P (.cond c x y) Q σ m :=
  awp_cond hc (fun h => h1 (by simpa using h)) (fun h => h2 (by simpa using h))
theorem awp_loop {x : ACode} (h : ALoop (awp P x) Q σ m) : awp P (.loop x) Q σ m := h
theorem awp_skip (h : Q .normal σ m) : awp P .skip Q σ m := h
theorem awp_exit {id : Nat} (h : Q (.exit id) σ m) : awp P (.exit id) Q σ m := h
theorem awp_ret (h : Q .ret σ m) : awp P .ret Q σ m := h
theorem thn_n {K : Frame → Heap → Prop} (h : K σ m) : AExit.thn K Q .normal σ m := h
theorem thn_e {K : Frame → Heap → Prop} {i : Nat} (h : Q (.exit i) σ m) : AExit.thn K Q (.exit i) σ m := h
theorem thn_r {K : Frame → Heap → Prop} (h : Q .ret σ m) : AExit.thn K Q .ret σ m := h
theorem blk_n {id : Nat} (h : Q .normal σ m) : AExit.blk id Q .normal σ m := h
theorem blk_r {id : Nat} (h : Q .ret σ m) : AExit.blk id Q .ret σ m := h
theorem blk_here {id : Nat} (h : Q .normal σ m) : AExit.blk id Q (.exit id) σ m := by simp only [AExit.blk, if_true]; exact h
theorem blk_on {id i : Nat} (hne : Nat.beq i id = false) (h : Q (.exit i) σ m) : AExit.blk id Q (.exit i) σ m := by
  have : i ≠ id := fun e => by subst e; simp at hne
  simp only [AExit.blk, this, if_false]; exact h
theorem ret_one {R : XV → Heap → Prop} {t : Nat} {x : XV} (hx : σ.get t = some x) (h : R x m) : retPost [t] R .ret σ m := by simp only [retPost, hx]; exact h
theorem ret_many {R : XV → Heap → Prop} {t u : Nat} {l : List Nat} {vs : List AV} (hx : resOf σ (t :: u :: l) = some vs) (h : R (.tup vs) m) : retPost (t :: u :: l) R .ret σ m := by simp only [retPost, hx]; exact h
theorem end_one {R : XV → Heap → Prop} {t : Nat} {x : XV} (hx : σ.get t = some x) (h : R x m) : retPost [t] R .normal σ m := by simp only [retPost, hx]; exact h
end

/-! ### Long stretches, cut -/

theorem awpOps_cat {P : Program} {Q : Frame → Heap → Prop} (a b : List AOper) : awpOps P Q (a ++ b) = awpOps P (awpOps P Q b) a := by
  induction a with
  | nil => funext σ m; rfl
  | cons o a ih =>
    funext σ m
    rw [List.cons_append]
    unfold awpOps
    rw [ih]

/-- Operations in stretches of at most twelve. -/
def cutOps : Nat → List AOper → ACode
  | 0, l => .reg l
  | f + 1, l => bif Nat.ble l.length 12 then .reg l else .seq (.reg (l.take 12)) (cutOps f (l.drop 12))
def ACode.cut : ACode → ACode
  | .reg l => cutOps l.length l
  | .seq a b => .seq a.cut b.cut
  | .cond c a b => .cond c a.cut b.cut
  | .block i a => .block i a.cut
  | .loop a => .loop a.cut
  | .skip => .skip
  | .exit i => .exit i
  | .ret => .ret

theorem awp_cutOps {P : Program} : ∀ (f : Nat) (l : List AOper), awp P (cutOps f l) = awp P (.reg l)
  | 0, _ => rfl
  | f + 1, l => by
    unfold cutOps
    cases Nat.ble l.length 12 with
    | true => rfl
    | false =>
      funext Q σ m
      show awp P (.reg (l.take 12)) (AExit.thn (awp P (cutOps f (l.drop 12)) Q) Q) σ m = _
      rw [awp_cutOps f]
      show awpOps P (awpOps P (Q .normal) (l.drop 12)) (l.take 12) σ m = awpOps P (Q .normal) l σ m
      rw [← awpOps_cat, List.take_append_drop]

theorem awp_cut {P : Program} (c : ACode) : awp P c.cut = awp P c := by
  induction c with
  | skip => rfl
  | reg l => exact awp_cutOps _ _
  | seq a b iha ihb => funext Q σ m; show awp P a.cut (AExit.thn (awp P b.cut Q) Q) σ m = _; rw [iha, ihb]; rfl
  | cond c a b iha ihb => funext Q σ m; unfold ACode.cut awp; rw [iha, ihb]
  | block i a ih => funext Q σ m; show awp P a.cut (AExit.blk i Q) σ m = _; rw [ih]; rfl
  | loop a ih => funext Q σ m; show ALoop (awp P a.cut) Q σ m = _; rw [ih]; rfl
  | exit i => rfl
  | ret => rfl

def trFnC (P : Program) (f : FuncId) : Option AFn := (trFn P f).map fun a => ⟨a.n, a.code.cut, a.res⟩

theorem afn {P : Program} {f : FuncId} {n : Nat} {code : ACode} {res : List Nat} (ht : trFnC P f = some ⟨n, code, res⟩) {args : List XV} {m : Heap} {R : XV → Heap → Prop} (hlen : Nat.ble args.length n = true)
    (h : awp P code (retPost res R) (argFrame 0 args) m) : ACalls P f args m R := by
  unfold trFnC at ht
  cases hf : trFn P f with
  | none => rw [hf] at ht; cases ht
  | some a =>
    obtain ⟨n', code', res'⟩ := a
    rw [hf] at ht
    simp only [Option.map_some, Option.some.injEq, AFn.mk.injEq] at ht
    obtain ⟨rfl, rfl, rfl⟩ := ht
    rw [awp_cut] at h
    exact acalls_of_awp hf (Nat.le_of_ble_eq_true hlen) h

def trFnAC (P : Program) (f : FuncId) : Option AFnA := (trFnA P f).map fun a => ⟨a.n, a.code.cut, a.res⟩

theorem afna {P : Program} {f : FuncId} {n : Nat} {code : ACode} {res : Nat × Nat} (ht : trFnAC P f = some ⟨n, code, res⟩) {args : List XV} {m : Heap} {R : XV → Heap → Prop} (hlen : Nat.ble args.length n = true)
    (h : awp P code (retPostA res R) (argFrame 0 args) m) : ACalls P f args m R := by
  unfold trFnAC at ht
  cases hf : trFnA P f with
  | none => rw [hf] at ht; cases ht
  | some a =>
    obtain ⟨n', code', res'⟩ := a
    rw [hf] at ht
    simp only [Option.map_some, Option.some.injEq, AFnA.mk.injEq] at ht
    obtain ⟨rfl, rfl, rfl⟩ := ht
    rw [awp_cut] at h
    exact acalls_of_awpA hf (Nat.le_of_ble_eq_true hlen) h
theorem ret_agg {R : XV → Heap → Prop} {t n id off : Nat} {l : List AV} {σ : Frame} {m : Heap} (hx : σ.get t = some (.one (.ptr id off))) (hc : m.cells id off n = some l) (h : R (.agg l) m) : retPostA (t, n) R .ret σ m := by simp only [retPostA, hx, onCells, hc]; exact h

theorem get_nil (t : Nat) : Frame.get [] t = none := rfl
theorem get_cons (u : Nat) (x : XV) (σ : Frame) (t : Nat) : Frame.get ((u, x) :: σ) t = bif u == t then some x else Frame.get σ t := rfl

theorem band_nat (a b : Nat) (ha : a < 9223372036854775808) (hb : b < 9223372036854775808) : bandInt .i64 a b = ((a &&& b : Nat) : Int) := by
  have h : (a &&& b) < 9223372036854775808 := Nat.lt_of_le_of_lt Nat.and_le_left ha
  unfold bandInt
  rw [BitVec.toNat_and, BitVec.toNat_ofInt, BitVec.toNat_ofInt, IntKind.wrap_i64]
  have e1 : ((a : Int) % ((2 ^ IntKind.i64.bits : Nat) : Int)).toNat = a := by simp [IntKind.bits]; omega
  have e2 : ((b : Int) % ((2 ^ IntKind.i64.bits : Nat) : Int)).toNat = b := by simp [IntKind.bits]; omega
  rw [e1, e2]
  omega

theorem bor_nat (a b : Nat) (ha : a < 4611686018427387904) (hb : b < 4611686018427387904) : borInt .i64 a b = ((a ||| b : Nat) : Int) := by
  have h : (a ||| b) < 2 ^ 62 := Nat.or_lt_two_pow (by simpa using ha) (by simpa using hb)
  unfold borInt
  rw [BitVec.toNat_or, BitVec.toNat_ofInt, BitVec.toNat_ofInt, IntKind.wrap_i64]
  have e1 : ((a : Int) % ((2 ^ IntKind.i64.bits : Nat) : Int)).toNat = a := by simp [IntKind.bits]; omega
  have e2 : ((b : Int) % ((2 ^ IntKind.i64.bits : Nat) : Int)).toNat = b := by simp [IntKind.bits]; omega
  rw [e1, e2]
  omega

theorem bxor_nat (a b : Nat) (ha : a < 4611686018427387904) (hb : b < 4611686018427387904) : bxorInt .i64 a b = ((a ^^^ b : Nat) : Int) := by
  have h : (a ^^^ b) < 2 ^ 62 := Nat.xor_lt_two_pow (by simpa using ha) (by simpa using hb)
  unfold bxorInt
  rw [BitVec.toNat_xor, BitVec.toNat_ofInt, BitVec.toNat_ofInt, IntKind.wrap_i64]
  have e1 : ((a : Int) % ((2 ^ IntKind.i64.bits : Nat) : Int)).toNat = a := by simp [IntKind.bits]; omega
  have e2 : ((b : Int) % ((2 ^ IntKind.i64.bits : Nat) : Int)).toNat = b := by simp [IntKind.bits]; omega
  rw [e1, e2]
  omega

/-! ### Calls that leave memory alone -/

@[congr] theorem onSome.congr {o o' : Option AV} {K : AV → Prop} (h : o = o') : onSome o K = onSome o' K := by rw [h]
theorem onSome_of {o : Option AV} {K : AV → Prop} {v : AV} (h : o = some v) (hk : K v) : onSome o K := by subst h; exact hk

theorem Kont_at {F : Frame → Heap → Prop} {σ : Frame} {d : Option Nat} {x : XV} {m : Heap} : Kont F σ d x m = F (σ.put d x) m := propext Iff.rfl
theorem KM_at {K : XV → Heap → Prop} {m : Heap} {x : XV} : KM K m x = K x m := propext Iff.rfl
theorem KV_at {K : XV → Prop} {v : AV} : KV K v = K (.one v) := propext Iff.rfl
theorem kont_go {F : Frame → Heap → Prop} {σ : Frame} {d : Option Nat} {x : XV} {m : Heap} (h : Kont F σ d x m) : Kont F σ d x m := h
theorem kv_go {K : XV → Prop} {v : AV} (h : KV K v) : KV K v := h
theorem KU_at {K : XV → Heap → Prop} {m : Heap} : KU K m = K .undef m := propext Iff.rfl
theorem ku_go {K : XV → Heap → Prop} {m : Heap} (h : KU K m) : KU K m := h
theorem refId_row (i : Nat) : (Ref.row i).id = i := rfl
theorem onSome_some {K : AV → Prop} {v : AV} : onSome (some v) K = K v := propext Iff.rfl

@[congr] theorem ACallq.congr {P : Program} {f : FuncId} {args args' : List XV} {m m' : Heap} {K : XV → Heap → Prop} (h : args = args') (hm : m = m') : ACallq P f args m K = ACallq P f args' m' K := by subst h; subst hm; rfl

def AQuiet (P : Program) (f : FuncId) (xs : List XV) (m : Heap) (v : XV) : Prop := ACalls P f xs m fun x m' => x = v ∧ m <+: m'

theorem aqn {P : Program} {f : FuncId} {n : Nat} {code : ACode} {res : List Nat} (ht : trFnC P f = some ⟨n, code, res⟩) {args : List XV} {m : Heap} {v : XV} (hlen : Nat.ble args.length n = true)
    (h : awp P code (retPost res fun x m' => x = v ∧ m <+: m') (argFrame 0 args) m) : AQuiet P f args m v := afn ht hlen h

theorem AQuiet.callq {P : Program} {f : FuncId} {xs : List XV} {m : Heap} {v : XV} {K : XV → Heap → Prop} (h : AQuiet P f xs m v) (hf : v.flat) (hk : K v m) : ACallq P f xs m K := ⟨v, h, hf, hk⟩

theorem AQuiet.call {P : Program} {f : FuncId} {xs : List XV} {m : Heap} {v : XV} {K : XV → Heap → Prop} (h : AQuiet P f xs m v) (hf : v.flat) (hk : K v m) : ACalls P f xs m K := by
  intro B w0 μ w hw hok
  refine (h B w0 μ w hw hok).mono fun e w' => ?_
  rintro ⟨x, m', μ', ⟨rfl, hm⟩, he, _, hh, _, hag⟩
  refine ⟨x, m, μ, hk, ?_, (flat_conc hf μ μ _).2, hh.restrict hm hag fun id r hr => (hw.rows id r hr).ok, Nat.le_refl _, Agree.refl _ _⟩
  rw [he, (flat_conc hf μ μ' 0).1]

theorem AQuiet.eq {P : Program} {f : FuncId} {xs : List XV} {m : Heap} {v v' : XV} (h : AQuiet P f xs m v) (e : v = v') : AQuiet P f xs m v' := e ▸ h

/-! ### Variables of many cells -/

@[congr] theorem onCells.congr {o o' : Option (List AV)} {K : XV → Prop} (h : o = o') : onCells o K = onCells o' K := by rw [h]
theorem onCells_of {o : Option (List AV)} {K : XV → Prop} {l : List AV} (h : o = some l) (hk : K (.agg l)) : onCells o K := by subst h; exact hk
theorem Vals.ofAgg_cons (z : AV) (l : List AV) : Vals.ofAgg (z :: l) = match Vals.ofList z (z :: l) with | some vs => vs | none => .mix (z :: l) := rfl
theorem Vals.ofAgg_ints (k : IntKind) (z : Int) (l : List Int) : Vals.ofAgg ((z :: l).map (AV.int k)) = .ints k (z :: l) := by
  have h : ∀ l : List Int, Vals.toInts k (l.map (AV.int k)) = some l := fun l => by
    induction l with
    | nil => rfl
    | cons a l ih => simp only [List.map_cons, Vals.toInts, if_true, ih, Option.map_some]
  simp only [List.map_cons, Vals.ofAgg, Vals.ofList, Vals.toInts, if_true, h, Option.map_some]
theorem cells_ints {m : Heap} {id e f : Nat} {o : Bool} {k : IntKind} {l : List Int} {n : Nat} (h : m[id]? = some ⟨e, f, o, .ints k l⟩) (hn : n = l.length) : m.cells id 0 n = some (l.map (AV.int k)) := by
  subst hn
  simp only [Heap.cells, h, Vals.len, Nat.zero_add, Nat.le_refl, if_true, Option.some.injEq]
  apply List.ext_getElem?
  intro i
  by_cases hi : i < l.length
  · rw [cells_get _ _ _ hi]
    simp [Vals.get, List.getD_eq_getElem?_getD, hi]
  · rw [List.getElem?_eq_none (by rw [cells_len]; omega), List.getElem?_eq_none (by rw [List.length_map]; omega)]
theorem flats_ints (k : IntKind) : ∀ l : List Int, flats (l.map (AV.int k))
  | [] => trivial
  | _ :: l => ⟨trivial, flats_ints k l⟩

/-! ### Slices that read as lists -/

theorem at_prefix {m m' : Heap} (h : m <+: m') {id off : Nat} {v : AV} (hv : m.at id off = some v) : m'.at id off = some v := by
  obtain ⟨t, rfl⟩ := h
  unfold Heap.at at hv ⊢
  cases hr : m[id]? with
  | none => simp only [hr] at hv; cases hv
  | some r =>
    rw [List.getElem?_append_left (List.getElem?_eq_some_iff.1 hr).1, hr]
    simpa only [hr] using hv

def IsInts (k : IntKind) (m : Heap) (s : SV) (l : List Int) : Prop := s.len = l.length ∧ ∀ i, i < l.length → m.at (s.ref.id) (s.off + i) = some (.int k (l.getD i 0))
def IsSls (m : Heap) (s : SV) (l : List SV) : Prop := s.len = l.length ∧ ∀ i, i < l.length → m.at (s.ref.id) (s.off + i) = some (.sl (l.getD i SV.nil))
/-- A slice of slices of numbers. -/
def IsRows (k : IntKind) (m : Heap) (s : SV) (ll : List (List Int)) : Prop := ∃ l, IsSls m s l ∧ l.length = ll.length ∧ ∀ i, i < ll.length → IsInts k m (l.getD i SV.nil) (ll.getD i [])

theorem IsInts.pre {k : IntKind} {m m' : Heap} {s : SV} {l : List Int} (h : IsInts k m s l) (hm : m <+: m') : IsInts k m' s l := ⟨h.1, fun i hi => at_prefix hm (h.2 i hi)⟩
theorem IsSls.pre {m m' : Heap} {s : SV} {l : List SV} (h : IsSls m s l) (hm : m <+: m') : IsSls m' s l := ⟨h.1, fun i hi => at_prefix hm (h.2 i hi)⟩
theorem IsRows.pre {k : IntKind} {m m' : Heap} {s : SV} {ll : List (List Int)} (h : IsRows k m s ll) (hm : m <+: m') : IsRows k m' s ll := by
  obtain ⟨l, h1, h2, h3⟩ := h
  exact ⟨l, h1.pre hm, h2, fun i hi => (h3 i hi).pre hm⟩

theorem at_row {m : Heap} {id : Nat} {r : Row} (h : m[id]? = some r) {off : Nat} (hlt : off < r.vals.len) : m.at id off = some (r.vals.get off) := by
  simp only [Heap.at, h, hlt, if_true]
theorem get_last (m : Heap) (r : Row) : (m ++ [r])[m.length]? = some r := by simp
theorem prefix_push (m : Heap) (r : Row) : m <+: m ++ [r] := List.prefix_append _ _

theorem isInts_nil (k : IntKind) (m : Heap) : IsInts k m SV.nil [] := ⟨rfl, fun i hi => by simp at hi⟩

/-! ### Rows of the call's own that grow -/

/-- A slice that owns its row, which holds just these values; no longer row is of its family. -/
def Owns (m : Heap) (s : SV) (e : TypeId) (v : Vals) : Prop :=
  (s = SV.nil ∧ v.len = 0) ∨ ∃ id f, s = ⟨.row id, 0, v.len⟩ ∧ m[id]? = some ⟨e, f, true, v⟩ ∧ ∀ (j : Nat) (r : Row), m[j]? = some r → r.own = true → r.fam = f → r.vals.len ≤ v.len

theorem Vals.take_len (v : Vals) : v.take v.len = v := by cases v <;> simp [Vals.take, Vals.len]
theorem Vals.take_ge (v : Vals) {n : Nat} (h : v.len ≤ n) : v.take n = v := by cases v <;> simp only [Vals.len] at h <;> simp [Vals.take, List.take_of_length_le h]
theorem Vals.sub_len (v : Vals) : v.sub 0 v.len = v := by cases v <;> simp [Vals.sub, Vals.len]

theorem cutFam_self {m : Heap} {f n : Nat} (h : ∀ (j : Nat) (r : Row), m[j]? = some r → r.own = true → r.fam = f → r.vals.len ≤ n) : m.cutFam f n = m := by
  apply List.ext_getElem?
  intro i
  rw [cutFam_get]
  cases hr : m[i]? with
  | none => rfl
  | some r =>
    simp only [Option.map_some]
    split
    · rename_i hc
      have := h i r hr hc.1 hc.2
      unfold Row.cut
      rw [Vals.take_ge _ this]
    · rfl

theorem get_push {m : Heap} {r s : Row} {j : Nat} (h : (m ++ [r])[j]? = some s) : (j < m.length ∧ m[j]? = some s) ∨ (j = m.length ∧ s = r) := by
  rw [List.getElem?_append] at h
  split at h
  · exact .inl ⟨by assumption, h⟩
  · rename_i hge
    have : j - m.length = 0 := by
      rcases Nat.eq_zero_or_pos (j - m.length) with e | e
      · exact e
      · rw [List.getElem?_eq_none (by simp; omega)] at h; cases h
    rw [this] at h
    exact .inr ⟨by omega, by simpa using h.symm⟩

/-- A new row owns itself. -/
theorem owns_new {m : Heap} (hwf : m.wf) (e : TypeId) (v : Vals) : Owns (m ++ [⟨e, m.length, true, v⟩]) ⟨.row m.length, 0, v.len⟩ e v := by
  refine .inr ⟨m.length, m.length, rfl, get_last _ _, fun j r hr _ hf => ?_⟩
  rcases get_push hr with ⟨h1, h2⟩ | ⟨_, rfl⟩
  · have := hwf j r h2
    omega
  · exact Nat.le_refl _

theorem wf_push {m : Heap} (hwf : m.wf) {e f : Nat} {v : Vals} {o : Bool} (hf : f ≤ m.length) : Heap.wf (m ++ [⟨e, f, o, v⟩]) := by
  intro j r hr
  rcases get_push hr with ⟨h1, h2⟩ | ⟨rfl, rfl⟩
  · exact hwf j r h2
  · exact hf

/-- append to a slice of the call's own: all that was there stays. -/
theorem aApp_owns {e : TypeId} {s x : SV} {m : Heap} {K : XV → Heap → Prop} {v u t : Vals} (hwf : m.wf) (hs : Owns m s e v) {xi : Nat} {rx : Row} (hx : x = ⟨.row xi, 0, rx.vals.len⟩) (hrx : m[xi]? = some rx) (hu : rx.vals = u) (hpos : 0 < u.len)
    (hlen : v.len + u.len ≤ 1099511627776) (ht : v.app u = some t) (hk : ∀ (s' : SV) (m' : Heap), m <+: m' → m'.wf → Owns m' s' e t → K (.one (.sl s')) m') : aApp e s x m K := by
  subst hx
  subst hu
  obtain ⟨t1, t2⟩ := Vals.app_spec ht
  rcases hs with ⟨rfl, hv0⟩ | ⟨id, f, rfl, hid, hfam⟩
  · simp only [aApp, hrx, Nat.zero_add, Vals.sub_len]
    refine ⟨⟨Nat.le_refl _, by omega⟩, fun h => absurd h (by omega), fun _ => ?_⟩
    have e1 : rx.vals = t := by
      cases v <;> cases hq : rx.vals <;> rw [hq] at ht <;> simp only [Vals.app] at ht <;> first | (cases ht; done) | skip
      case ints.ints k l k' l' =>
        split at ht
        · rename_i e; cases ht; subst e; simp only [Vals.len] at hv0; rw [List.eq_nil_of_length_eq_zero hv0]; rfl
        · cases ht
      all_goals (cases ht; simp only [Vals.len] at hv0; rw [List.eq_nil_of_length_eq_zero hv0]; rfl)
    rw [e1]
    exact hk _ _ (prefix_push _ _) (wf_push hwf (Nat.le_refl _)) (owns_new hwf e t)
  · simp only [aApp, hrx, hid, Nat.zero_add, Vals.sub_len, Vals.take_len, ht]
    refine ⟨⟨Nat.le_refl _, hlen⟩, ⟨trivial, trivial, Nat.le_refl _, trivial⟩, ?_⟩
    rw [cutFam_self hfam]
    have hil : id < m.length := (List.getElem?_eq_some_iff.1 hid).1
    have hfid := hwf id _ hid
    refine hk _ _ (prefix_push _ _) (wf_push hwf (by simp only at hfid; omega)) (.inr ⟨m.length, f, by rw [t1], get_last _ _, fun j r hr ho hf => ?_⟩)
    rcases get_push hr with ⟨_, h2⟩ | ⟨_, rfl⟩
    · have := hfam j r h2 ho hf; omega
    · exact Nat.le_refl _

theorem Owns.isInts {m : Heap} {s : SV} {e : TypeId} {k : IntKind} {l : List Int} (h : Owns m s e (.ints k l)) : IsInts k m s l := by
  rcases h with ⟨rfl, h0⟩ | ⟨id, f, rfl, hid, _⟩
  · simp only [Vals.len] at h0
    rw [List.eq_nil_of_length_eq_zero h0]; exact isInts_nil k m
  · refine ⟨rfl, fun i hi => ?_⟩
    rw [Nat.zero_add]
    exact at_row hid hi

theorem Owns.isSls {m : Heap} {s : SV} {e : TypeId} {l : List SV} (h : Owns m s e (.sls l)) : IsSls m s l := by
  rcases h with ⟨rfl, h0⟩ | ⟨id, f, rfl, hid, _⟩
  · simp only [Vals.len] at h0
    rw [List.eq_nil_of_length_eq_zero h0]; exact ⟨rfl, fun i hi => by simp at hi⟩
  · refine ⟨rfl, fun i hi => ?_⟩
    rw [Nat.zero_add]
    exact at_row hid hi

/-! ### A store into the last row -/

theorem setRow_last {m : Heap} (hwf : m.wf) (e : TypeId) (v u : Vals) (i : Nat) : Heap.setRow (m ++ [⟨e, m.length, true, v⟩]) m.length i ⟨e, m.length, true, v⟩ u = m ++ [⟨e, m.length, true, u⟩] := by
  have h1 : Heap.cutFam (m ++ [⟨e, m.length, true, v⟩]) m.length i = m ++ [⟨e, m.length, true, v.take i⟩] := by
    unfold Heap.cutFam
    rw [List.map_append]
    congr 1
    · apply List.ext_getElem?
      intro j
      rw [List.getElem?_map]
      cases hr : m[j]? with
      | none => rfl
      | some r =>
        have hj : j < m.length := (List.getElem?_eq_some_iff.1 hr).1
        have := hwf j r hr
        simp only [Option.map_some]
        rw [if_neg (by omega)]
    · simp [Row.cut]
  unfold Heap.setRow
  rw [h1]
  simp

theorem st_last {m : Heap} (hwf : m.wf) {e off : Nat} {v : AV} {vals vs : Vals} {K : Heap → Prop} (hlt : off < vals.len) (hset : vals.set off v = some vs) (hk : K (m ++ [⟨e, m.length, true, vs⟩])) :
    aSt (m ++ [⟨e, m.length, true, vals⟩]) m.length off v K := by
  unfold aSt
  rw [get_last]
  simp only
  refine ⟨⟨trivial, hlt⟩, ?_⟩
  rw [hset]
  simp only
  rw [setRow_last hwf]
  exact hk

end Go.Abs
