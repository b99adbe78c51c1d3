/- The quiet operations of the abstract machine are the program's. Own work; no condition. -/
import Derived.Test.YtkhbihbljdhpbaaAbs
import Derived.Lib.Strings
import Derived.Laws.Tables
import Derived.Laws.BytesString
namespace Go.Abs
open Go.RowKit (Below)

theorem some_bind {α β : Type} {x : Option α} {f : α → Option β} {b : β} (h : x.bind f = some b) : ∃ a, x = some a ∧ f a = some b := by
  cases x with
  | none => cases h
  | some a => exact ⟨a, rfl, h⟩

theorem some_map {α β : Type} {x : Option α} {f : α → β} {b : β} (h : x.map f = some b) : ∃ a, x = some a ∧ f a = b := by
  cases x with
  | none => cases h
  | some a => exact ⟨a, rfl, by cases h; rfl⟩

theorem elem1_spec {P : Program} {t e : TypeId} (h : elem1 P t = some e) : ∃ i, P.underlying t = some (.slice e) ∧ P.info? e = some i ∧ i.size = 1 := by
  unfold elem1 at h
  split at h
  · rename_i e' hu
    split at h
    · rename_i i hi
      split at h
      · rename_i h1; cases h; exact ⟨i, hu, hi, h1⟩
      · cases h
    · cases h
  · cases h

theorem elemZ_spec {P : Program} {t e : TypeId} {v : AV} (h : elemZ P t = some (e, v)) :
    ∃ i z, P.underlying t = some (.slice e) ∧ P.info? e = some i ∧ i.zero = some z ∧ trVal z = some v ∧ i.size = 1 ∧ i.bytes ≤ 64 := by
  unfold elemZ at h
  split at h
  · rename_i e' hu
    split at h
    · rename_i i hi
      split at h
      · rename_i z hz
        split at h
        · rename_i v' hv
          split at h
          · rename_i h1; cases h; exact ⟨i, z, hu, hi, hz, hv, h1.1, h1.2⟩
          · cases h
        · cases h
      · cases h
    · cases h
  · cases h

theorem add_lit (b o n : Nat) : (⟨b, o, none⟩ : Addr).add n = ⟨b, o + n, none⟩ := by
  unfold Addr.add; split <;> simp_all

section
variable {P : Program} {B : Nat} {w0 : World} {μ : Mu} {k : Nat} {a : Act} {σ : Frame} {m : Heap} {K : XV → Prop}

/-- What is to be shown of a quiet operation. -/
def QSound (P : Program) (B : Nat) (w0 : World) (μ : Mu) (a : Act) (m : Heap) (K : XV → Prop) (o : Oper) : Prop :=
  ∃ x, K x ∧ ∀ w, HRel B w0 μ m w → x.ok μ m.length ∧ (execOp a.eval o).run P w = .ok (.value (concX μ x)) w

/-- The same in every world: of an operation that does not look at memory. -/
def QAll (P : Program) (μ : Mu) (a : Act) (m : Heap) (K : XV → Prop) (o : Oper) : Prop :=
  ∃ x, K x ∧ ∀ w, x.ok μ m.length ∧ (execOp a.eval o).run P w = .ok (.value (concX μ x)) w
theorem QAll.q {o : Oper} (h : QAll P μ a m K o) : QSound P B w0 μ a m K o := by
  obtain ⟨x, h1, h2⟩ := h
  exact ⟨x, h1, fun w _ => h2 w⟩

theorem q_mv {o : Oper} {x : Operand} (ho : o.op = .move x ∨ o.op = .assign x) {p : Opd} (hp : trOpd x = some p) (hf : FRel μ m.length σ a.tmps k)
    (h : aopQ (.mv p) σ m K) : QAll P μ a m K o := by
  simp only [aopQ] at h
  split at h
  · rename_i v hv
    obtain ⟨h1, h2⟩ := ev_spec hf hp hv
    refine ⟨v, h, fun w => ⟨h2, ?_⟩⟩
    rcases ho with ho | ho <;> simp [execOp, ho, h1]
  · exact h.elim

theorem q_pick {o : Oper} {c x y : Operand} (ho : o.op = .pick c x y) {pc px py : Opd} (hc : trOpd c = some pc) (hx : trOpd x = some px) (hy : trOpd y = some py)
    (hf : FRel μ m.length σ a.tmps k) (h : aopQ (.pick pc px py) σ m K) : QAll P μ a m K o := by
  simp only [aopQ] at h
  split at h
  · rename_i t ht
    have h1 := (ev_spec hf hc ht).1
    cases t with
    | true =>
      have h2 := h.1 rfl
      split at h2
      · rename_i v hv
        obtain ⟨h3, h4⟩ := ev_spec hf hx hv
        exact ⟨v, h2, fun w => ⟨h4, by simp [execOp, ho, h1, h3, concX, conc, asBool]⟩⟩
      · exact h2.elim
    | false =>
      have h2 := h.2 rfl
      split at h2
      · rename_i v hv
        obtain ⟨h3, h4⟩ := ev_spec hf hy hv
        exact ⟨v, h2, fun w => ⟨h4, by simp [execOp, ho, h1, h3, concX, conc, asBool]⟩⟩
      · exact h2.elim
  · exact h.elim

theorem eqGuard_flat (op : BinOp) (t : TypeId) (x y : Operand) (u v : AV) (w : World) : (eqGuard op t x y (conc μ u) (conc μ v)).run P w = .ok () w := by
  cases u <;> cases v <;> simp only [eqGuard, conc, SV.conc] <;> (repeat' split) <;> first | rfl | simp_all

theorem toList_mk (l : List UInt8) : (⟨l.toArray⟩ : ByteArray).toList = l := by
  rw [Go.Lib.toList_data]

theorem inR_wrap {k : IntKind} {n : Int} (h : inR k n) : k.wrap n = n := by
  cases k <;> try exact h
  simp only [inR] at h
  rw [IntKind.wrap_i64]
  omega

theorem q_bin_int {op : BinOp} {kd kd' : IntKind} {x y : Int} {K : AV → Prop} (h : abin op (.int kd x) (.int kd' y) K) :
    ∃ v, K v ∧ v.ok μ m.length ∧ ∀ t w, (binOp op t (.int kd x) (.int kd' y)).run P w = .ok (conc μ v) w := by
  cases op
  case shl =>
    obtain ⟨⟨h0, h1⟩, h2, h⟩ := h
    refine ⟨_, h, trivial, fun t w => ?_⟩
    have hm : min y.toNat kd.bits = y.toNat := by omega
    simp [binOp, Op.shift, Int.not_lt.2 h0, conc, hm, inR_wrap h2]
  case shr =>
    obtain ⟨⟨h0, h1⟩, h⟩ := h
    refine ⟨_, h, trivial, fun t w => ?_⟩
    have hm : min y.toNat kd.bits = y.toNat := by omega
    simp [binOp, Op.shift, Int.not_lt.2 h0, conc, hm, Int.fdiv_eq_ediv_of_nonneg _ (show (0 : Int) ≤ 2 ^ y.toNat from Int.le_of_lt (Int.pow_pos (by decide)))]
  case quo =>
    simp only [abin] at h; obtain ⟨rfl, ⟨h0, h1⟩, h2, h⟩ := h
    refine ⟨_, h, trivial, fun t w => ?_⟩
    have hz : y ≠ 0 := by omega
    simp [binOp, Op.intDiv, hz, conc, Int.tdiv_eq_ediv_of_nonneg h0, inR_wrap h2]
  case rem =>
    simp only [abin] at h; obtain ⟨rfl, ⟨h0, h1⟩, h⟩ := h
    refine ⟨_, h, trivial, fun t w => ?_⟩
    have hz : y ≠ 0 := by omega
    have e : Int.tmod x y = x % y := by
      rcases h0 with h0 | h0
      · exact Int.tmod_eq_emod_of_nonneg h0
      · rw [h0]; exact Int.tmod_eq_zero_of_dvd (Int.dvd_of_emod_eq_zero h0)
    simp [binOp, Op.intDiv, hz, conc, e]
  case add =>
    simp only [abin] at h; obtain ⟨rfl, h2, h⟩ := h
    exact ⟨_, h, trivial, fun t w => by simp [binOp, Op.intArith, conc, inR_wrap h2]⟩
  case sub =>
    simp only [abin] at h; obtain ⟨rfl, h2, h⟩ := h
    exact ⟨_, h, trivial, fun t w => by simp [binOp, Op.intArith, conc, inR_wrap h2]⟩
  case mul =>
    simp only [abin] at h; obtain ⟨rfl, h2, h⟩ := h
    exact ⟨_, h, trivial, fun t w => by simp [binOp, Op.intArith, conc, inR_wrap h2]⟩
  case eql =>
    simp only [abin] at h; obtain ⟨rfl, h⟩ := h
    exact ⟨_, h, trivial, fun t w => by simp only [binOp, Op.intCmp, conc, ne_eq, not_true_eq_false, if_false, Sem.run_pure]; congr 2 <;> (rw [Bool.eq_iff_iff]; simp)⟩
  case neq =>
    simp only [abin] at h; obtain ⟨rfl, h⟩ := h
    exact ⟨_, h, trivial, fun t w => by simp only [binOp, Op.intCmp, conc, ne_eq, not_true_eq_false, if_false, Sem.run_pure]; congr 2 <;> (rw [Bool.eq_iff_iff]; simp)⟩
  all_goals
    simp only [abin] at h; obtain ⟨rfl, h⟩ := h
    exact ⟨_, h, trivial, fun t w => by simp [binOp, Op.intBits, Op.intCmp, conc, bandInt, borInt, bxorInt, bandNotInt]⟩

theorem q_bin_str {op : BinOp} {x y : List UInt8} {K : AV → Prop} (h : abin op (.str x) (.str y) K) :
    ∃ v, K v ∧ v.ok μ m.length ∧ ∀ t w, (binOp op t (conc μ (.str x)) (conc μ (.str y))).run P w = .ok (conc μ v) w := by
  cases op <;> simp only [abin] at h
  case add =>
    refine ⟨_, h.2, trivial, fun t w => ?_⟩
    have h1 : ¬ (IntKind.i64.max < ((x.length + y.length : Nat) : Int)) := by
      have : IntKind.i64.max = 9223372036854775807 := by decide
      rw [this]; omega
    simp only [binOp, Op.stringOp, conc]
    rw [if_neg (by simpa [ByteArray.size] using h1)]
    show Result.ok _ w = _
    congr 2
  case eql => exact ⟨_, h, trivial, fun t w => by simp only [binOp, Op.stringOp, conc, toList_mk, Sem.run_pure]; congr 2 <;> (rw [Bool.eq_iff_iff]; simp)⟩
  case neq => exact ⟨_, h, trivial, fun t w => by simp only [binOp, Op.stringOp, conc, toList_mk, Sem.run_pure]; congr 2 <;> (rw [Bool.eq_iff_iff]; simp)⟩

theorem q_bin {o : Oper} {op : BinOp} {t u : TypeId} {x y : Operand} (ho : o.op = .binOp op t x y u) {px py : Opd} (hx : trOpd x = some px) (hy : trOpd y = some py)
    (hf : FRel μ m.length σ a.tmps k) (h : aopQ (.bin op px py) σ m K) : QAll P μ a m K o := by
  simp only [aopQ] at h
  split at h
  · rename_i u v hu hv
    have h1 := (ev_spec hf hx hu).1
    have h2 := (ev_spec hf hy hv).1
    have key : ∃ r, K (.one r) ∧ r.ok μ m.length ∧ ∀ t w, (binOp op t (conc μ u) (conc μ v)).run P w = .ok (conc μ r) w := by
      cases u <;> cases v
      case int.int => exact q_bin_int h
      case str.str => exact q_bin_str h
      all_goals (cases op <;> exact h.elim)
    obtain ⟨r, hr, hok, hrun⟩ := key
    refine ⟨_, hr, fun w => ⟨hok, ?_⟩⟩
    simp only [execOp, ho, h1, h2, concX, Sem.run_bind, eqGuard_flat, Result.andThen_ok, hrun, Sem.run_pure]
  · exact h.elim

theorem isBool_spec {t : TypeId} (h : isBool P t = true) : P.underlying t = some .bool := by
  unfold isBool at h
  split at h <;> simp_all

theorem run_under {t : TypeId} {d : TypeDesc} (h : P.underlying t = some d) (w : World) : (underlying t).run P w = .ok d w := by
  simp [underlying, h]

theorem run_equal_bool {t : TypeId} (h : P.underlying t = some .bool) (x y : Bool) (w : World) : (Op.equal t (.bool x) (.bool y)).run P w = .ok (x == y) w := by
  show (Op.equalIn (9999 + 1) t (.bool x) (.bool y)).run P w = _
  rw [Op.equalIn]
  simp [run_under h]

theorem q_eqb {o : Oper} {neg : Bool} {t u : TypeId} {x y : Operand} (ho : o.op = .binOp (if neg then .neq else .eql) t x y u) (hb : isBool P t = true)
    {px py : Opd} (hx : trOpd x = some px) (hy : trOpd y = some py)
    (hf : FRel μ m.length σ a.tmps k) (h : aopQ (.eqb neg px py) σ m K) : QAll P μ a m K o := by
  simp only [aopQ] at h
  split at h
  · rename_i u v hu hv
    have h1 := (ev_spec hf hx hu).1
    have h2 := (ev_spec hf hy hv).1
    refine ⟨_, h, fun w => ⟨trivial, ?_⟩⟩
    have he := run_equal_bool (isBool_spec hb) u v w
    have hg : ∀ op, (eqGuard op t x y (.bool u) (.bool v)).run P w = .ok () w := fun op => eqGuard_flat (μ := μ) op t x y (.bool u) (.bool v) w
    cases neg <;> simp only [execOp, ho, h1, h2, concX, conc, Sem.run_bind, hg, binOp, he, Result.andThen_ok, Sem.run_pure, if_true, if_false, Bool.false_eq_true] <;> congr 3 <;> cases u <;> cases v <;> rfl
  · exact h.elim

theorem q_un {o : Oper} {op : UnOp} {t : TypeId} {x : Operand} (ho : o.op = .unOp op t x) {px : Opd} (hx : trOpd x = some px)
    (hf : FRel μ m.length σ a.tmps k) (h : aopQ (.un op px) σ m K) : QAll P μ a m K o := by
  simp only [aopQ] at h
  split at h
  · rename_i u hu
    have h1 := (ev_spec hf hx hu).1
    cases op <;> cases u <;> first | exact h.elim | skip
    · obtain ⟨h2, h⟩ := h
      have e := inR_wrap h2
      rw [Int.zero_sub] at e
      exact ⟨_, h, fun w => ⟨trivial, by simp [execOp, ho, h1, concX, conc, Op.unary, Op.intArith, e]⟩⟩
    · exact ⟨_, h, fun w => ⟨trivial, by simp [execOp, ho, h1, concX, conc, Op.unary]⟩⟩
  · exact h.elim

theorem q_conv {o : Oper} {s t : TypeId} {x : Operand} (ho : o.op = .convert s t x) {kd : IntKind} (hs : isInt P s = true) (ht : intKind? P t = some kd) {px : Opd} (hx : trOpd x = some px)
    (hf : FRel μ m.length σ a.tmps k) (h : aopQ (.conv kd px) σ m K) : QAll P μ a m K o := by
  simp only [aopQ] at h
  split at h
  · rename_i kn n hn
    have h1 := (ev_spec hf hx hn).1
    unfold isInt at hs
    split at hs
    · rename_i k1 hu
      unfold intKind? at ht
      split at ht
      · rename_i k2 hu2
        cases ht
        have key : ∀ w, (execOp a.eval o).run P w = .ok (.value (.int kd (kd.wrap n))) w := fun w => by
          have r1 := run_under hu w
          have r2 := run_under hu2 w
          simp [execOp, ho, h1, concX, conc, convert, r1, r2, Conv.intToInt]
        split at h
        · obtain ⟨h2, h⟩ := h
          exact ⟨_, h, fun w => ⟨trivial, by rw [key w, inR_wrap h2]; rfl⟩⟩
        · exact ⟨_, h, fun w => ⟨trivial, key w⟩⟩
      · cases ht
    · cases hs
  · exact h.elim

theorem q_idx {o : Oper} {t : TypeId} {x i : Operand} (ho : o.op = .indexAddr t x i) (he : (elem1 P t).isSome = true) {px pi : Opd} (hx : trOpd x = some px) (hi : trOpd i = some pi)
    (hf : FRel μ m.length σ a.tmps k) (h : aopQ (.idx px pi) σ m K) : QAll P μ a m K o := by
  simp only [aopQ] at h
  split at h
  · rename_i s kn n hs hn
    obtain ⟨h1, hok⟩ := ev_spec hf hx hs
    have h2 := (ev_spec hf hi hn).1
    obtain ⟨e, he⟩ := Option.isSome_iff_exists.1 he
    obtain ⟨ti, hu, hinf, hsz⟩ := elem1_spec he
    obtain ⟨h3, h⟩ := h
    obtain ⟨r, off, len⟩ := s
    cases r with
    | nil =>
      cases hok
      simp only at h3
      omega
    | far a =>
      cases hok
      simp only at h3
      omega
    | row id =>
      refine ⟨_, h, fun w => ⟨hok.1, ?_⟩⟩
      have r1 := run_under hu w
      have h4 : 0 ≤ n ∧ n < (len : Int) := h3
      simp [execOp, ho, h1, h2, concX, conc, SV.conc, Instr.indexAt, asIntOf, r1, h4, sizeOf, typeInfo, hinf, hsz, add_lit, Nat.add_assoc, Ref.id]
  · exact h.elim

theorem arr1_spec {t : TypeId} {n : Nat} (h : arr1 P t = some n) : ∃ e ti, P.underlying t = some (.array n e) ∧ P.info? e = some ti ∧ ti.size = 1 := by
  unfold arr1 at h
  split at h
  · rename_i n' e hu
    split at h
    · rename_i ti hi
      split at h
      · rename_i h1
        cases h
        exact ⟨e, ti, hu, hi, h1⟩
      · cases h
    · cases h
  · cases h

theorem q_aidx {o : Oper} {t : TypeId} {x i : Operand} (ho : o.op = .indexAddr t x i) {n : Nat} (he : arr1 P t = some n) {px pi : Opd} (hx : trOpd x = some px) (hi : trOpd i = some pi)
    (hf : FRel μ m.length σ a.tmps k) (h : aopQ (.aidx px pi n) σ m K) : QAll P μ a m K o := by
  simp only [aopQ] at h
  split at h
  · rename_i id off kn j hs hn
    obtain ⟨h1, hok⟩ := ev_spec hf hx hs
    have h2 := (ev_spec hf hi hn).1
    obtain ⟨e, ti, hu, hinf, hsz⟩ := arr1_spec he
    obtain ⟨h3, h⟩ := h
    refine ⟨_, h, fun w => ⟨hok, ?_⟩⟩
    have r1 := run_under hu w
    simp [execOp, ho, h1, h2, concX, conc, Instr.indexAt, Instr.sureAddr, asIntOf, r1, h3, sizeOf, typeInfo, hinf, hsz, add_lit, Nat.add_assoc]
  · exact h.elim

theorem q_aixn {o : Oper} {t : TypeId} {x i : Operand} (ho : o.op = .indexAddr t x i) {nk : Nat × Nat} (he : arrN P t = some nk) {px pi : Opd} (hx : trOpd x = some px) (hi : trOpd i = some pi)
    (hf : FRel μ m.length σ a.tmps k) (h : aopQ (.aixn px pi nk.1 nk.2) σ m K) : QAll P μ a m K o := by
  obtain ⟨n, c⟩ := nk
  simp only [aopQ] at h
  split at h
  · rename_i id off kn j hs hn
    obtain ⟨h1, hok⟩ := ev_spec hf hx hs
    have h2 := (ev_spec hf hi hn).1
    unfold arrN at he
    split at he
    · rename_i n' e hu
      obtain ⟨ti, hinf, hc⟩ := Option.map_eq_some_iff.1 he
      cases hc
      obtain ⟨h3, h⟩ := h
      refine ⟨_, h, fun w => ⟨hok, ?_⟩⟩
      have r1 := run_under hu w
      simp [execOp, ho, h1, h2, concX, conc, Instr.indexAt, Instr.sureAddr, asIntOf, r1, h3, sizeOf, typeInfo, hinf, add_lit, Nat.add_assoc]
    · cases he
  · exact h.elim

theorem trFld_spec {s : TypeId} {f off : Nat} (h : trFld P s f = some off) : ∃ fields fd i, P.underlying s = some (.struct fields) ∧ fields[f]? = some fd ∧ P.info? fd.type = some i ∧ i.size ≠ 0 ∧ fd.offset = off := by
  unfold trFld at h
  split at h
  · rename_i fields hu
    split at h
    · rename_i fd hfd
      split at h
      · rename_i i hi
        split at h
        · cases h
        · rename_i h1; cases h; exact ⟨fields, fd, i, hu, hfd, hi, h1, rfl⟩
      · cases h
    · cases h
  · cases h

theorem q_fld {o : Oper} {s : TypeId} {x : Operand} {f off : Nat} (ho : o.op = .fieldAddr s x f) (he : trFld P s f = some off) {px : Opd} (hx : trOpd x = some px)
    (hf : FRel μ m.length σ a.tmps k) (h : aopQ (.fld px off) σ m K) : QAll P μ a m K o := by
  simp only [aopQ] at h
  split at h
  · rename_i id o1 hp
    obtain ⟨h1, hok⟩ := ev_spec hf hx hp
    obtain ⟨fields, fd, ti, hu, hfd, hinf, hsz, rfl⟩ := trFld_spec he
    refine ⟨_, h, fun w => ⟨hok, ?_⟩⟩
    have r1 := run_under hu w
    simp [execOp, ho, h1, concX, conc, Instr.fieldAt, r1, hfd, Instr.sureAddr, fieldPlace, sizeOf, typeInfo, hinf, hsz, add_lit, Nat.add_assoc]
  · exact h.elim

theorem plain1_spec {t : TypeId} (h : plain1 P t = true) (w : World) : (isAgg t).run P w = .ok false w := by
  unfold plain1 at h
  split at h
  · cases h
  · cases h
  · cases h
  · rename_i d h1 h2 hu
    simp only [isAgg, Sem.run_bind, run_under hu, Result.andThen_ok]
    cases d <;> first | rfl | exact absurd hu (h1 _) | exact absurd hu (h2 _ _)

theorem q_ld {o : Oper} {t : TypeId} {x : Operand} (ho : o.op = .load t x) (ht : plain1 P t = true) {px : Opd} (hx : trOpd x = some px)
    (hf : FRel μ m.length σ a.tmps k) (h : aopQ (.ld px) σ m K) : QSound P B w0 μ a m K o := by
  simp only [aopQ] at h
  split at h
  · rename_i id off hp
    obtain ⟨h1, hok⟩ := ev_spec hf hx hp
    unfold onSome Heap.at at h
    cases hr : m[id]? with
    | none => simp only [hr] at h
    | some r =>
      simp only [hr] at h
      by_cases hlt : off < r.vals.len
      · simp only [hlt, if_true] at h
        refine ⟨_, h, fun w hw => ⟨(hw.rows id r hr).ok off hlt, ?_⟩⟩
        have hc := (hw.rows id r hr).cell hlt
        simp [execOp, ho, h1, concX, conc, Instr.loadAt, Instr.sureAddr, loadVar, plain1_spec ht, hc]
      · simp only [hlt, if_false] at h
  · exact h.elim

theorem aggN_spec {t : TypeId} {n : Nat} (h : aggN P t = some n) (w : World) : (isAgg t).run P w = .ok true w ∧ (sizeOf t).run P w = .ok n w ∧ (P.info? t).map (·.size) = some n := by
  unfold aggN at h
  have key : ∀ d, P.underlying t = some d → (match d with | .struct .. | .array .. => true | _ => false) = true → (P.info? t).map (·.size) = some n → (isAgg t).run P w = .ok true w ∧ (sizeOf t).run P w = .ok n w ∧ (P.info? t).map (·.size) = some n := by
    intro d hu hd hn
    refine ⟨?_, ?_, hn⟩
    · simp only [isAgg, Sem.run_bind, run_under hu, Result.andThen_ok]
      cases d <;> simp_all
    · cases hi : P.info? t with
      | none => rw [hi] at hn; cases hn
      | some i => rw [hi] at hn; simp at hn; simp [sizeOf, typeInfo, hi, hn]
  split at h
  · rename_i fs hu; exact key _ hu rfl h
  · rename_i a b hu; exact key _ hu rfl h
  · cases h

theorem cells_get (v : Vals) (o n : Nat) {j : Nat} (h : j < n) : (v.cells o n)[j]? = some (v.get (o + j)) := by simp [Vals.cells, h]
theorem cells_len (v : Vals) (o n : Nat) : (v.cells o n).length = n := by simp [Vals.cells]

theorem q_lda {o : Oper} {t : TypeId} {x : Operand} {n : Nat} (ho : o.op = .load t x) (ht : aggN P t = some n) {px : Opd} (hx : trOpd x = some px)
    (hf : FRel μ m.length σ a.tmps k) (h : aopQ (.lda px n) σ m K) : QSound P B w0 μ a m K o := by
  simp only [aopQ] at h
  split at h
  · rename_i id off hp
    obtain ⟨h1, hok⟩ := ev_spec hf hx hp
    unfold onCells Heap.cells at h
    cases hr : m[id]? with
    | none => simp only [hr] at h
    | some r =>
      simp only [hr] at h
      by_cases hlt : off + n ≤ r.vals.len
      · simp only [hlt, if_true] at h
        refine ⟨_, h, fun w hw => ⟨fun v hv => ?_, ?_⟩⟩
        · obtain ⟨i, hi, rfl⟩ := List.mem_map.1 hv
          have := List.mem_range.1 hi
          exact (hw.rows id r hr).ok _ (by omega)
        · obtain ⟨g1, g2, _⟩ := aggN_spec ht w
          have hl := run_loadCells_list (P := P) w ⟨(μ id).blk, (μ id).off + off, none⟩ ((r.vals.cells off n).map (conc μ)) (fun j v hj => by
            rw [List.getElem?_map] at hj
            obtain ⟨u, hu, rfl⟩ := some_map hj
            have hjn : j < n := by have := (List.getElem?_eq_some_iff.1 hu).1; rwa [cells_len] at this
            rw [cells_get _ _ _ hjn] at hu
            cases hu
            rw [add_lit, Nat.add_assoc]
            exact (hw.rows id r hr).cell (by omega))
          rw [List.length_map, cells_len] at hl
          have e1 : a.eval x = .pointer (some ⟨(μ id).blk, (μ id).off + off, none⟩) := h1
          have hlv : (Instr.loadAt t (.pointer (some ⟨(μ id).blk, (μ id).off + off, none⟩))).run P w = .ok (concX μ (.agg (r.vals.cells off n))) w := by
            simp [Instr.loadAt, Instr.sureAddr, loadVar, g1, g2, hl, concX]
          simp only [execOp, ho, e1, Sem.run_bind, hlv, Result.andThen_ok, Sem.run_pure]
      · simp only [hlt, if_false] at h
  · exact h.elim

theorem q_nilck {o : Oper} {x : Operand} (ho : o.op = .nilCheck x) {px : Opd} (hx : trOpd x = some px)
    (hf : FRel μ m.length σ a.tmps k) (h : aopQ (.nilck px) σ m K) : QAll P μ a m K o := by
  simp only [aopQ] at h
  split at h
  · rename_i id off hp
    obtain ⟨h1, hok⟩ := ev_spec hf hx hp
    exact ⟨_, h, fun w => ⟨hok, by simp [execOp, ho, h1, concX, conc]⟩⟩
  · exact h.elim

theorem q_ext {o : Oper} {x : Operand} {i : Nat} (ho : o.op = .extract x i) {px : Opd} (hx : trOpd x = some px)
    (hf : FRel μ m.length σ a.tmps k) (h : aopQ (.ext px i) σ m K) : QAll P μ a m K o := by
  simp only [aopQ] at h
  split at h
  · rename_i l hl
    obtain ⟨h1, hok⟩ := ev_spec hf hx hl
    split at h
    · rename_i v hv
      refine ⟨_, h, fun w => ⟨hok v (List.mem_of_getElem? hv), ?_⟩⟩
      have : (List.map (conc μ) l).toArray[i]? = some (conc μ v) := by simp [hv]
      simp [execOp, ho, h1, concX, Instr.extract, hv]
    · exact h.elim
  · exact h.elim

theorem q_len {o : Oper} {x : Operand} {t : TypeId} (ho : o.op = .call { callee := .builtin .len, args := #[x], argTypes := #[t] }) (ht : isSlice P t = true) {px : Opd} (hx : trOpd x = some px)
    (hf : FRel μ m.length σ a.tmps k) (h : aopQ (.len px) σ m K) : QAll P μ a m K o := by
  simp only [aopQ] at h
  split at h
  · rename_i s hs
    obtain ⟨h1, hok⟩ := ev_spec hf hx hs
    unfold isSlice at ht
    split at ht
    · rename_i e hu
      refine ⟨_, h, fun w => ⟨trivial, ?_⟩⟩
      have r1 := run_under hu w
      obtain ⟨r, o1, l⟩ := s
      cases r with
      | nil =>
        cases hok
        simp [execOp, ho, h1, concX, conc, SV.conc, resolve, invoke, builtin, Builtin.len_, r1, goInt]
      | far a =>
        cases hok
        simp [execOp, ho, h1, concX, conc, SV.conc, resolve, invoke, builtin, Builtin.len_, r1, goInt]
      | row id => simp [execOp, ho, h1, concX, conc, SV.conc, resolve, invoke, builtin, Builtin.len_, r1, goInt]
    · cases ht
  · exact h.elim

theorem q_slen {o : Oper} {x : Operand} {t : TypeId} (ho : o.op = .call { callee := .builtin .len, args := #[x], argTypes := #[t] }) (ht : isStr P t = true) {px : Opd} (hx : trOpd x = some px)
    (hf : FRel μ m.length σ a.tmps k) (h : aopQ (.slen px) σ m K) : QAll P μ a m K o := by
  simp only [aopQ] at h
  split at h
  · rename_i s hs
    obtain ⟨h1, hok⟩ := ev_spec hf hx hs
    unfold isStr at ht
    split at ht
    · rename_i hu
      refine ⟨_, h, fun w => ⟨trivial, ?_⟩⟩
      have r1 := run_under hu w
      have hl : (Builtin.len_ #[t] o.type #[.string ⟨s.toArray⟩]).run P w = .ok (.int .i64 s.length) w := by
        simp [Builtin.len_, r1, goInt]
        rfl
      simp only [execOp, ho, resolve, invoke, builtin, h1, concX, conc, Sem.run_bind, Sem.run_pure, Result.andThen_ok, List.map_toArray, List.map_cons, List.map_nil, hl]
    · cases ht
  · exact h.elim

theorem q_mn {o : Oper} {x y : Operand} {ts : Array TypeId} (ho : o.op = .call { callee := .builtin .min, args := #[x, y], argTypes := ts }) {px py : Opd} (hx : trOpd x = some px) (hy : trOpd y = some py)
    (hf : FRel μ m.length σ a.tmps k) (h : aopQ (.mn px py) σ m K) : QAll P μ a m K o := by
  simp only [aopQ] at h
  split at h
  · rename_i k1 u k2 v hu hv
    obtain ⟨rfl, h⟩ := h
    have h1 := (ev_spec hf hx hu).1
    have h2 := (ev_spec hf hy hv).1
    refine ⟨_, h, fun w => ⟨trivial, ?_⟩⟩
    simp [execOp, ho, h1, h2, concX, conc, resolve, invoke, builtin, Builtin.min_, Builtin.min2]
    split <;> omega
  · exact h.elim

theorem q_mx {o : Oper} {x y : Operand} {ts : Array TypeId} (ho : o.op = .call { callee := .builtin .max, args := #[x, y], argTypes := ts }) {px py : Opd} (hx : trOpd x = some px) (hy : trOpd y = some py)
    (hf : FRel μ m.length σ a.tmps k) (h : aopQ (.mx px py) σ m K) : QAll P μ a m K o := by
  simp only [aopQ] at h
  split at h
  · rename_i k1 u k2 v hu hv
    obtain ⟨rfl, h⟩ := h
    have h1 := (ev_spec hf hx hu).1
    have h2 := (ev_spec hf hy hv).1
    refine ⟨_, h, fun w => ⟨trivial, ?_⟩⟩
    simp [execOp, ho, h1, h2, concX, conc, resolve, invoke, builtin, Builtin.max_, Builtin.max2]
    split <;> omega
  · exact h.elim


theorem ite_some {α : Type} {p : Prop} [Decidable p] {x y : α} (h : (if p then some x else none) = some y) : p ∧ x = y := by
  split at h
  · rename_i hp; cases h; exact ⟨hp, rfl⟩
  · cases h

theorem run_sub {t e : TypeId} {ti : TypeInfo} (hu : P.underlying t = some (.slice e)) (hi : P.info? e = some ti) (hs : ti.size = 1) (ad : Option Addr) (len cap : Nat) (lv hv : Option Value) (l h : Nat)
    (hl : (lv = none ∧ l = 0) ∨ ∃ k, lv = some (.int k l)) (hh : (hv = none ∧ h = len) ∨ ∃ k, hv = some (.int k h)) (h1 : l ≤ h) (h2 : h ≤ cap) (w : World) :
    (Instr.sliceAt t (.slice ad len cap) lv hv none).run P w = .ok (.slice (if cap = l then ad else ad.map (·.add l)) (h - l) (cap - l)) w := by
  have r1 := run_under hu w
  have b : (Instr.sliceBounds true len cap lv hv none).run P w = .ok (l, h, cap) w := by
    rcases hl with ⟨rfl, rfl⟩ | ⟨k1, rfl⟩ <;> rcases hh with ⟨rfl, rfl⟩ | ⟨k2, rfl⟩
    · simp [Instr.sliceBounds]
    · simp [Instr.sliceBounds, Instr.sliceBound, asIntOf, h2]
    · simp [Instr.sliceBounds, Instr.sliceBound, asIntOf, h1]
    · simp [Instr.sliceBounds, Instr.sliceBound, asIntOf, h1, h2]
  simp [Instr.sliceAt, Instr.slice, r1, b, sizeOf, typeInfo, hi, hs]

theorem evOr_spec {hf : FRel μ m.length σ a.tmps k} {d : Int} {lo : Option Operand} {pl : Option Opd} (hl : trOpdO lo = some pl) {kd : IntKind} {l : Int} (h : σ.evOr d pl = some (.one (.int kd l))) :
    (lo.map a.eval = none ∧ l = d) ∨ lo.map a.eval = some (.int kd l) := by
  cases lo with
  | none =>
    cases hl
    cases h
    exact .inl ⟨rfl, rfl⟩
  | some x =>
    obtain ⟨px, hp, rfl⟩ := some_map hl
    have := (ev_spec hf hp h).1
    exact .inr (by rw [Option.map_some, this]; rfl)

theorem q_sub {o : Oper} {t : TypeId} {x : Operand} {lo hi : Option Operand} (ho : o.op = .slice t x lo hi none) (he : (elem1 P t).isSome = true) {px : Opd} (hx : trOpd x = some px)
    {pl ph : Option Opd} (hl : trOpdO lo = some pl) (hh : trOpdO hi = some ph)
    (hf : FRel μ m.length σ a.tmps k) (h : aopQ (.sub px pl ph) σ m K) : QAll P μ a m K o := by
  simp only [aopQ] at h
  split at h
  · rename_i s k1 l hs hlv
    obtain ⟨h1, hok⟩ := ev_spec hf hx hs
    split at h
    · rename_i k2 hv hhv
      obtain ⟨⟨h2, h3, h4⟩, h5, h6⟩ := h
      obtain ⟨e, he⟩ := Option.isSome_iff_exists.1 he
      obtain ⟨ti, hu, hinf, hsz⟩ := elem1_spec he
      have el := evOr_spec (hf := hf) hl hlv
      have eh := evOr_spec (hf := hf) hh hhv
      obtain ⟨l, rfl⟩ := Int.eq_ofNat_of_zero_le h2
      obtain ⟨hv, rfl⟩ := Int.eq_ofNat_of_zero_le (Int.le_trans h2 h3)
      obtain ⟨r, o1, ln⟩ := s
      simp only at h4 h5 eh h6
      have el' : (lo.map a.eval = none ∧ l = 0) ∨ ∃ k, lo.map a.eval = some (.int k l) := by
        rcases el with ⟨e1, e2⟩ | e1
        · exact .inl ⟨e1, by omega⟩
        · exact .inr ⟨_, e1⟩
      have eh' : (hi.map a.eval = none ∧ hv = ln) ∨ ∃ k, hi.map a.eval = some (.int k hv) := by
        rcases eh with ⟨e1, e2⟩ | e1
        · exact .inl ⟨e1, by omega⟩
        · exact .inr ⟨_, e1⟩
      cases r with
      | nil =>
        cases hok
        refine ⟨_, h6, fun w => ?_⟩
        have := run_sub hu hinf hsz none 0 0 _ _ l hv el' eh' (by omega) (by omega) w
        have hz : l = 0 := by omega
        subst hz
        have hz : hv = 0 := by omega
        subst hz
        refine ⟨rfl, ?_⟩
        show _ = Result.ok (Next.value (.slice none 0 0)) w
        simp only [execOp, ho, h1, concX, conc, SV.conc, Sem.run_bind, Option.map_none, this, Result.andThen_ok, Sem.run_pure]
        rfl
      | far fa =>
        cases hok
        refine ⟨_, h6, fun w => ?_⟩
        have := run_sub hu hinf hsz (some fa) 0 0 _ _ l hv el' eh' (by omega) (by omega) w
        have hz : l = 0 := by omega
        subst hz
        have hz : hv = 0 := by omega
        subst hz
        refine ⟨rfl, ?_⟩
        show _ = Result.ok (Next.value (.slice (some fa) 0 0)) w
        simp only [execOp, ho, h1, concX, conc, SV.conc, Sem.run_bind, Option.map_none, this, Result.andThen_ok, Sem.run_pure]
        rfl
      | row id =>
        obtain ⟨ho1, ho2⟩ := hok
        simp only at ho2
        by_cases hq : (μ id).cap - o1 = l ∧ ¬ l = 0
        · obtain ⟨hq1, hq2⟩ := hq
          refine ⟨_, h5.resolve_left (by omega) ⟨(μ id).blk, (μ id).off + o1, none⟩, fun w => ⟨rfl, ?_⟩⟩
          have := run_sub hu hinf hsz (some ⟨(μ id).blk, (μ id).off + o1, none⟩) ln ((μ id).cap - o1) _ _ l hv el' eh' (by omega) (by omega) w
          rw [if_pos hq1, show hv - l = 0 by omega, show (μ id).cap - o1 - l = 0 by omega] at this
          simp only [execOp, ho, h1, concX, conc, SV.conc, Sem.run_bind, Option.map_none, this, Result.andThen_ok, Sem.run_pure]
        · refine ⟨_, h6, fun w => ?_⟩
          have := run_sub hu hinf hsz (some ⟨(μ id).blk, (μ id).off + o1, none⟩) ln ((μ id).cap - o1) _ _ l hv el' eh' (by omega) (by omega) w
          refine ⟨⟨ho1, ?_⟩, ?_⟩
          · simp only [Int.toNat_natCast]; omega
          · simp only [execOp, ho, h1, concX, conc, SV.conc, Sem.run_bind, Option.map_none, this, Result.andThen_ok, Sem.run_pure, Int.toNat_natCast, Option.map_some, add_lit]
            have e1 : (if (μ id).cap - o1 = l then some (⟨(μ id).blk, (μ id).off + o1, none⟩ : Addr) else some ⟨(μ id).blk, (μ id).off + o1 + l, none⟩) = some ⟨(μ id).blk, (μ id).off + (o1 + l), none⟩ := by
              by_cases hz : l = 0
              · subst hz; simp
              · rw [if_neg fun c => hq ⟨c, hz⟩]; simp [Nat.add_assoc]
            rw [e1, Nat.sub_sub]
    · exact h.elim
  · exact h.elim

theorem getB (l : List UInt8) {j : Nat} (h : j < l.length) : (⟨l.toArray⟩ : ByteArray)[j]? = some (l.getD j 0) := by
  have h' : j < (⟨l.toArray⟩ : ByteArray).size := h
  have e := getElem?_pos (⟨l.toArray⟩ : ByteArray) j h'
  rw [e, List.getD_eq_getElem?_getD, List.getElem?_eq_getElem h]
  rfl
theorem q_sidx {o : Oper} {t : TypeId} {x i : Operand} (ho : o.op = .index t x i) (ht : isStr P t = true) {px pi : Opd} (hx : trOpd x = some px) (hi : trOpd i = some pi)
    (hf : FRel μ m.length σ a.tmps k) (h : aopQ (.sidx px pi) σ m K) : QAll P μ a m K o := by
  simp only [aopQ] at h
  split at h
  · rename_i s kn n hs hn
    obtain ⟨h1, hok⟩ := ev_spec hf hx hs
    have h2 := (ev_spec hf hi hn).1
    obtain ⟨h3, h⟩ := h
    unfold isStr at ht
    split at ht
    · rename_i hu
      refine ⟨_, h, fun w => ⟨trivial, ?_⟩⟩
      have r1 := run_under hu w
      have g := getB s (j := n.toNat) (by omega)
      simp [execOp, ho, h1, h2, concX, conc, Instr.index, asIntOf, r1, h3.1, g]
    · cases ht
  · exact h.elim

theorem extB (s : List UInt8) (l h : Nat) : (⟨s.toArray⟩ : ByteArray).extract l h = ⟨((s.drop l).take (h - l)).toArray⟩ := by
  apply ByteArray.ext
  rw [ByteArray.data_extract]
  simp [List.extract_eq_take_drop]
theorem q_ssub {o : Oper} {t : TypeId} {x : Operand} {lo hi : Option Operand} (ho : o.op = .slice t x lo hi none) (ht : isStr P t = true) {px : Opd} (hx : trOpd x = some px)
    {pl ph : Option Opd} (hl : trOpdO lo = some pl) (hh : trOpdO hi = some ph)
    (hf : FRel μ m.length σ a.tmps k) (h : aopQ (.ssub px pl ph) σ m K) : QAll P μ a m K o := by
  simp only [aopQ] at h
  split at h
  · rename_i s k1 l hs hlv
    split at h
    · rename_i k2 hv hhv
      obtain ⟨h1, hok⟩ := ev_spec hf hx hs
      obtain ⟨⟨h2, h3, h4⟩, h6⟩ := h
      have el := evOr_spec (hf := hf) hl hlv
      have eh := evOr_spec (hf := hf) hh hhv
      obtain ⟨l, rfl⟩ := Int.eq_ofNat_of_zero_le h2
      obtain ⟨hv, rfl⟩ := Int.eq_ofNat_of_zero_le (Int.le_trans h2 h3)
      unfold isStr at ht
      split at ht
      · rename_i hu
        refine ⟨_, h6, fun w => ⟨trivial, ?_⟩⟩
        have r1 := run_under hu w
        have el' : (lo.map a.eval = none ∧ l = 0) ∨ ∃ k, lo.map a.eval = some (.int k l) := by
          rcases el with ⟨e1, e2⟩ | e1
          · exact .inl ⟨e1, by omega⟩
          · exact .inr ⟨_, e1⟩
        have eh' : (hi.map a.eval = none ∧ hv = s.length) ∨ ∃ k, hi.map a.eval = some (.int k hv) := by
          rcases eh with ⟨e1, e2⟩ | e1
          · exact .inl ⟨e1, by omega⟩
          · exact .inr ⟨_, e1⟩
        have g2 : l ≤ hv := by omega
        have g3 : hv ≤ s.length := by omega
        have b : (Instr.sliceBounds false s.length s.length (lo.map a.eval) (hi.map a.eval) none).run P w = .ok (l, hv, s.length) w := by
          rcases el' with ⟨e1, rfl⟩ | ⟨k1, e1⟩ <;> rcases eh' with ⟨e2, rfl⟩ | ⟨k2, e2⟩ <;> rw [e1, e2]
          · simp [Instr.sliceBounds]
          · simp [Instr.sliceBounds, Instr.sliceBound, asIntOf, g3]
          · simp [Instr.sliceBounds, Instr.sliceBound, asIntOf, g2]
          · simp [Instr.sliceBounds, Instr.sliceBound, asIntOf, g2, g3]
        have e1 : a.eval x = .string ⟨s.toArray⟩ := h1
        have hz : (⟨s.toArray⟩ : ByteArray).size = s.length := rfl
        have hrun : (Instr.sliceAt t (.string ⟨s.toArray⟩) (lo.map a.eval) (hi.map a.eval) none).run P w = .ok (.string ⟨((s.drop l).take (hv - l)).toArray⟩) w := by
          simp [Instr.sliceAt, Instr.slice, r1, hz, b, extB]
        simp only [execOp, ho, e1, Sem.run_bind, Option.map_none, hrun, Result.andThen_ok, Sem.run_pure, concX, conc, Int.toNat_natCast]
      · cases ht
    · exact h.elim
  · exact h.elim

theorem toBytes_spec : ∀ {l : List AV} {b : List UInt8}, toBytes l = some b → ∃ ns : List Int, l.map (conc μ) = ns.map (Value.int .u8) ∧ b = ns.map fun n => UInt8.ofNat n.toNat
  | [], b, h => by cases h; exact ⟨[], rfl, rfl⟩
  | .int .u8 n :: l, b, h => by
    simp only [toBytes] at h
    obtain ⟨b', hb, rfl⟩ := Option.map_eq_some_iff.1 h
    obtain ⟨ns, e1, e2⟩ := toBytes_spec hb
    exact ⟨n :: ns, by rw [List.map_cons, e1]; rfl, by rw [e2]; rfl⟩
  | .int .i8 _ :: _, _, h | .int .i16 _ :: _, _, h | .int .i32 _ :: _, _, h | .int .i64 _ :: _, _, h | .int .u16 _ :: _, _, h | .int .u32 _ :: _, _, h | .int .u64 _ :: _, _, h => by cases h
  | .bool _ :: _, _, h | .str _ :: _, _, h | .sl _ :: _, _, h | .ptr _ _ :: _, _, h | .psl _ _ _ _ :: _, _, h | .nilp :: _, _, h => by cases h
theorem foldB (f : Int → UInt8) : ∀ (ns : List Int) (l : List UInt8), ns.foldl (fun (r : ByteArray) n => r.push (f n)) ⟨l.toArray⟩ = ⟨(l ++ ns.map f).toArray⟩
  | [], l => by simp
  | n :: ns, l => by
    rw [List.foldl_cons]
    have e : (⟨l.toArray⟩ : ByteArray).push (f n) = ⟨(l ++ [f n]).toArray⟩ := by
      apply ByteArray.ext
      show l.toArray.push (f n) = _
      simp
    rw [e, foldB f ns]
    simp
theorem q_b2s {o : Oper} {src dst : TypeId} {x : Operand} (ho : o.op = .convert src dst x) (hs : isBytes P src = true) (hd : isStr P dst = true) {px : Opd} (hx : trOpd x = some px)
    (hf : FRel μ m.length σ a.tmps k) (h : aopQ (.b2s px) σ m K) : QSound P B w0 μ a m K o := by
  simp only [aopQ] at h
  split at h
  · rename_i s hv
    obtain ⟨h1, hok⟩ := ev_spec hf hx hv
    unfold isBytes at hs
    split at hs
    · rename_i e hus
      split at hs
      · rename_i hue
        unfold isStr at hd
        split at hd
        · rename_i hud
          have hc := fun (w : World) ad l c => run_convert_bytes_string (P := P) w src dst e ad l c hus hue hud
          obtain ⟨ref, off, len⟩ := s
          cases ref with
          | nil =>
            refine ⟨_, h, fun w _ => ⟨trivial, ?_⟩⟩
            have e1 : a.eval x = .slice none 0 0 := h1
            simp only [execOp, ho, e1, Sem.run_bind, hc, Conv.bytesToString, Sem.run_pure, Result.andThen_ok]
            rfl
          | far ad =>
            obtain ⟨rfl, rfl⟩ : off = 0 ∧ len = 0 := by
              have hk : (⟨.far ad, off, len⟩ : SV) = ⟨.far ad, 0, 0⟩ := hok
              simpa using hk
            refine ⟨_, h, fun w _ => ⟨trivial, ?_⟩⟩
            have e1 : a.eval x = .slice (some ad) 0 0 := h1
            have hl : (loadCells ad 0).run P w = .ok (([] : List Int).map (Value.int .u8)).toArray w := rfl
            simp only [execOp, ho, e1, Sem.run_bind, hc, run_bytesToString w ad 0 0 [] hl, Sem.run_pure, Result.andThen_ok]
            rfl
          | row id =>
            unfold onBytes Heap.bytes at h
            cases hr : m[id]? with
            | none => simp only [hr] at h
            | some r =>
              simp only [hr] at h
              by_cases hlt : off + len ≤ r.vals.len
              · simp only [hlt, if_true] at h
                cases htb : toBytes (r.vals.cells off len) with
                | none => rw [htb] at h; exact h.elim
                | some bs =>
                  rw [htb] at h
                  refine ⟨_, h, fun w hw => ⟨trivial, ?_⟩⟩
                  obtain ⟨ns, e1, e2⟩ := toBytes_spec (μ := μ) htb
                  have hl := run_loadCells_list (P := P) w ⟨(μ id).blk, (μ id).off + off, none⟩ ((r.vals.cells off len).map (conc μ)) (fun j v hj => by
                    rw [List.getElem?_map] at hj
                    obtain ⟨u, hu, rfl⟩ := some_map hj
                    have hjn : j < len := by have := (List.getElem?_eq_some_iff.1 hu).1; rwa [cells_len] at this
                    rw [cells_get _ _ _ hjn] at hu
                    cases hu
                    rw [add_lit, Nat.add_assoc]
                    exact (hw.rows id r hr).cell (by omega))
                  rw [List.length_map, cells_len, e1] at hl
                  have e3 : a.eval x = .slice (some ⟨(μ id).blk, (μ id).off + off, none⟩) len ((μ id).cap - off) := h1
                  have hfb : ns.foldl (fun (r : ByteArray) n => r.push (UInt8.ofNat n.toNat)) ByteArray.empty = ⟨bs.toArray⟩ := by
                    have := foldB (fun n => UInt8.ofNat n.toNat) ns []
                    rw [e2]
                    exact this
                  simp only [execOp, ho, e3, Sem.run_bind, hc, run_bytesToString w _ len _ ns hl, hfb, Sem.run_pure, Result.andThen_ok]
                  rfl
              · simp only [hlt, if_false] at h
        · cases hd
      · cases hs
    · cases hs
  · exact h.elim

theorem cells_conc (v : AV) : (conc μ v).cells = #[conc μ v] := by
  cases v <;> try rfl
  case sl s => obtain ⟨r, o, l⟩ := s; cases r <;> rfl

theorem one_conc (v : AV) : (conc μ v).oneCell' = true := by
  cases v <;> try rfl
  case sl s => obtain ⟨r, o, l⟩ := s; cases r <;> rfl

theorem trVals_spec : ∀ {l : List Value} {vs : List AV}, trVals l = some vs → l = vs.map (conc μ) ∧ ∀ v ∈ vs, v.ok μ m.length
  | [], vs, h => by cases h; exact ⟨rfl, by simp⟩
  | v :: l, vs, h => by
    simp only [trVals, Option.bind_eq_bind] at h
    obtain ⟨y, hy, h⟩ := some_bind h
    obtain ⟨ys, hys, h⟩ := some_bind h
    cases h
    obtain ⟨h1, h2⟩ := trVal_spec hy μ m.length
    obtain ⟨h3, h4⟩ := trVals_spec hys
    refine ⟨by rw [List.map_cons, ← h1, ← h3], fun z hz => ?_⟩
    rcases List.mem_cons.1 hz with rfl | hz
    · exact h2
    · exact h4 z hz

/-- A slice of an array that lies in a row. -/
theorem run_asl {t e : TypeId} {n : Nat} {ti : TypeInfo} (hu : P.underlying t = some (.array n e)) (hi : P.info? e = some ti) (hs : ti.size = 1) (ad : Addr) (lv hv : Option Value) (l h : Nat)
    (hl : (lv = none ∧ l = 0) ∨ ∃ k, lv = some (.int k l)) (hh : (hv = none ∧ h = n) ∨ ∃ k, hv = some (.int k h)) (h1 : l ≤ h) (h2 : h ≤ n) (w : World) :
    (Instr.sliceAt t (.pointer (some ad)) lv hv none).run P w = .ok (.slice (some (if n = l then ad else ad.add l)) (h - l) (n - l)) w := by
  have r1 := run_under hu w
  have b : (Instr.sliceBounds false n n lv hv none).run P w = .ok (l, h, n) w := by
    rcases hl with ⟨rfl, rfl⟩ | ⟨k1, rfl⟩ <;> rcases hh with ⟨rfl, rfl⟩ | ⟨k2, rfl⟩
    · simp [Instr.sliceBounds]
    · simp [Instr.sliceBounds, Instr.sliceBound, asIntOf, h2]
    · simp [Instr.sliceBounds, Instr.sliceBound, asIntOf, h1]
    · simp [Instr.sliceBounds, Instr.sliceBound, asIntOf, h1, h2]
  simp [Instr.sliceAt, Instr.sureAddr, r1, b, sizeOf, typeInfo, hi, hs]

theorem q_asl {o : Oper} {t : TypeId} {x : Operand} {lo hi : Option Operand} {n : Nat} (ho : o.op = .slice t x lo hi none) (he : arr1 P t = some n) {px : Opd} (hx : trOpd x = some px)
    {pl ph : Option Opd} (hl : trOpdO lo = some pl) (hh : trOpdO hi = some ph)
    (hf : FRel μ m.length σ a.tmps k) (h : aopQ (.asl px pl ph n) σ m K) : QAll P μ a m K o := by
  simp only [aopQ] at h
  split at h
  · rename_i id off k1 l k2 hv hs hlv hhv
    obtain ⟨h1, hok⟩ := ev_spec hf hx hs
    obtain ⟨e, ti, hu, hinf, hsz⟩ := arr1_spec he
    obtain ⟨⟨h2, h3, h4⟩, h5, h6⟩ := h
    have el := evOr_spec (hf := hf) hl hlv
    have eh := evOr_spec (hf := hf) hh hhv
    obtain ⟨l, rfl⟩ := Int.eq_ofNat_of_zero_le h2
    obtain ⟨hv, rfl⟩ := Int.eq_ofNat_of_zero_le (Int.le_trans h2 h3)
    have el' : (lo.map a.eval = none ∧ l = 0) ∨ ∃ k, lo.map a.eval = some (.int k l) := by
      rcases el with ⟨e1, e2⟩ | e1
      · exact .inl ⟨e1, by omega⟩
      · exact .inr ⟨_, e1⟩
    have eh' : (hi.map a.eval = none ∧ hv = n) ∨ ∃ k, hi.map a.eval = some (.int k hv) := by
      rcases eh with ⟨e1, e2⟩ | e1
      · exact .inl ⟨e1, by omega⟩
      · exact .inr ⟨_, e1⟩
    have e1 : a.eval x = .pointer (some ⟨(μ id).blk, (μ id).off + off, none⟩) := h1
    by_cases hq : n = l ∧ ¬ l = 0
    · obtain ⟨hq1, hq2⟩ := hq
      refine ⟨_, h5.resolve_left (by omega), fun w => ⟨hok, ?_⟩⟩
      have hr := run_asl hu hinf hsz ⟨(μ id).blk, (μ id).off + off, none⟩ _ _ l hv el' eh' (by omega) (by omega) w
      rw [if_pos hq1, show hv - l = 0 by omega, show n - l = 0 by omega] at hr
      simp only [execOp, ho, e1, Sem.run_bind, Option.map_none, hr, Result.andThen_ok, Sem.run_pure, concX, conc]
    · refine ⟨_, h6, fun w => ⟨hok, ?_⟩⟩
      have hr := run_asl hu hinf hsz ⟨(μ id).blk, (μ id).off + off, none⟩ _ _ l hv el' eh' (by omega) (by omega) w
      simp only [execOp, ho, e1, Sem.run_bind, Option.map_none, hr, Result.andThen_ok, Sem.run_pure, concX, conc, Int.toNat_natCast, add_lit]
      have e2 : (if n = l then (⟨(μ id).blk, (μ id).off + off, none⟩ : Addr) else ⟨(μ id).blk, (μ id).off + off + l, none⟩) = ⟨(μ id).blk, (μ id).off + (off + l), none⟩ := by
        by_cases hz : l = 0
        · subst hz; simp
        · rw [if_neg fun c => hq ⟨c, hz⟩]; simp [Nat.add_assoc]
      rw [e2]
  · exact h.elim

/-- A literal's parts, each of one cell, laid into its cells. -/
theorem fill_spec {place : Nat → Option (Nat × Nat)} {pl : Nat → Option Nat} (hpl : ∀ i j, pl i = some j → place i = some (j, 1)) (hf : FRel μ m.length σ a.tmps k) :
    ∀ {parts : List (Nat × Operand)} {ps : List (Nat × Opd)}, trParts pl parts = some ps → ∀ {l l' : List AV}, (∀ v ∈ l, v.ok μ m.length) → fillA σ l ps = some l' →
      Instr.fill place (l.map (conc μ)).toArray (parts.map fun (i, x) => (i, a.eval x)) = some (l'.map (conc μ)).toArray ∧ (∀ v ∈ l', v.ok μ m.length) ∧ l'.length = l.length
  | [], ps, h, l, l', hok, hfill => by
    cases h
    cases hfill
    exact ⟨rfl, hok, rfl⟩
  | (i, x) :: parts, ps, h, l, l', hok, hfill => by
    simp only [trParts, Option.bind_eq_bind] at h
    obtain ⟨j, hj, h⟩ := some_bind h
    obtain ⟨px, hx, h⟩ := some_bind h
    obtain ⟨qs, hqs, h⟩ := some_bind h
    cases h
    simp only [fillA] at hfill
    split at hfill
    · rename_i v hv
      split at hfill
      · rename_i hlt
        obtain ⟨h1, h2⟩ := ev_spec hf hx hv
        have hok' : ∀ u ∈ l.set j v, u.ok μ m.length := fun u hu => by
          rcases List.mem_or_eq_of_mem_set hu with hu | rfl
          · exact hok u hu
          · exact h2
        obtain ⟨h3, h4, h5⟩ := fill_spec hpl hf hqs hok' hfill
        refine ⟨?_, h4, by rw [h5, List.length_set]⟩
        simp only [List.map_cons, Instr.fill, hpl i j hj, h1, concX, cells_conc]
        have hle : ¬ (l.length < j + 1) := by omega
        simp only [List.size_toArray, List.length_cons, List.length_nil, List.length_map, ne_eq, not_true_eq_false, decide_false, Bool.false_or, gt_iff_lt, Nat.zero_add, hle]
        rw [← h3]
        congr 1
        rw [List.map_set]
        simp [Array.zipIdx]
      · cases hfill
    · cases hfill

theorem q_bld {o : Oper} {t : TypeId} {parts : Array (Nat × Operand)} (ho : o.op = .build t parts) (h0 : isStruct P t = true) {z : List AV} (hz : trZero P t = some z) {ps : List (Nat × Opd)}
    (hp : trParts (trPlace P t) parts.toList = some ps) (hf : FRel μ m.length σ a.tmps k) {l : List AV} (hl : fillA σ z ps = some l) (hK : K (.agg l)) : QSound P B w0 μ a m K o := by
  unfold isStruct at h0
  split at h0
  · rename_i fields hu
    obtain ⟨places, hpl⟩ := Option.isSome_iff_exists.1 h0
    · skip
      have hplace : ∀ i j, trPlace P t i = some j → (places.toArray)[i]? = some (j, 1) := by
        intro i j h
        simp only [trPlace, hu, hpl] at h
        split at h
        · rename_i off n hn
          obtain ⟨h1, h2⟩ := ite_some h
          subst h1 h2
          simpa using hn
        · cases h
      unfold trZero at hz
      split at hz
      · rename_i it hit
        split at hz
        · rename_i zv hzv
          obtain ⟨h1, h2⟩ := trVals_spec (μ := μ) (m := m) hz
          obtain ⟨h3, h4, h5⟩ := fill_spec (place := fun i => places.toArray[i]?) hplace hf hp h2 hl
          have hb : P.built t ((parts.map fun (i, x) => (i, a.eval x)).toList) = some (l.map (conc μ)).toArray := by
            simp only [Program.built, hit, hu, hzv, hpl]
            rw [show zv.cells = (z.map (conc μ)).toArray by rw [← h1]]
            rw [Array.toList_map]
            exact h3
          refine ⟨_, hK, fun w _ => ⟨h4, ?_⟩⟩
          have hr := run_build (P := P) w t _ _ hb
          simp only [execOp, ho, Sem.run_bind, hr, Result.andThen_ok, Sem.run_pure]
          rfl
        · cases hz
      · cases hz
  · cases h0

end
end Go.Abs
