/- Code of the abstract machine is the program's code: calls, regions, branches, loops, functions. Own work; no condition. -/
import Derived.Test.YtkhbihbljdhpbaaSoundE
namespace Go.Abs
open Go.RowKit (Below)

section
variable {P : Program} {B : Nat} {w0 : World} {μ : Mu} {k : Nat} {a : Act} {σ : Frame} {m : Heap} {K : XV → Heap → Prop} {w : World} {Q : Exit → Act → World → Prop}

/-! ### Calls -/

theorem evs_spec (hf : FRel μ m.length σ a.tmps k) : ∀ {l : List Operand} {ps : List Opd}, trOpds l = some ps → ∀ {xs : List XV}, σ.evs ps = some xs →
    l.map a.eval = xs.map (concX μ) ∧ ∀ x ∈ xs, x.ok μ m.length
  | [], ps, h, xs, hx => by cases h; cases hx; exact ⟨rfl, by simp⟩
  | o :: l, ps, h, xs, hx => by
    simp only [trOpds, Option.bind_eq_bind] at h
    obtain ⟨p, hp, h⟩ := some_bind h
    obtain ⟨qs, hq, h⟩ := some_bind h
    cases h
    simp only [Frame.evs] at hx
    split at hx
    · rename_i v vs hv hvs
      cases hx
      obtain ⟨h1, h2⟩ := ev_spec hf hp hv
      obtain ⟨h3, h4⟩ := evs_spec hf hq hvs
      refine ⟨by rw [List.map_cons, List.map_cons, h1, h3], fun x hx => ?_⟩
      rcases List.mem_cons.1 hx with rfl | hx
      · exact h2
      · exact h4 x hx
    · cases hx

theorem canCall_spec {f : FuncId} (h : canCall P f = true) (args : Array Value) (w : World) : (callFunc f args).run P w = .ok (.enter f args) w := by
  unfold canCall at h
  split at h
  · rename_i fn hfn
    simp only [Bool.and_eq_true, bne_iff_ne, ne_eq] at h
    obtain ⟨b, hb⟩ := Option.isSome_iff_exists.1 h.1
    simp [callFunc, hfn, h.2, hb]
  · cases h

theorem exec_call {o : Oper} {f : FuncId} {c : Call} (ho : o.op = .call c) (hc : c.callee = .value (.func f)) (hcan : canCall P f = true) (w : World) :
    (execOp a.eval o).run P w = .ok (.enter f (c.args.toList.map a.eval).toArray) w := by
  have he : a.eval (.func f) = .func (.func f) #[] #[] := rfl
  have : (c.args.map a.eval) = (c.args.toList.map a.eval).toArray := Array.toList_inj.1 (by rw [Array.toList_map])
  simp only [execOp, ho, resolve, hc, he, Deferred.ofValue, Sem.run_bind, Sem.run_pure, Result.andThen_ok, invoke, Array.empty_append, Array.append_empty, canCall_spec hcan, this]

theorem e_call {o : Oper} {f : FuncId} {c : Call} (ho : o.op = .call c) (hc : c.callee = .value (.func f)) (hcan : canCall P f = true) {ps : List Opd} (hp : trOpds c.args.toList = some ps)
    (hw : HRel B w0 μ m w) (hf : FRel μ m.length σ a.tmps k) (h : aop P (.call f ps) σ m K) : o.wp P a w (ERes B w0 μ m.length a o K) Q := by
  simp only [aop] at h
  split at h
  · rename_i xs hxs
    obtain ⟨h1, h2⟩ := evs_spec hf hp hxs
    unfold Oper.wp
    rw [exec_call ho hc hcan, h1]
    show Calls P f _ w _
    refine (h B w0 μ w hw h2).mono fun e w' ⟨x, m', μ', hK, he, hx, hh, hl, hag⟩ => ?_
    subst he
    exact ⟨x, m', μ', hK, rfl, hx, hh, hl, hag⟩
  · exact h.elim

theorem flats_conc (μ μ' : Mu) (n : Nat) : ∀ {l : List AV}, flats l → l.map (conc μ) = l.map (conc μ') ∧ ∀ v ∈ l, v.ok μ n
  | [], _ => ⟨rfl, by simp⟩
  | v :: l, ⟨hv, hl⟩ => by
    obtain ⟨h1, h2⟩ := flats_conc μ μ' n hl
    have h3 : conc μ v = conc μ' v ∧ v.ok μ n := by cases v <;> first | exact ⟨rfl, trivial⟩ | exact hv.elim
    refine ⟨by rw [List.map_cons, List.map_cons, h3.1, h1], fun u hu => ?_⟩
    rcases List.mem_cons.1 hu with rfl | hu
    · exact h3.2
    · exact h2 u hu
theorem flat_conc {x : XV} (h : x.flat) (μ μ' : Mu) (n : Nat) : concX μ x = concX μ' x ∧ x.ok μ n := by
  cases x with
  | one v => cases v <;> first | exact ⟨rfl, trivial⟩ | exact h.elim
  | undef => exact h.elim
  | tup l =>
    obtain ⟨h1, h2⟩ := flats_conc μ μ' n (l := l) h
    exact ⟨by simp only [concX, h1], h2⟩
  | agg l =>
    obtain ⟨h1, h2⟩ := flats_conc μ μ' n (l := l) h
    exact ⟨by simp only [concX, h1], h2⟩

/-- A quiet operation, over the class of all worlds that hold the rows. -/
theorem quiet_of_q {o : Oper} {K : XV → Prop} {K' : Act → Prop} (h : QSound P B w0 μ a m K o) (hne : ∃ w, HRel B w0 μ m w) (hK : ∀ x, K x → x.ok μ m.length → K' (a.put o.dst (concX μ x))) :
    o.quiet P a (fun w => HRel B w0 μ m w) K' := by
  obtain ⟨x, hx, hr⟩ := h
  obtain ⟨w1, hw1⟩ := hne
  refine ⟨concX μ x, fun w hw => ?_, hK x hx (hr w1 hw1).1⟩
  unfold Oper.quietAt
  rw [(hr w hw).2]
  exact ⟨rfl, rfl⟩

theorem still_of_q {o : Oper} {K : XV → Prop} {K' : Act → Prop} (h : QSound P B w0 μ a m K o) (hw : HRel B w0 μ m w) (hK : ∀ x, K x → x.ok μ m.length → K' (a.put o.dst (concX μ x))) :
    o.still P a w K' := by
  obtain ⟨x, hx, hr⟩ := h
  obtain ⟨h1, h2⟩ := hr w hw
  unfold Oper.still
  rw [h2]
  exact ⟨rfl, hK x hx h1⟩

theorem quiet_callq {o : Oper} {f : FuncId} {c : Call} (ho : o.op = .call c) (hc : c.callee = .value (.func f)) (hcan : canCall P f = true) {ps : List Opd} (hp : trOpds c.args.toList = some ps)
    (hf : FRel μ m.length σ a.tmps k) (h : aop P (.callq f ps) σ m K) {K' : Act → Prop} (hK : ∀ x, K x m → x.ok μ m.length → K' (a.put o.dst (concX μ x))) :
    o.quiet P a (fun w => HRel B w0 μ m w) K' := by
  simp only [aop] at h
  split at h
  · rename_i xs hxs
    obtain ⟨h1, h2⟩ := evs_spec hf hp hxs
    obtain ⟨x, hcall, hflat, hKx⟩ := h
    refine ⟨concX μ x, fun w hw => ?_, hK x hKx (flat_conc hflat μ μ _).2⟩
    unfold Oper.quietAt
    rw [exec_call ho hc hcan, h1]
    refine ⟨rfl, (hcall B w0 μ w hw h2).mono fun e w' ⟨y, m', μ', ⟨hy, hm⟩, he, _, hh, _, hag⟩ => ?_⟩
    subst hy
    exact ⟨by rw [he, (flat_conc hflat μ μ' 0).1], hh.restrict hm hag fun id r hr => (hw.rows id r hr).ok⟩
  · exact h.elim

/-! ### One operation, translated -/

theorem toList_one {α : Type} {x : Array α} {y : α} (h : x.toList = [y]) : x = #[y] := by
  rw [← Array.toList_inj]; simpa using h
theorem toList_two {α : Type} {x : Array α} {y z : α} (h : x.toList = [y, z]) : x = #[y, z] := by
  rw [← Array.toList_inj]; simpa using h

/-- What a translation of a call says. -/
theorem trCall_spec {qt : Bool} {c : Call} {op : AOp} (h : trCall P qt c = some op) :
    (∃ f ps, c.callee = .value (.func f) ∧ canCall P f = true ∧ trOpds c.args.toList = some ps ∧ op = if qt then .callq f ps else .call f ps) ∨
    (∃ x t px, c = { callee := .builtin .len, args := #[x], argTypes := #[t] } ∧ trOpd x = some px ∧ ((isSlice P t = true ∧ op = .len px) ∨ (isStr P t = true ∧ op = .slen px))) ∨
    (∃ x y t e z px py, c = { callee := .builtin .append, args := #[x, y], argTypes := #[t, t] } ∧ elemZ P t = some (e, z) ∧ trOpd x = some px ∧ trOpd y = some py ∧ op = .app e px py) ∨
    (∃ x y ts px py, c = { callee := .builtin .min, args := #[x, y], argTypes := ts } ∧ trOpd x = some px ∧ trOpd y = some py ∧ op = .mn px py) ∨
    (∃ x y ts px py, c = { callee := .builtin .max, args := #[x, y], argTypes := ts } ∧ trOpd x = some px ∧ trOpd y = some py ∧ op = .mx px py) := by
  obtain ⟨c1, c2, c3⟩ := c
  unfold trCall at h
  simp only at h
  split at h
  · rename_i f
    split at h
    · rename_i hcan
      simp only [Option.bind_eq_bind] at h
      obtain ⟨xs, hxs, h⟩ := some_bind h
      cases h
      exact .inl ⟨f, xs, rfl, hcan, hxs, rfl⟩
    · cases h
  · rename_i x t hx ht
    obtain rfl := toList_one hx
    obtain rfl := toList_one ht
    split at h
    · rename_i hs
      obtain ⟨px, hp, rfl⟩ := some_map h
      exact .inr (.inl ⟨x, t, px, rfl, hp, .inl ⟨hs, rfl⟩⟩)
    · split at h
      · rename_i hs
        obtain ⟨px, hp, rfl⟩ := some_map h
        exact .inr (.inl ⟨x, t, px, rfl, hp, .inr ⟨hs, rfl⟩⟩)
      · cases h
  · rename_i x y t u hx ht
    obtain rfl := toList_two hx
    obtain rfl := toList_two ht
    split at h
    · rename_i htu
      subst htu
      simp only [Option.bind_eq_bind] at h
      obtain ⟨⟨e, z⟩, he, h⟩ := some_bind h
      simp only at h
      obtain ⟨px, hpx, h⟩ := some_bind h
      obtain ⟨py, hpy, h⟩ := some_bind h
      cases h
      exact .inr (.inr (.inl ⟨x, y, t, e, z, px, py, rfl, he, hpx, hpy, rfl⟩))
    · cases h
  · rename_i ts x y hx
    obtain rfl := toList_two hx
    simp only [Option.bind_eq_bind] at h
    obtain ⟨px, hpx, h⟩ := some_bind h
    obtain ⟨py, hpy, h⟩ := some_bind h
    cases h
    exact .inr (.inr (.inr (.inl ⟨x, y, c3, px, py, rfl, hpx, hpy, rfl⟩)))
  · rename_i ts x y hx
    obtain rfl := toList_two hx
    simp only [Option.bind_eq_bind] at h
    obtain ⟨px, hpx, h⟩ := some_bind h
    obtain ⟨py, hpy, h⟩ := some_bind h
    cases h
    exact .inr (.inr (.inr (.inr ⟨x, y, c3, px, py, rfl, hpx, hpy, rfl⟩)))
  · cases h

/-- A translated operation is a still one, or a quiet call, or one with an effect. -/
theorem op_cases {qt : Bool} {o : Oper} {op : AOp} (ht : trOp P qt o.op = some op) (hf : FRel μ m.length σ a.tmps k) (h : aop P op σ m K) :
    (op.still = true ∧ QSound P B w0 μ a m (fun x => K x m) o ∧ (op.pure = true → QAll P μ a m (fun x => K x m) o)) ∨
    (∃ f ps c, op = .callq f ps ∧ o.op = .call c ∧ c.callee = .value (.func f) ∧ canCall P f = true ∧ trOpds c.args.toList = some ps) ∨
    (op.quiet = false ∧ ∀ w Q, HRel B w0 μ m w → o.wp P a w (ERes B w0 μ m.length a o K) Q) := by
  generalize ho : o.op = oo at ht
  cases oo <;> simp only [trOp] at ht <;> try (cases ht; done)
  case move x =>
    obtain ⟨px, hp, rfl⟩ := some_map ht
    exact .inl ⟨rfl, (q_mv (.inl ho) hp hf h).q, fun _ => q_mv (.inl ho) hp hf h⟩
  case assign x =>
    obtain ⟨px, hp, rfl⟩ := some_map ht
    exact .inl ⟨rfl, (q_mv (.inr ho) hp hf h).q, fun _ => q_mv (.inr ho) hp hf h⟩
  case pick c x y =>
    simp only [Option.bind_eq_bind] at ht
    obtain ⟨p1, h1, ht⟩ := some_bind ht
    obtain ⟨p2, h2, ht⟩ := some_bind ht
    obtain ⟨p3, h3, ht⟩ := some_bind ht
    cases ht
    exact .inl ⟨rfl, (q_pick ho h1 h2 h3 hf h).q, fun _ => q_pick ho h1 h2 h3 hf h⟩
  case binOp op t x y u =>
    split at ht
    · rename_i hb
      cases op <;> simp only at ht <;> try (cases ht; done)
      all_goals
        simp only [Option.bind_eq_bind] at ht
        obtain ⟨p1, h1, ht⟩ := some_bind ht
        obtain ⟨p2, h2, ht⟩ := some_bind ht
        cases ht
      · exact .inl ⟨rfl, (q_eqb (neg := false) ho hb h1 h2 hf h).q, fun _ => q_eqb (neg := false) ho hb h1 h2 hf h⟩
      · exact .inl ⟨rfl, (q_eqb (neg := true) ho hb h1 h2 hf h).q, fun _ => q_eqb (neg := true) ho hb h1 h2 hf h⟩
    · simp only [Option.bind_eq_bind] at ht
      obtain ⟨p1, h1, ht⟩ := some_bind ht
      obtain ⟨p2, h2, ht⟩ := some_bind ht
      cases ht
      exact .inl ⟨rfl, (q_bin ho h1 h2 hf h).q, fun _ => q_bin ho h1 h2 hf h⟩
  case unOp op t x =>
    obtain ⟨px, hp, rfl⟩ := some_map ht
    exact .inl ⟨rfl, (q_un ho hp hf h).q, fun _ => q_un ho hp hf h⟩
  case convert s t x =>
    split at ht
    · rename_i hs
      simp only [Option.bind_eq_bind] at ht
      obtain ⟨p1, h1, ht⟩ := some_bind ht
      obtain ⟨p2, h2, ht⟩ := some_bind ht
      cases ht
      exact .inl ⟨rfl, (q_conv ho hs h1 h2 hf h).q, fun _ => q_conv ho hs h1 h2 hf h⟩
    · split at ht
      · rename_i hb
        obtain ⟨px, hp, rfl⟩ := some_map ht
        rw [Bool.and_eq_true] at hb
        exact .inl ⟨rfl, q_b2s ho hb.1 hb.2 hp hf h, fun c => by cases c⟩
      · cases ht
  case index t x i =>
    split at ht
    · rename_i hs
      simp only [Option.bind_eq_bind] at ht
      obtain ⟨p1, h1, ht⟩ := some_bind ht
      obtain ⟨p2, h2, ht⟩ := some_bind ht
      cases ht
      exact .inl ⟨rfl, (q_sidx ho hs h1 h2 hf h).q, fun _ => q_sidx ho hs h1 h2 hf h⟩
    · cases ht
  case indexAddr t x i =>
    split at ht
    · rename_i hs
      simp only [Option.bind_eq_bind] at ht
      obtain ⟨p1, h1, ht⟩ := some_bind ht
      obtain ⟨p2, h2, ht⟩ := some_bind ht
      cases ht
      exact .inl ⟨rfl, (q_idx ho hs h1 h2 hf h).q, fun _ => q_idx ho hs h1 h2 hf h⟩
    · split at ht
      · rename_i n h3
        simp only [Option.bind_eq_bind] at ht
        obtain ⟨p1, h1, ht⟩ := some_bind ht
        obtain ⟨p2, h2, ht⟩ := some_bind ht
        cases ht
        exact .inl ⟨rfl, (q_aidx ho h3 h1 h2 hf h).q, fun _ => q_aidx ho h3 h1 h2 hf h⟩
      · simp only [Option.bind_eq_bind] at ht
        obtain ⟨nk, h3, ht⟩ := some_bind ht
        obtain ⟨p1, h1, ht⟩ := some_bind ht
        obtain ⟨p2, h2, ht⟩ := some_bind ht
        cases ht
        exact .inl ⟨rfl, (q_aixn ho h3 h1 h2 hf h).q, fun _ => q_aixn ho h3 h1 h2 hf h⟩
  case fieldAddr s x f =>
    simp only [Option.bind_eq_bind] at ht
    obtain ⟨p1, h1, ht⟩ := some_bind ht
    obtain ⟨p2, h2, ht⟩ := some_bind ht
    cases ht
    exact .inl ⟨rfl, (q_fld ho h2 h1 hf h).q, fun _ => q_fld ho h2 h1 hf h⟩
  case load t x =>
    split at ht
    · rename_i hs
      obtain ⟨px, hp, rfl⟩ := some_map ht
      exact .inl ⟨rfl, q_ld ho hs hp hf h, fun c => by cases c⟩
    · simp only [Option.bind_eq_bind] at ht
      obtain ⟨p1, h1, ht⟩ := some_bind ht
      obtain ⟨n, h2, ht⟩ := some_bind ht
      cases ht
      exact .inl ⟨rfl, q_lda ho h2 h1 hf h, fun c => by cases c⟩
  case store t x y =>
    split at ht
    · rename_i hs
      simp only [Option.bind_eq_bind] at ht
      obtain ⟨p1, h1, ht⟩ := some_bind ht
      obtain ⟨p2, h2, ht⟩ := some_bind ht
      cases ht
      exact .inr (.inr ⟨rfl, fun w Q hw => e_st ho hs h1 h2 hw hf h⟩)
    · simp only [Option.bind_eq_bind] at ht
      obtain ⟨p1, h1, ht⟩ := some_bind ht
      obtain ⟨p2, h2, ht⟩ := some_bind ht
      obtain ⟨n, h3, ht⟩ := some_bind ht
      cases ht
      exact .inr (.inr ⟨rfl, fun w Q hw => e_sta ho h3 h1 h2 hw hf h⟩)
  case nilCheck x =>
    obtain ⟨px, hp, rfl⟩ := some_map ht
    exact .inl ⟨rfl, (q_nilck ho hp hf h).q, fun _ => q_nilck ho hp hf h⟩
  case extract x i =>
    obtain ⟨px, hp, rfl⟩ := some_map ht
    exact .inl ⟨rfl, (q_ext ho hp hf h).q, fun _ => q_ext ho hp hf h⟩
  case slice t x lo hi mx =>
    cases mx with
    | some _ => simp only at ht; cases ht
    | none =>
      simp only at ht
      split at ht
      · rename_i hs
        simp only [Option.bind_eq_bind] at ht
        obtain ⟨p1, h1, ht⟩ := some_bind ht
        obtain ⟨p2, h2, ht⟩ := some_bind ht
        obtain ⟨p3, h3, ht⟩ := some_bind ht
        cases ht
        exact .inl ⟨rfl, (q_ssub ho hs h1 h2 h3 hf h).q, fun _ => q_ssub ho hs h1 h2 h3 hf h⟩
      split at ht
      · rename_i hs
        simp only [Option.bind_eq_bind] at ht
        obtain ⟨p1, h1, ht⟩ := some_bind ht
        obtain ⟨p2, h2, ht⟩ := some_bind ht
        obtain ⟨p3, h3, ht⟩ := some_bind ht
        cases ht
        exact .inl ⟨rfl, (q_sub ho hs h1 h2 h3 hf h).q, fun _ => q_sub ho hs h1 h2 h3 hf h⟩
      · simp only [Option.bind_eq_bind] at ht
        obtain ⟨p1, h1, ht⟩ := some_bind ht
        obtain ⟨p2, h2, ht⟩ := some_bind ht
        obtain ⟨p3, h3, ht⟩ := some_bind ht
        obtain ⟨n, h4, ht⟩ := some_bind ht
        cases ht
        exact .inl ⟨rfl, (q_asl ho h4 h1 h2 h3 hf h).q, fun _ => q_asl ho h4 h1 h2 h3 hf h⟩
  case build t parts =>
    split at ht
    · rename_i hs
      simp only [Option.bind_eq_bind] at ht
      obtain ⟨p1, h1, ht⟩ := some_bind ht
      obtain ⟨p2, h2, ht⟩ := some_bind ht
      cases ht
      simp only [aop] at h
      split at h
      · rename_i l hl
        exact .inl ⟨rfl, q_bld ho hs h1 h2 hf hl h, fun c => by cases c⟩
      · exact h.elim
    · cases ht
  case alloc t =>
    split at ht
    · rename_i l hl
      obtain ⟨_, rfl⟩ := ite_some ht
      exact .inr (.inr ⟨rfl, fun w Q hw => e_alc ho hl hw h⟩)
    · cases ht
  case box e x =>
    obtain ⟨px, hp, rfl⟩ := some_map ht
    exact .inr (.inr ⟨rfl, fun w Q hw => e_box ho hp hw hf h⟩)
  case buildSlice t n parts =>
    simp only [Option.bind_eq_bind] at ht
    obtain ⟨⟨e, z⟩, he, ht⟩ := some_bind ht
    simp only at ht
    split at ht
    · rename_i hn
      obtain ⟨p1, h1, ht⟩ := some_bind ht
      cases ht
      exact .inr (.inr ⟨rfl, fun w Q hw => e_bsl ho he hn h1 hw hf h⟩)
    · cases ht
  case makeSlice t x y =>
    simp only [Option.bind_eq_bind] at ht
    obtain ⟨⟨e, z⟩, he, ht⟩ := some_bind ht
    simp only at ht
    obtain ⟨p1, h1, ht⟩ := some_bind ht
    obtain ⟨p2, h2, ht⟩ := some_bind ht
    cases ht
    exact .inr (.inr ⟨rfl, fun w Q hw => e_mk ho he h1 h2 hw hf h⟩)
  case call c =>
    rcases trCall_spec ht with ⟨f, ps, hc, hcan, hp, rfl⟩ | ⟨x, t, px, rfl, hp, ⟨hs, rfl⟩ | ⟨hs, rfl⟩⟩ | ⟨x, y, t, e, z, px, py, rfl, he, hx, hy, rfl⟩ | ⟨x, y, ts, px, py, rfl, hx, hy, rfl⟩ | ⟨x, y, ts, px, py, rfl, hx, hy, rfl⟩
    · cases qt with
      | true => exact .inr (.inl ⟨f, ps, c, rfl, rfl, hc, hcan, hp⟩)
      | false => exact .inr (.inr ⟨rfl, fun w Q hw => e_call ho hc hcan hp hw hf h⟩)
    · exact .inl ⟨rfl, (q_len ho hs hp hf h).q, fun _ => q_len ho hs hp hf h⟩
    · exact .inl ⟨rfl, (q_slen ho hs hp hf h).q, fun _ => q_slen ho hs hp hf h⟩
    · exact .inr (.inr ⟨rfl, fun w Q hw => e_app ho he hx hy hw hf h⟩)
    · exact .inl ⟨rfl, (q_mn ho hx hy hf h).q, fun _ => q_mn ho hx hy hf h⟩
    · exact .inl ⟨rfl, (q_mx ho hx hy hf h).q, fun _ => q_mx ho hx hy hf h⟩

end
end Go.Abs

/- Regions, branches, loops and functions of the abstract machine are the program's. Own work; no condition. -/
namespace Go.Abs
open Go.RowKit (Below)

def AExit.conc : AExit → Exit
  | .normal => .normal
  | .exit id => .exit id
  | .ret => .ret

/-- The program's state is one of the abstract states that are wanted. -/
def Lift (B : Nat) (w0 : World) (k n : Nat) (μ : Mu) (Q : AExit → Frame → Heap → Prop) : Exit → Act → World → Prop := fun e a w =>
  ∃ e' σ m μ', Q e' σ m ∧ e = e'.conc ∧ HRel B w0 μ' m w ∧ FRel μ' m.length σ a.tmps k ∧ a.defers = [] ∧ n ≤ m.length ∧ Agree n μ μ'

section
variable {P : Program} {B : Nat} {w0 : World} {k n : Nat} {μ0 : Mu}

theorem defers_put (a : Act) (d : Option Tmp) (v : Value) : (a.put d v).defers = a.defers := by cases d <;> rfl

theorem oper_wp {μ : Mu} {a : Act} {σ : Frame} {m : Heap} {K : XV → Heap → Prop} {w : World} {Q : Exit → Act → World → Prop} {qt : Bool} {o : Oper} {op : AOp} (ht : trOp P qt o.op = some op)
    (hw : HRel B w0 μ m w) (hf : FRel μ m.length σ a.tmps k) (h : aop P op σ m K) : o.wp P a w (ERes B w0 μ m.length a o K) Q := by
  rcases op_cases (B := B) (w0 := w0) ht hf h with ⟨_, h1, _⟩ | ⟨f, ps, c, rfl, ho, hc, hcan, hp⟩ | ⟨_, h1⟩
  · exact e_quiet h1 hw
  · refine Oper.wp_of_quiet (C := fun w => HRel B w0 μ m w) (K := fun a' => ∃ x, K x m ∧ x.ok μ m.length ∧ a' = a.put o.dst (concX μ x)) hw ?_ (quiet_callq ho hc hcan hp hf h fun x hx hok => ⟨x, hx, hok, rfl⟩)
    rintro a' w' hw' ⟨x, hx, hok, rfl⟩
    exact ⟨x, m, μ, hx, rfl, hok, hw', Nat.le_refl _, Agree.refl _ _⟩
  · exact h1 w Q hw

/-- What a guard says. -/
theorem guard_spec {μ : Mu} {a : Act} {σ : Frame} {m : Heap} {ops : Array Oper} {o : Oper} {g : Option (Nat × Bool)} (hg : trGuard ops o.guard = some g) (hf : FRel μ m.length σ a.tmps k) :
    (g = none ∧ Region.wanted o (yielded ops a.tmps) = true) ∨
    ∃ s b, g = some (s, b) ∧ (∀ t, σ.get s = some (.one (.bool t)) → Region.wanted o (yielded ops a.tmps) = decide (t = b)) ∧ (σ.get s = some .undef → Region.wanted o (yielded ops a.tmps) = false) := by
  cases ho : o.guard with
  | none =>
    rw [ho] at hg
    cases hg
    exact .inl ⟨rfl, by simp [Region.wanted, ho]⟩
  | some p =>
    obtain ⟨j, b⟩ := p
    rw [ho] at hg
    simp only [trGuard] at hg
    split at hg
    · rename_i s hs
      cases hg
      refine .inr ⟨s, b, rfl, fun t ht => ?_, fun ht => ?_⟩
      · obtain ⟨_, _, h3⟩ := hf.slot s _ ht
        have : yielded ops a.tmps j = some t := by simp [yielded, hs, h3, concX, Abs.conc]
        simp only [Region.wanted, ho, this]
        cases t <;> cases b <;> rfl
      · obtain ⟨_, _, h3⟩ := hf.slot s _ ht
        have : yielded ops a.tmps j = none := by simp [yielded, hs, h3, concX]
        simp only [Region.wanted, ho, this]
        cases b <;> rfl
    · cases hg

theorem FRel.again {μ : Mu} {len : Nat} {σ : Frame} {tmps : Array Value} (hf : FRel μ len σ tmps k) {t : Nat} {x : XV} (h : σ.get t = some x) : FRel μ len ((t, x) :: σ) tmps k := by
  refine ⟨hf.size, fun u y hy => ?_⟩
  simp only [Frame.get] at hy
  by_cases e : t = u
  · subst e
    rw [beq_self_eq_true] at hy
    cases hy
    exact hf.slot t x h
  · rw [beq_false_of_ne e] at hy
    exact hf.slot u y hy

theorem trOper_spec {ops : Array Oper} {qt : Bool} {o : Oper} {ao : AOper} (h : trOper P k ops qt o = some ao) :
    o.dst.all (· < k) = true ∧ trOp P qt o.op = some ao.op ∧ trGuard ops o.guard = some ao.guard ∧ ao.dst = o.dst := by
  unfold trOper at h
  split at h
  · rename_i hd
    simp only [Option.bind_eq_bind] at h
    obtain ⟨op, h1, h⟩ := some_bind h
    obtain ⟨g, h2, h⟩ := some_bind h
    cases h
    exact ⟨hd, h1, h2, rfl⟩
  · cases h

theorem trOpers_cons {ops : Array Oper} {qt : Bool} {o : Oper} {l : List Oper} {as : List AOper} (h : trOpers P k ops qt (o :: l) = some as) :
    ∃ ao as', trOper P k ops qt o = some ao ∧ trOpers P k ops qt l = some as' ∧ as = ao :: as' := by
  simp only [trOpers, Option.bind_eq_bind] at h
  obtain ⟨ao, h1, h⟩ := some_bind h
  obtain ⟨as', h2, h⟩ := some_bind h
  cases h
  exact ⟨ao, as', h1, h2, rfl⟩

/-- Operations one after the other. -/
theorem list_sound {ops : Array Oper} {qt : Bool} {Q : AExit → Frame → Heap → Prop} : ∀ {l : List Oper} {as : List AOper}, trOpers P k ops qt l = some as → ∀ {μ : Mu} {a : Act} {σ : Frame} {m : Heap} {w : World},
    awpOps P (Q .normal) as σ m → HRel B w0 μ m w → FRel μ m.length σ a.tmps k → a.defers = [] → n ≤ m.length → Agree n μ0 μ → wpList P ops (Lift B w0 k n μ0 Q) l a w
  | [], as, h, μ, a, σ, m, w, hQ, hw, hf, hd, hn, hag => by
    cases h
    exact ⟨.normal, σ, m, μ, hQ, rfl, hw, hf, hd, hn, hag⟩
  | o :: l, as, h, μ, a, σ, m, w, hQ, hw, hf, hd, hn, hag => by
    obtain ⟨ao, as', h1, h2, rfl⟩ := trOpers_cons h
    obtain ⟨t1, t2, t3, t4⟩ := trOper_spec h1
    have go : ∀ σ : Frame, FRel μ m.length σ a.tmps k → aop P ao.op σ m (fun x m' => awpOps P (Q .normal) as' (σ.put ao.dst x) m') → o.wp P a w (wpList P ops (Lift B w0 k n μ0 Q) l) (Lift B w0 k n μ0 Q) := by
      intro σ hf hop
      refine wp_mono_oper ?_ (oper_wp t2 hw hf hop)
      rintro a' w' ⟨x, m', μ', hK, rfl, hx, hh, hl, hag'⟩
      refine list_sound h2 hK hh ?_ (by rw [defers_put]; exact hd) (Nat.le_trans hn hl) (hag.trans hag' hn)
      rw [t4]
      exact (hf.agree hag' hl).put t1 hx
    have skip : ∀ σ : Frame, FRel μ m.length σ a.tmps k → awpOps P (Q .normal) as' (σ.put ao.dst .undef) m → wpList P ops (Lift B w0 k n μ0 Q) l (a.put o.dst undef) w := by
      intro σ hf hs
      refine list_sound h2 hs hw ?_ (by rw [defers_put]; exact hd) hn hag
      rw [t4]
      exact hf.put (x := .undef) t1 trivial
    simp only [awpOps] at hQ
    simp only [wpList]
    rcases guard_spec t3 hf with ⟨e, hwt⟩ | ⟨s, b, e, hb, hu⟩
    · rw [e] at hQ
      simp only [hwt, if_true]
      exact .inl (go σ hf hQ)
    · rw [e] at hQ
      simp only at hQ
      split at hQ
      · rename_i t ht
        rw [hb t ht]
        by_cases htb : t = b
        · simp only [htb, decide_true, if_true]
          exact .inl (go _ (hf.again (by rw [ht, htb])) (hQ.1 htb))
        · simp only [htb, decide_false, Bool.false_eq_true, if_false]
          have htn : t = !b := by cases t <;> cases b <;> simp_all
          exact skip _ (hf.again (by rw [ht, htn])) (hQ.2 htn)
      · rename_i ht
        rw [hu ht]
        simp only [Bool.false_eq_true, if_false]
        exact skip σ hf hQ
      · exact hQ.elim
where
  wp_mono_oper {o : Oper} {a : Act} {w : World} {K K' : Act → World → Prop} {Q : Exit → Act → World → Prop} (h : ∀ a w, K a w → K' a w) (hh : o.wp P a w K Q) : o.wp P a w K' Q := by
    unfold Oper.wp at *
    generalize (execOp a.eval o).run P w = r at *
    cases r with
    | ok nx w' =>
      cases nx <;> simp only [Oper.upon] at hh ⊢
      case value v => exact h _ _ hh
      case skip => exact h _ _ hh
      case defer d => exact h _ _ hh
      case enter f args =>
        refine hh.mono fun e w'' he => ?_
        cases e with
        | returned v => exact h _ _ he
        | panicked c => exact he
        | outgrown => exact he
      case row row args => exact hh.mono fun v w'' hv => h _ _ hv
    | halt x w' => cases x <;> exact hh

/-- A quiet region: any order comes to what the text's order comes to. -/
theorem quiet_sound {ops : Array Oper} {Q : Frame → Heap → Prop} {μ : Mu} {m : Heap} {D : List Deferred} (hne : ∃ w, HRel B w0 μ m w) : ∀ {l : List Oper} {as : List AOper}, trOpers P k ops true l = some as → as.all (·.op.quiet) = true →
    ∀ {a : Act} {σ : Frame}, awpOps P Q as σ m → FRel μ m.length σ a.tmps k → a.defers = D →
      wpQuiet P ops (fun w => HRel B w0 μ m w) (fun a' => ∃ σ', Q σ' m ∧ FRel μ m.length σ' a'.tmps k ∧ a'.defers = D) l a
  | [], as, h, hall, a, σ, hQ, hf, hd => by
    cases h
    exact ⟨σ, hQ, hf, hd⟩
  | o :: l, as, h, hall, a, σ, hQ, hf, hd => by
    obtain ⟨ao, as', h1, h2, rfl⟩ := trOpers_cons h
    obtain ⟨t1, t2, t3, t4⟩ := trOper_spec h1
    simp only [List.all_cons, Bool.and_eq_true] at hall
    have cont : ∀ σ : Frame, FRel μ m.length σ a.tmps k → ∀ x, awpOps P Q as' (σ.put ao.dst x) m → x.ok μ m.length → wpQuiet P ops (fun w => HRel B w0 μ m w) (fun a' => ∃ σ', Q σ' m ∧ FRel μ m.length σ' a'.tmps k ∧ a'.defers = D) l (a.put o.dst (concX μ x)) := by
      intro σ hf x hx hok
      refine quiet_sound hne h2 hall.2 hx ?_ (by rw [defers_put]; exact hd)
      rw [t4]
      exact hf.put t1 hok
    have go : ∀ σ : Frame, FRel μ m.length σ a.tmps k → aop P ao.op σ m (fun x m' => awpOps P Q as' (σ.put ao.dst x) m') → o.quiet P a (fun w => HRel B w0 μ m w) (wpQuiet P ops (fun w => HRel B w0 μ m w) (fun a' => ∃ σ', Q σ' m ∧ FRel μ m.length σ' a'.tmps k ∧ a'.defers = D) l) := by
      intro σ hf hop
      rcases op_cases (B := B) (w0 := w0) t2 hf hop with ⟨_, hq, _⟩ | ⟨f, ps, c, hc0, ho, hc, hcan, hp⟩ | ⟨hq, _⟩
      · exact quiet_of_q hq hne (cont σ hf)
      · rw [hc0] at hop
        exact quiet_callq ho hc hcan hp hf hop (cont σ hf)
      · rw [hq] at hall; cases hall.1
    simp only [awpOps] at hQ
    simp only [wpQuiet]
    rcases guard_spec t3 hf with ⟨e, hwt⟩ | ⟨s, b, e, hb, hu⟩
    · rw [e] at hQ
      simp only [hwt, if_true]
      exact go σ hf hQ
    · rw [e] at hQ
      simp only at hQ
      split at hQ
      · rename_i t ht
        rw [hb t ht]
        by_cases htb : t = b
        · simp only [htb, decide_true, if_true]
          exact go _ (hf.again (by rw [ht, htb])) (hQ.1 htb)
        · simp only [htb, decide_false, Bool.false_eq_true, if_false]
          have htn : t = !b := by cases t <;> cases b <;> simp_all
          exact cont _ (hf.again (by rw [ht, htn])) .undef (hQ.2 htn) trivial
      · rename_i ht
        rw [hu ht]
        simp only [Bool.false_eq_true, if_false]
        exact cont σ hf .undef hQ trivial
      · exact hQ.elim

/-- The still beginning of a region whose end is one chain. -/
theorem still_sound {ops : Array Oper} {Q : Frame → Heap → Prop} {μ : Mu} {m : Heap} {w : World} {D : List Deferred} (hw : HRel B w0 μ m w) : ∀ {l : List Oper} {as : List AOper}, trOpers P k ops true l = some as → as.all (·.op.still) = true →
    ∀ {a : Act} {σ : Frame}, awpOps P Q as σ m → FRel μ m.length σ a.tmps k → a.defers = D →
      wpStill P ops w (fun a' => ∃ σ', Q σ' m ∧ FRel μ m.length σ' a'.tmps k ∧ a'.defers = D) l a
  | [], as, h, hall, a, σ, hQ, hf, hd => by
    cases h
    exact ⟨σ, hQ, hf, hd⟩
  | o :: l, as, h, hall, a, σ, hQ, hf, hd => by
    obtain ⟨ao, as', h1, h2, rfl⟩ := trOpers_cons h
    obtain ⟨t1, t2, t3, t4⟩ := trOper_spec h1
    simp only [List.all_cons, Bool.and_eq_true] at hall
    have cont : ∀ σ : Frame, FRel μ m.length σ a.tmps k → ∀ x, awpOps P Q as' (σ.put ao.dst x) m → x.ok μ m.length → wpStill P ops w (fun a' => ∃ σ', Q σ' m ∧ FRel μ m.length σ' a'.tmps k ∧ a'.defers = D) l (a.put o.dst (concX μ x)) := by
      intro σ hf x hx hok
      refine still_sound hw h2 hall.2 hx ?_ (by rw [defers_put]; exact hd)
      rw [t4]
      exact hf.put t1 hok
    have go : ∀ σ : Frame, FRel μ m.length σ a.tmps k → aop P ao.op σ m (fun x m' => awpOps P Q as' (σ.put ao.dst x) m') → o.still P a w (wpStill P ops w (fun a' => ∃ σ', Q σ' m ∧ FRel μ m.length σ' a'.tmps k ∧ a'.defers = D) l) := by
      intro σ hf hop
      rcases op_cases (B := B) (w0 := w0) t2 hf hop with ⟨_, hq, _⟩ | ⟨f, ps, c, hc0, ho, hc, hcan, hp⟩ | ⟨hq, _⟩
      · exact still_of_q hq hw (cont σ hf)
      · rw [hc0] at hall; cases hall.1
      · exfalso
        have h1 := hall.1
        cases hop : ao.op <;> rw [hop] at h1 hq <;> simp [AOp.still, AOp.quiet] at h1 hq
    simp only [awpOps] at hQ
    simp only [wpStill]
    rcases guard_spec t3 hf with ⟨e, hwt⟩ | ⟨s, b, e, hb, hu⟩
    · rw [e] at hQ
      simp only [hwt, if_true]
      exact go σ hf hQ
    · rw [e] at hQ
      simp only at hQ
      split at hQ
      · rename_i t ht
        rw [hb t ht]
        by_cases htb : t = b
        · simp only [htb, decide_true, if_true]
          exact go _ (hf.again (by rw [ht, htb])) (hQ.1 htb)
        · simp only [htb, decide_false, Bool.false_eq_true, if_false]
          have htn : t = !b := by cases t <;> cases b <;> simp_all
          exact cont _ (hf.again (by rw [ht, htn])) .undef (hQ.2 htn) trivial
      · rename_i ht
        rw [hu ht]
        simp only [Bool.false_eq_true, if_false]
        exact cont σ hf .undef hQ trivial
      · exact hQ.elim

theorem awpOps_append {Q : Frame → Heap → Prop} : ∀ (x y : List AOper) (σ : Frame) (m : Heap), awpOps P Q (x ++ y) σ m = awpOps P (awpOps P Q y) x σ m
  | [], y, σ, m => rfl
  | o :: x, y, σ, m => by
    have ih : awpOps P Q (x ++ y) = awpOps P (awpOps P Q y) x := funext fun σ => funext fun m => awpOps_append x y σ m
    simp only [List.cons_append, awpOps, ih]

theorem late_sound {id : Nat} {ops : Array Oper} {ac : ACode} (hm : P.follows .mixedOrders = true) (ht : trLate P k ops = some ac) {Q : AExit → Frame → Heap → Prop} {μ : Mu} {a : Act} {σ : Frame} {m : Heap} {w : World}
    (h : awp P ac Q σ m) (hw : HRel B w0 μ m w) (hf : FRel μ m.length σ a.tmps k) (hd : a.defers = []) (hn : n ≤ m.length) (hag : Agree n μ0 μ) : (Code.region id ops true).wp P (Lift B w0 k n μ0 Q) a w := by
  have hdrew : HRel B w0 μ m { w with drawn := w.drawn + 1 } := hw.drew
  unfold trLate at ht
  split at ht
  · cases ht
  · rename_i j hj
    have hB : Region.lexTailB .any ops j = true := List.find?_some hj
    split at ht
    · rename_i x y hx hy
      obtain ⟨hq, e⟩ := ite_some ht
      subst e
      have h' : awpOps P (awpOps P (Q .normal) y) x σ m := by rw [← awpOps_append]; exact h
      refine wp_region_late (C := fun w => HRel B w0 μ m w) hm hB hdrew ?_
      exact lateMono (fun a' ⟨σ', h1, h2, h3⟩ w' hw' => list_sound (Q := Q) hy h1 hw' h2 h3 hn hag) _ _ (quiet_sound ⟨w, hw⟩ hx hq h' hf hd)
    · cases ht
where
  lateMono {P : Program} {ops : Array Oper} {C : World → Prop} {Q Q' : Act → Prop} (h : ∀ a, Q a → Q' a) : ∀ (l : List Oper) (a : Act), wpQuiet P ops C Q l a → wpQuiet P ops C Q' l a
    | [], a, hh => h a hh
    | o :: l, a, hh => by
      simp only [wpQuiet] at hh ⊢
      split
      · rename_i hw; simp only [hw, if_true] at hh; exact Oper.quiet_mono (fun a' => lateMono h l a') hh
      · rename_i hw; simp only [hw] at hh; exact lateMono h l _ hh

/-- What only reads, in every world that holds the rows. -/
theorem reads_sound {ops : Array Oper} {Q : Frame → Heap → Prop} {μ : Mu} {m : Heap} {D : List Deferred} (hne : ∃ w, HRel B w0 μ m w) : ∀ {l : List Oper} {as : List AOper}, trOpers P k ops true l = some as → as.all (·.op.still) = true →
    ∀ {a : Act} {σ : Frame}, awpOps P Q as σ m → FRel μ m.length σ a.tmps k → a.defers = D →
      wpReads P ops (fun w => HRel B w0 μ m w) (fun a' => ∃ σ', Q σ' m ∧ FRel μ m.length σ' a'.tmps k ∧ a'.defers = D) l a
  | [], as, h, hall, a, σ, hQ, hf, hd => by
    cases h
    exact ⟨σ, hQ, hf, hd⟩
  | o :: l, as, h, hall, a, σ, hQ, hf, hd => by
    obtain ⟨ao, as', h1, h2, rfl⟩ := trOpers_cons h
    obtain ⟨t1, t2, t3, t4⟩ := trOper_spec h1
    simp only [List.all_cons, Bool.and_eq_true] at hall
    have cont : ∀ σ : Frame, FRel μ m.length σ a.tmps k → ∀ x, awpOps P Q as' (σ.put ao.dst x) m → x.ok μ m.length → wpReads P ops (fun w => HRel B w0 μ m w) (fun a' => ∃ σ', Q σ' m ∧ FRel μ m.length σ' a'.tmps k ∧ a'.defers = D) l (a.put o.dst (concX μ x)) := by
      intro σ hf x hx hok
      refine reads_sound hne h2 hall.2 hx ?_ (by rw [defers_put]; exact hd)
      rw [t4]
      exact hf.put t1 hok
    have go : Region.wanted o (yielded ops a.tmps) = true → ∀ σ : Frame, FRel μ m.length σ a.tmps k → aop P ao.op σ m (fun x m' => awpOps P Q as' (σ.put ao.dst x) m') → wpReads P ops (fun w => HRel B w0 μ m w) (fun a' => ∃ σ', Q σ' m ∧ FRel μ m.length σ' a'.tmps k ∧ a'.defers = D) (o :: l) a := by
      intro hwt σ hf hop
      rcases op_cases (B := B) (w0 := w0) t2 hf hop with ⟨_, ⟨x, hx, hq⟩, _⟩ | ⟨f, ps, c, hc0, ho, hc, hcan, hp⟩ | ⟨hq, _⟩
      · obtain ⟨w1, hw1⟩ := hne
        exact ⟨concX μ x, .inl ⟨hwt, fun w hw => (hq w hw).2⟩, cont σ hf x hx (hq w1 hw1).1⟩
      · rw [hc0] at hall; cases hall.1
      · exfalso
        have h1 := hall.1
        cases hop : ao.op <;> rw [hop] at h1 hq <;> simp [AOp.still, AOp.quiet] at h1 hq
    have skip : Region.wanted o (yielded ops a.tmps) = false → ∀ σ : Frame, FRel μ m.length σ a.tmps k → awpOps P Q as' (σ.put ao.dst .undef) m → wpReads P ops (fun w => HRel B w0 μ m w) (fun a' => ∃ σ', Q σ' m ∧ FRel μ m.length σ' a'.tmps k ∧ a'.defers = D) (o :: l) a :=
      fun hwt σ hf hs => ⟨undef, .inr ⟨hwt, rfl⟩, cont σ hf .undef hs trivial⟩
    simp only [awpOps] at hQ
    rcases guard_spec t3 hf with ⟨e, hwt⟩ | ⟨s, b, e, hb, hu⟩
    · rw [e] at hQ
      exact go hwt σ hf hQ
    · rw [e] at hQ
      simp only at hQ
      split at hQ
      · rename_i t ht
        by_cases htb : t = b
        · exact go (by rw [hb t ht, htb]; simp) _ (hf.again (by rw [ht, htb])) (hQ.1 htb)
        · have htn : t = !b := by cases t <;> cases b <;> simp_all
          exact skip (by rw [hb t ht]; simp [htb]) _ (hf.again (by rw [ht, htn])) (hQ.2 htn)
      · rename_i ht
        exact skip (hu ht) σ hf hQ
      · exact hQ.elim

theorem seqD_of_list {ops : Array Oper} {C : World → Prop} {Q : Exit → Act → World → Prop} {t : Nat} : ∀ {L : List Nat} {a : Act} {w : World}, (∀ j ∈ L, t ≤ j ∧ j < ops.size) → wpList P ops Q (opsAt ops L) a w → wpSeqD P ops C Q t L a w
  | [], a, w, _, h => h
  | j :: L, a, w, hL, h => by
    have hj := hL j (by simp)
    have hoj : ops[j]? = some ops[j] := Array.getElem?_eq_getElem hj.2
    have hops : opsAt ops (j :: L) = ops[j] :: opsAt ops L := by simp [opsAt, hoj]
    rw [hops] at h
    have key : wpOp P ops Q j (wpList P ops Q (opsAt ops L)) a w := by unfold wpOp; simp only [hoj]; exact h
    exact wpOp_mono (fun a' w' h' => ⟨fun c => by omega, seqD_of_list (fun i hi => hL i (by simp [hi])) h'⟩) key

theorem keep_sound {ops : Array Oper} {Q : Exit → Act → World → Prop} {G : Frame → Heap → Prop} {t : Nat} {Y : List Nat} {m1 : Heap} {μ1 : Mu}
    (hok : ∀ (id : Nat) (r : Row), m1[id]? = some r → ∀ i : Nat, i < r.vals.len → (r.vals.get i).ok μ1 m1.length)
    (hY : ∀ {μ : Mu} {a : Act} {σ : Frame} {m : Heap} {w : World}, G σ m → HRel B w0 μ m w → FRel μ m.length σ a.tmps k → a.defers = [] → n ≤ m.length → Agree n μ0 μ → wpSeqD P ops (fun w => HRel B w0 μ1 m1 w) Q t Y a w) :
    ∀ {L : List Nat} {as : List AOper}, (∀ j ∈ L, j < ops.size) → trOpers P k ops false (opsAt ops L) = some as → as.all (·.guard.isNone) = true →
    ∀ {μ : Mu} {a : Act} {σ : Frame} {m : Heap} {w : World}, awpKeep P G as σ m → HRel B w0 μ m w → FRel μ m.length σ a.tmps k → a.defers = [] → n ≤ m.length → Agree n μ0 μ → m1 <+: m → Agree m1.length μ1 μ →
      wpSeqD P ops (fun w => HRel B w0 μ1 m1 w) Q t (L ++ Y) a w
  | [], as, _, h, _, μ, a, σ, m, w, hG, hw, hf, hd, hn, hag, _, _ => by
    cases h
    exact hY hG hw hf hd hn hag
  | j :: L, as, hL, h, hg, μ, a, σ, m, w, hG, hw, hf, hd, hn, hag, hp, hag1 => by
    have hj := hL j (by simp)
    have hoj : ops[j]? = some ops[j] := Array.getElem?_eq_getElem hj
    have hops : opsAt ops (j :: L) = ops[j] :: opsAt ops L := by simp [opsAt, hoj]
    rw [hops] at h
    obtain ⟨ao, as', h1, h2, rfl⟩ := trOpers_cons h
    obtain ⟨t1, t2, t3, t4⟩ := trOper_spec h1
    simp only [List.all_cons, Bool.and_eq_true] at hg
    have hwt : Region.wanted ops[j] (yielded ops a.tmps) = true := by
      rcases guard_spec t3 hf with ⟨_, hwt⟩ | ⟨s, b, e, _⟩
      · exact hwt
      · rw [e] at hg; cases hg.1
    have key : wpOp P ops Q j (ERes B w0 μ m.length a ops[j] (KeepK (awpKeep P G as') σ ao.dst m)) a w := by
      unfold wpOp
      simp only [hoj, hwt, if_true]
      exact .inl (oper_wp t2 hw hf hG)
    refine wpOp_mono ?_ key
    rintro a' w' ⟨x, m', μ', ⟨hpm, hK⟩, rfl, hx, hh, hl, hag'⟩
    have hag2 : Agree m1.length μ1 μ' := hag1.trans hag' hp.length_le
    refine ⟨fun _ => hh.restrict (hp.trans hpm) hag2 hok, keep_sound hok hY (fun i hi => hL i (by simp [hi])) h2 hg.2 hK hh ?_ (by rw [defers_put]; exact hd) (Nat.le_trans hn hl) (hag.trans hag' hn) (hp.trans hpm) hag2⟩
    rw [t4]
    exact (hf.agree hag' hl).put t1 hx

theorem keepF_sound {ops : Array Oper} {Q : Exit → Act → World → Prop} {G : Frame → Heap → Prop} {t : Nat} {Y : List Nat} {m1 : Heap} {μ1 : Mu}
    (hok : ∀ (id : Nat) (r : Row), m1[id]? = some r → ∀ i : Nat, i < r.vals.len → (r.vals.get i).ok μ1 m1.length)
    (hY : ∀ {μ : Mu} {a : Act} {σ : Frame} {m : Heap} {w : World}, G σ m → HRel B w0 μ m w → FRel μ m.length σ a.tmps k → a.defers = [] → n ≤ m.length → Agree n μ0 μ → wpSeqD P ops (fun w => HRel B w0 μ1 m1 w) Q t Y a w) :
    ∀ {L : List Nat} {as : List AOper}, (∀ j ∈ L, j < ops.size) → trOpers P k ops false (opsAt ops L) = some as → as.all (·.guard.isNone) = true →
    ∀ {μ : Mu} {a : Act} {σ : Frame} {m : Heap} {w : World}, awpKeepF P m1 G as σ m → HRel B w0 μ m w → FRel μ m.length σ a.tmps k → a.defers = [] → n ≤ m.length → Agree n μ0 μ → Fewer m1 m → Agree m1.length μ1 μ →
      wpSeqD P ops (fun w => HRel B w0 μ1 m1 w) Q t (L ++ Y) a w
  | [], as, _, h, _, μ, a, σ, m, w, hG, hw, hf, hd, hn, hag, _, _ => by
    cases h
    exact hY hG hw hf hd hn hag
  | j :: L, as, hL, h, hg, μ, a, σ, m, w, hG, hw, hf, hd, hn, hag, hp, hag1 => by
    have hj := hL j (by simp)
    have hoj : ops[j]? = some ops[j] := Array.getElem?_eq_getElem hj
    have hops : opsAt ops (j :: L) = ops[j] :: opsAt ops L := by simp [opsAt, hoj]
    rw [hops] at h
    obtain ⟨ao, as', h1, h2, rfl⟩ := trOpers_cons h
    obtain ⟨t1, t2, t3, t4⟩ := trOper_spec h1
    simp only [List.all_cons, Bool.and_eq_true] at hg
    have hwt : Region.wanted ops[j] (yielded ops a.tmps) = true := by
      rcases guard_spec t3 hf with ⟨_, hwt⟩ | ⟨s, b, e, _⟩
      · exact hwt
      · rw [e] at hg; cases hg.1
    have key : wpOp P ops Q j (ERes B w0 μ m.length a ops[j] (KeepF m1 (awpKeepF P m1 G as') σ ao.dst)) a w := by
      unfold wpOp
      simp only [hoj, hwt, if_true]
      exact .inl (oper_wp t2 hw hf hG)
    refine wpOp_mono ?_ key
    rintro a' w' ⟨x, m', μ', ⟨hpm, hK⟩, rfl, hx, hh, hl, hag'⟩
    have hag2 : Agree m1.length μ1 μ' := hag1.trans hag' hp.le
    refine ⟨fun _ => hh.fewer hpm hag2 hok, keepF_sound hok hY (fun i hi => hL i (by simp [hi])) h2 hg.2 hK hh ?_ (by rw [defers_put]; exact hd) (Nat.le_trans hn hl) (hag.trans hag' hn) hpm hag2⟩
    rw [t4]
    exact (hf.agree hag' hl).put t1 hx

theorem past_sound {id : Nat} {ops : Array Oper} {ac : ACode} (hm : P.follows .mixedOrders = true) (ht : trPast P k ops = some ac) {Q : AExit → Frame → Heap → Prop} {μ : Mu} {a : Act} {σ : Frame} {m : Heap} {w : World}
    (h : awp P ac Q σ m) (hw : HRel B w0 μ m w) (hf : FRel μ m.length σ a.tmps k) (hd : a.defers = []) (hn : n ≤ m.length) (hag : Agree n μ0 μ) : (Code.region id ops true).wp P (Lift B w0 k n μ0 Q) a w := by
  have hdrew : HRel B w0 μ m { w with drawn := w.drawn + 1 } := hw.drew
  unfold trPast at ht
  split at ht
  · cases ht
  · rename_i t htt
    have hB := List.find?_some htt
    have htn : t < ops.size := List.mem_range.1 (List.mem_of_find?_eq_some htt)
    split at ht
    · rename_i f x y hF hX hY
      obtain ⟨hq, e⟩ := ite_some ht
      subst e
      simp only [Bool.and_eq_true] at hq
      rcases h with h | ⟨mf, hml, hmf, h⟩
      · refine wp_region_past (C := fun w => HRel B w0 μ m w) (t := t) (fun c a w ⟨e', _, _, _, _, h1, _⟩ => by cases e' <;> cases h1) hm hB hdrew ?_
        refine wp_region_past.readsMono (fun a' ⟨σ', h1, h2, h3⟩ => ?_) _ _ (reads_sound ⟨_, hw⟩ hF hq.1 h hf hd)
        refine keep_sound (G := awpOps P (Q .normal) y) (fun id r hr => (hw.rows id r hr).ok) (fun {μ2 a2 σ2 m2 w2} g1 g2 g3 g4 g5 g6 => ?_) (fun j hj => ?_) hX hq.2 h1 hdrew h2 h3 hn hag List.prefix_rfl (Agree.refl _ _)
        · refine seqD_of_list (fun j hj => ?_) (list_sound (Q := Q) hY g1 g2 g3 g4 g5 g6)
          have hj := List.mem_filter.1 hj
          exact ⟨Nat.le_of_ble_eq_true hj.2, List.mem_range.1 hj.1⟩
        · have := List.mem_range.1 (List.mem_filter.1 hj).1
          omega
      · have hok : ∀ (id : Nat) (r : Row), mf[id]? = some r → ∀ i : Nat, i < r.vals.len → (r.vals.get i).ok μ mf.length := fun id r hr i hi => by
          obtain ⟨r', e0, _, _, _, e4, e5⟩ := hmf.row id r hr
          rw [← e5 i hi, hml]
          exact (hw.rows id r' e0).ok i (by omega)
        have hwf := hw.fewer hmf (Agree.refl _ _) hok
        refine wp_region_past (C := fun w => HRel B w0 μ mf w) (t := t) (fun c a w ⟨e', _, _, _, _, h1, _⟩ => by cases e' <;> cases h1) hm hB hwf.drew ?_
        refine wp_region_past.readsMono (fun a' ⟨σ', h1, h2, h3⟩ => ?_) _ _ (reads_sound ⟨_, hwf⟩ hF hq.1 h (hml ▸ hf) hd)
        refine keepF_sound (G := awpOps P (Q .normal) y) hok (fun {μ2 a2 σ2 m2 w2} g1 g2 g3 g4 g5 g6 => ?_) (fun j hj => ?_) hX hq.2 h1 hdrew (hml ▸ h2) h3 hn hag hmf (Agree.refl _ _)
        · refine seqD_of_list (fun j hj => ?_) (list_sound (Q := Q) hY g1 g2 g3 g4 g5 g6)
          have hj := List.mem_filter.1 hj
          exact ⟨Nat.le_of_ble_eq_true hj.2, List.mem_range.1 hj.1⟩
        · have := List.mem_range.1 (List.mem_filter.1 hj).1
          omega
    · cases ht

theorem oneOp_spec {ops : Array Oper} {i : Nat} {ao : AOper} (h : oneOp P k ops i = some ao) : ∃ o, ops[i]? = some o ∧ trOper P k ops false o = some ao ∧ ao.guard = none := by
  unfold oneOp at h
  split at h
  · rename_i o ho
    split at h
    · rename_i a' ha
      obtain ⟨hg, e⟩ := ite_some h
      subst e
      exact ⟨o, ho, ha, by simpa using hg⟩
    · cases h
  · cases h
theorem any_sound {ops : Array Oper} (hsel : Region.noSelect ops = true) {Q : AExit → Frame → Heap → Prop} : ∀ (f : Nat) (listed : Array Bool) (ac : ACode), trAny P k ops f listed = some ac →
    ∀ {μ : Mu} {a : Act} {σ : Frame} {m : Heap} {w : World}, awp P ac Q σ m → HRel B w0 μ m w → FRel μ m.length σ a.tmps k → a.defers = [] → n ≤ m.length → Agree n μ0 μ → wpAny P .any ops (Lift B w0 k n μ0 Q) f listed a w := by
  have hnp : NoPanic (Lift B w0 k n μ0 Q) := fun c a w ⟨e', _, _, _, _, h1, _⟩ => by cases e' <;> cases h1
  intro f
  induction f with
  | zero =>
    intro listed ac ht μ a σ m w h hw hf hd hn hag
    unfold trAny at ht
    obtain ⟨h0, e⟩ := ite_some ht
    subst e
    exact ⟨h0, .normal, σ, m, μ, h, rfl, hw, hf, hd, hn, hag⟩
  | succ f ih =>
    intro listed ac ht μ a σ m w h hw hf hd hn hag
    have step : ∀ {i : Nat} {o : AOper} {c : ACode}, oneOp P k ops i = some o → trAny P k ops f (listed.setIfInBounds i true) = some c → awpOps P (awp P c Q) [o] σ m → wpOp P ops (Lift B w0 k n μ0 Q) i (wpAny P .any ops (Lift B w0 k n μ0 Q) f (listed.setIfInBounds i true)) a w := fun {i o c} h1 h2 h3 => by
      obtain ⟨oo, ho, htr, hg⟩ := oneOp_spec h1
      obtain ⟨t1, t2, t3, t4⟩ := trOper_spec htr
      have hwt : Region.wanted oo (yielded ops a.tmps) = true := by
        rcases guard_spec t3 hf with ⟨_, hwt⟩ | ⟨s, b, e, _⟩
        · exact hwt
        · rw [e] at hg; cases hg
      simp only [awpOps, hg] at h3
      have key : wpOp P ops (Lift B w0 k n μ0 Q) i (ERes B w0 μ m.length a oo (Kont (awpOps P (awp P c Q) []) σ o.dst)) a w := by
        unfold wpOp
        simp only [ho, hwt, if_true]
        exact .inl (oper_wp t2 hw hf h3)
      refine wpOp_mono ?_ key
      rintro a' w' ⟨x, m', μ', hK, rfl, hx, hh, hl, hag'⟩
      refine ih _ c h2 hK hh ?_ (by rw [defers_put]; exact hd) (Nat.le_trans hn hl) (hag.trans hag' hn)
      rw [t4]
      exact (hf.agree hag' hl).put t1 hx
    unfold trAny at ht
    split at ht
    · rename_i h0
      cases ht
      exact ⟨fun _ => ⟨.normal, σ, m, μ, h, rfl, hw, hf, hd, hn, hag⟩, fun i hi => by rw [h0] at hi; cases hi⟩
    · rename_i i l hr
      split at ht
      · rename_i j hj
        have hjm : j ∈ Region.ready .any ops listed := by rw [hr]; exact List.mem_of_find?_eq_some hj
        have hjp := List.find?_some hj
        split at ht
        · rename_i o c h1 h2
          cases ht
          obtain ⟨oo, ho, htr, hg⟩ := oneOp_spec h1
          obtain ⟨t1, t2, t3, t4⟩ := trOper_spec htr
          have hwt : Region.wanted oo (yielded ops a.tmps) = true := by
            rcases guard_spec t3 hf with ⟨_, hwt⟩ | ⟨s, b, e, _⟩
            · exact hwt
            · rw [e] at hg; cases hg
          unfold pureB at hjp
          simp only [ho, htr, Bool.and_eq_true] at hjp
          have h3 : awpOps P (awp P c Q) [o] σ m := h
          simp only [awpOps, hg] at h3
          rcases op_cases (B := B) (w0 := w0) t2 hf h3 with ⟨_, _, hq⟩ | ⟨f, ps, c', e, _⟩ | ⟨e, _⟩
          · obtain ⟨x, hK, hx⟩ := hq hjp.1.1
            refine wpAny_pure (v := concX μ x) hnp ho (Region.noSelect_spec hsel) f listed a w (Region.free_spec ho hjp.2) hjm (.inl ⟨hwt, fun w _ => (hx w).2⟩) ?_
            refine ih _ c h2 hK hw ?_ (by rw [defers_put]; exact hd) hn hag
            rw [t4]
            exact hf.put t1 (hx w).1
          · rw [e] at hjp; cases hjp.1.1
          · exfalso
            have hp := hjp.1.1
            cases hop : o.op <;> rw [hop] at hp e <;> simp [AOp.pure, AOp.quiet] at hp e
        · cases ht
      · split at ht
        · split at ht
          · rename_i o c h1 h2
            cases ht
            refine ⟨fun h0 => (by rw [hr] at h0; cases h0), fun j hj => ?_⟩
            rw [hr] at hj
            obtain rfl : j = i := by simpa using hj
            exact step h1 h2 h
          · cases ht
        · rename_i j _
          split at ht
          · rename_i o c u d h1 h2 h3 h4
            cases ht
            refine ⟨fun h0 => (by rw [hr] at h0; cases h0), fun j' hj => ?_⟩
            rw [hr] at hj
            rcases List.mem_cons.1 hj with rfl | hj
            · exact step h1 h2 h.1
            · obtain rfl : j' = j := by simpa using hj
              exact step h3 h4 h.2
          · cases ht
        · cases ht

theorem lateP_sound {id : Nat} {ops : Array Oper} {ac : ACode} (hm : P.follows .mixedOrders = true) (ht : trLateP P k ops = some ac) {Q : AExit → Frame → Heap → Prop} {μ : Mu} {a : Act} {σ : Frame} {m : Heap} {w : World}
    (h : awp P ac Q σ m) (hw : HRel B w0 μ m w) (hf : FRel μ m.length σ a.tmps k) (hd : a.defers = []) (hn : n ≤ m.length) (hag : Agree n μ0 μ) : (Code.region id ops true).wp P (Lift B w0 k n μ0 Q) a w := by
  unfold trLateP at ht
  split at ht
  · rename_i c hc
    cases ht
    split at hc
    · cases hc
    · exact late_sound hm hc h hw hf hd hn hag
  · split at ht
    · rename_i c hc
      cases ht
      exact past_sound hm hc h hw hf hd hn hag
    · obtain ⟨hs, e⟩ : Region.noSelect ops = true ∧ trAny P k ops ops.size (Array.replicate ops.size false) = some ac := by
        split at ht
        · rename_i hs; exact ⟨hs, ht⟩
        · cases ht
      exact wp_region_any hm (any_sound hs _ _ _ e h hw.drew hf hd hn hag)

theorem region_sound {id : Nat} {ops : Array Oper} {draw : Bool} {ac : ACode} (ht : trRegion P k ops.toList draw = some ac) {Q : AExit → Frame → Heap → Prop} {μ : Mu} {a : Act} {σ : Frame} {m : Heap} {w : World}
    (h : awp P ac Q σ m) (hw : HRel B w0 μ m w) (hf : FRel μ m.length σ a.tmps k) (hd : a.defers = []) (hn : n ≤ m.length) (hag : Agree n μ0 μ) : (Code.region id ops draw).wp P (Lift B w0 k n μ0 Q) a w := by
  have hdrew : HRel B w0 μ m { w with drawn := w.drawn + 1 } := hw.drew
  unfold trRegion at ht
  split at ht
  · rename_i hdr
    subst hdr
    split at ht
    · rename_i hm
      rw [show ops.toList.toArray = ops by simp] at ht
      unfold trDraw at ht
      split at ht
      · cases ht
      · rename_i as has
        split at ht
        · rename_i hq
          split at ht
          · rename_i c hc
            split at hc
            · cases ht
              exact lateP_sound hm hc h hw hf hd hn hag
            · cases hc
          cases ht
          simp only [Bool.and_eq_true] at hq
          refine wp_region_quiet (C := fun w => HRel B w0 μ m w) hm hq.1 hdrew ?_
          have := quiet_sound (B := B) (w0 := w0) ⟨w, hw⟩ has hq.2 (show awpOps P (Q .normal) as σ m from h) hf hd
          refine wpQuiet_mono (fun a' ⟨σ', h1, h2, h3⟩ w' hw' => ⟨.normal, σ', m, μ, h1, rfl, hw', h2, h3, hn, hag⟩) _ _ this
        · split at ht
          · exact lateP_sound hm ht h hw hf hd hn hag
          · rename_i j hj
            have hlt : floatB ops j = true := List.find?_some hj
            split at ht
            · rename_i f x y hf' hx hy
              split at ht
              case isFalse => exact lateP_sound hm ht h hw hf hd hn hag
              rename_i hst
              simp only [Bool.and_eq_true] at hst
              cases ht
              have h' : awpOps P (awpOps P (awpOps P (Q .normal) y) x) f σ m := by
                have e2 : awpOps P (Q .normal) (x ++ y) = awpOps P (awpOps P (Q .normal) y) x := funext fun σ => funext fun m => awpOps_append x y σ m
                rw [← e2, ← awpOps_append]
                exact h
              have hs := still_sound hdrew hf' hst.1 h' hf hd
              exact wp_region_float j (fun c a w ⟨e', _, _, _, _, h1, _⟩ => by cases e' <;> cases h1) hm hlt
                (wpStill_mono (fun a' ⟨σ', h1, h2, h3⟩ => wpStill_mono (fun a' ⟨σ', h1, h2, h3⟩ => list_sound (Q := Q) hy h1 hdrew h2 h3 hn hag) _ _ (still_sound hdrew hx hst.2 h1 h2 h3)) _ _ hs)
            · cases ht
    · cases ht
  · rename_i hdr
    have : draw = false := by simpa using hdr
    subst this
    split at ht
    · rename_i as has
      cases ht
      refine wp_region ?_
      have hl := list_sound (B := B) (w0 := w0) (n := n) (μ0 := μ0) (Q := Q) has (show awpOps P (Q .normal) as σ m from h) hw hf hd hn hag
      have e := wpOps_eq_wpList (P := P) (ops := ops) (Q := Lift B w0 k n μ0 Q) ops.toList 0 (fun j => by simp)
      rw [List.range_eq_range']
      rw [show ops.toList.length = ops.size by simp] at e
      rw [e]
      simpa using hl
    · cases ht
where
  wpQuiet_mono {P : Program} {ops : Array Oper} {C : World → Prop} {Q Q' : Act → Prop} (h : ∀ a, Q a → Q' a) : ∀ (l : List Oper) (a : Act), wpQuiet P ops C Q l a → wpQuiet P ops C Q' l a
    | [], a, hh => h a hh
    | o :: l, a, hh => by
      simp only [wpQuiet] at hh ⊢
      split
      · rename_i hw; simp only [hw, if_true] at hh; exact Oper.quiet_mono (fun a' => wpQuiet_mono h l a') hh
      · rename_i hw; simp only [hw] at hh; exact wpQuiet_mono h l _ hh
  wpStill_mono {P : Program} {ops : Array Oper} {w : World} {Q Q' : Act → Prop} (h : ∀ a, Q a → Q' a) : ∀ (l : List Oper) (a : Act), wpStill P ops w Q l a → wpStill P ops w Q' l a
    | [], a, hh => h a hh
    | o :: l, a, hh => by
      simp only [wpStill] at hh ⊢
      split
      · rename_i hw; simp only [hw, if_true] at hh; exact Oper.still_mono (fun a' => wpStill_mono h l a') hh
      · rename_i hw; simp only [hw] at hh; exact wpStill_mono h l _ hh

theorem keep_get {σ : Frame} : ∀ {L : List Nat} {t : Nat} {x : XV}, (σ.keep L).get t = some x → σ.get t = some x
  | [], t, x, h => by cases h
  | u :: L, t, x, h => by
    simp only [Frame.keep] at h
    split at h
    · rename_i y hy
      simp only [Frame.get] at h
      by_cases e : u = t
      · subst e; simp at h; rw [hy, h]
      · rw [beq_false_of_ne e] at h; exact keep_get (L := L) h
    · exact keep_get (L := L) h

theorem FRel.keep {μ : Mu} {σ : Frame} {tmps : Array Value} {len : Nat} (hf : FRel μ len σ tmps k) (L : List Nat) : FRel μ len (σ.keep L) tmps k :=
  ⟨hf.size, fun t x h => hf.slot t x (keep_get h)⟩

theorem least_of {p : Nat → Prop} (h : ∃ j, p j) : ∃ j, p j ∧ ∀ i, p i → j ≤ i := by
  obtain ⟨j, hj⟩ := h
  induction j using Nat.strongRecOn with
  | _ j ih =>
    by_cases hl : ∃ i, i < j ∧ p i
    · obtain ⟨i, hi, hp⟩ := hl
      exact ih i hi hp
    · exact ⟨j, hj, fun i hi => Nat.le_of_not_lt fun hlt => hl ⟨i, hlt, hi⟩⟩

open Classical in
noncomputable def leastOf (p : Nat → Prop) : Nat := if h : ∃ j, p j then Classical.choose (least_of h) else 0
theorem leastOf_spec {p : Nat → Prop} (h : ∃ j, p j) : p (leastOf p) ∧ ∀ i, p i → leastOf p ≤ i := by
  unfold leastOf
  rw [dif_pos h]
  exact Classical.choose_spec (least_of h)

theorem code_sound : ∀ {c : Code} {ac : ACode}, trCode P k c = some ac → ∀ {Q : AExit → Frame → Heap → Prop} {n : Nat} {μ0 μ : Mu} {a : Act} {σ : Frame} {m : Heap} {w : World},
    awp P ac Q σ m → HRel B w0 μ m w → FRel μ m.length σ a.tmps k → a.defers = [] → n ≤ m.length → Agree n μ0 μ → c.wp P (Lift B w0 k n μ0 Q) a w := by
  intro c
  induction c with
  | skip =>
    intro ac ht Q n μ0 μ a σ m w h hw hf hd hn hag
    cases ht
    exact wp_skip ⟨.normal, σ, m, μ, h, rfl, hw, hf, hd, hn, hag⟩
  | region id ops draw =>
    intro ac ht Q n μ0 μ a σ m w h hw hf hd hn hag
    exact region_sound ht h hw hf hd hn hag
  | seq x y ihx ihy =>
    intro ac ht Q n μ0 μ a σ m w h hw hf hd hn hag
    simp only [trCode, Option.bind_eq_bind] at ht
    obtain ⟨ax, hx, ht⟩ := some_bind ht
    obtain ⟨ay, hy, ht⟩ := some_bind ht
    cases ht
    refine wp_seq (wp_mono (ihx hx (show awp P ax (AExit.thn (awp P ay Q) Q) σ m from h) hw hf hd hn hag) fun e a' w' => ?_)
    rintro ⟨e', σ', m', μ', hQ, rfl, hw', hf', hd', hn', hag'⟩
    cases e' with
    | normal => exact ihy hy hQ hw' hf' hd' hn' hag'
    | exit i => exact ⟨.exit i, σ', m', μ', hQ, rfl, hw', hf', hd', hn', hag'⟩
    | ret => exact ⟨.ret, σ', m', μ', hQ, rfl, hw', hf', hd', hn', hag'⟩
  | cond c x y ihx ihy =>
    intro ac ht Q n μ0 μ a σ m w h hw hf hd hn hag
    simp only [trCode, Option.bind_eq_bind] at ht
    obtain ⟨pc, hc, ht⟩ := some_bind ht
    obtain ⟨ax, hx, ht⟩ := some_bind ht
    obtain ⟨ay, hy, ht⟩ := some_bind ht
    cases ht
    simp only [awp] at h
    split at h
    · rename_i t ht
      have h1 := (ev_spec hf hc ht).1
      refine wp_cond_split (t := t) h1 (fun e => ihx hx (h.1 e) hw hf hd hn hag) (fun e => ihy hy (h.2 e) hw hf hd hn hag)
    · exact h.elim
  | block id x ihx =>
    intro ac ht Q n μ0 μ a σ m w h hw hf hd hn hag
    simp only [trCode, Option.bind_eq_bind] at ht
    obtain ⟨ax, hx, ht⟩ := some_bind ht
    cases ht
    refine wp_block (wp_mono (ihx hx (show awp P ax (AExit.blk id Q) σ m from h) hw hf hd hn hag) fun e a' w' => ?_)
    rintro ⟨e', σ', m', μ', hQ, rfl, hw', hf', hd', hn', hag'⟩
    cases e' with
    | normal => exact ⟨.normal, σ', m', μ', hQ, rfl, hw', hf', hd', hn', hag'⟩
    | exit i =>
      simp only [AExit.blk] at hQ
      show Exit.inBlock id _ (.exit i) a' w'
      simp only [Exit.inBlock]
      split
      · rename_i e; simp only [e, if_true] at hQ; exact ⟨.normal, σ', m', μ', hQ, rfl, hw', hf', hd', hn', hag'⟩
      · rename_i e; simp only [e, if_false] at hQ; exact ⟨.exit i, σ', m', μ', hQ, rfl, hw', hf', hd', hn', hag'⟩
    | ret => exact ⟨.ret, σ', m', μ', hQ, rfl, hw', hf', hd', hn', hag'⟩
  | loop x ihx =>
    intro ac ht Q n μ0 μ a σ m w h hw hf hd hn hag
    simp only [trCode, Option.bind_eq_bind] at ht
    obtain ⟨ax, hx, ht⟩ := some_bind ht
    cases ht
    obtain ⟨L, N, h⟩ := h
    let J : Nat → Act → World → Prop := fun j a w => ∃ σ m μ, aloop (awp P ax) L Q j σ m ∧ HRel B w0 μ m w ∧ FRel μ m.length σ a.tmps k ∧ a.defers = [] ∧ n ≤ m.length ∧ Agree n μ0 μ
    refine wp_loop (fun a w => ∃ j, J j a w) (fun a w => leastOf fun j => J j a w) ⟨N, σ, m, μ, h, hw, hf, hd, hn, hag⟩ ?_
    intro a1 w1 hI
    have hJ := (leastOf_spec hI).1
    generalize (leastOf fun j => J j a1 w1) = j at hJ
    obtain ⟨σ1, m1, μ1, h1, hw1, hf1, hd1, hn1, hag1⟩ := hJ
    cases j with
    | zero => exact h1.elim
    | succ j =>
      have := ihx hx (Q := AExit.thn (fun σ' m' => aloop (awp P ax) L Q j σ' m') Q) (show awp P ax _ (σ1.keep L) m1 from h1) hw1 (hf1.keep L) hd1 hn1 hag1
      refine wp_mono this fun e a' w' => ?_
      rintro ⟨e', σ', m', μ', hQ, rfl, hw', hf', hd', hn', hag'⟩
      cases e' with
      | normal =>
        have hJ' : J j a' w' := ⟨σ', m', μ', hQ, hw', hf', hd', hn', hag'⟩
        exact ⟨⟨j, hJ'⟩, Nat.lt_succ_of_le ((leastOf_spec ⟨j, hJ'⟩).2 j hJ')⟩
      | exit i => exact ⟨.exit i, σ', m', μ', hQ, rfl, hw', hf', hd', hn', hag'⟩
      | ret => exact ⟨.ret, σ', m', μ', hQ, rfl, hw', hf', hd', hn', hag'⟩
  | exit id =>
    intro ac ht Q n μ0 μ a σ m w h hw hf hd hn hag
    cases ht
    exact wp_exit ⟨.exit id, σ, m, μ, h, rfl, hw, hf, hd, hn, hag⟩
  | ret =>
    intro ac ht Q n μ0 μ a σ m w h hw hf hd hn hag
    cases ht
    exact wp_ret ⟨.ret, σ, m, μ, h, rfl, hw, hf, hd, hn, hag⟩
  | _ =>
    intro ac ht
    simp only [trCode] at ht
    cases ht

end

/-! ### Functions -/

def resOf (σ : Frame) : List Nat → Option (List AV)
  | [] => some []
  | t :: l => match σ.get t, resOf σ l with
    | some (.one v), some vs => some (v :: vs)
    | _, _ => none

/-- What a function hands back. -/
def retPost (res : List Nat) (R : XV → Heap → Prop) : AExit → Frame → Heap → Prop
  | .normal, σ, m | .ret, σ, m => match res with
    | [t] => match σ.get t with
      | some x => R x m
      | none => False
    | l => match resOf σ l with
      | some vs => R (.tup vs) m
      | none => False
  | .exit _, _, _ => False

def argFrame : Nat → List XV → Frame
  | _, [] => []
  | i, x :: l => (i, x) :: argFrame (i + 1) l

theorem argFrame_get : ∀ (xs : List XV) (i t : Nat) (x : XV), (argFrame i xs).get t = some x → i ≤ t ∧ xs[t - i]? = some x
  | [], i, t, x, h => by cases h
  | y :: xs, i, t, x, h => by
    simp only [argFrame, Frame.get] at h
    by_cases e : i = t
    · subst e; simp at h; exact ⟨Nat.le_refl _, by simp [h]⟩
    · rw [beq_false_of_ne e] at h
      obtain ⟨h1, h2⟩ := argFrame_get xs (i + 1) t x h
      refine ⟨by omega, ?_⟩
      have : t - i = (t - (i + 1)) + 1 := by omega
      rw [this, List.getElem?_cons_succ]
      exact h2

theorem resOf_spec {μ : Mu} {len k : Nat} {σ : Frame} {tmps : Array Value} (hf : FRel μ len σ tmps k) : ∀ {l : List Nat} {vs : List AV}, resOf σ l = some vs →
    l.map (fun t => tmps.getD t undef) = vs.map (Abs.conc μ) ∧ ∀ v ∈ vs, v.ok μ len
  | [], vs, h => by cases h; exact ⟨rfl, by simp⟩
  | t :: l, vs, h => by
    simp only [resOf] at h
    split at h
    · rename_i v us hv hus
      cases h
      obtain ⟨_, h2, h3⟩ := hf.slot t _ hv
      obtain ⟨h4, h5⟩ := resOf_spec hf hus
      refine ⟨?_, fun u hu => ?_⟩
      · rw [List.map_cons, List.map_cons, h4, Array.getD_eq_getD_getElem?, h3]; rfl
      · rcases List.mem_cons.1 hu with rfl | hu
        · exact h2
        · exact h5 u hu
    · cases h

theorem trRes_spec : ∀ {l : List ResultVar} {r : List Nat}, trRes l = some r → l = r.map ResultVar.tmp
  | [], r, h => by cases h; rfl
  | .tmp t :: l, r, h => by
    simp only [trRes, Option.bind_eq_bind] at h
    obtain ⟨q, hq, h⟩ := some_bind h
    cases h
    rw [List.map_cons, ← trRes_spec hq]
  | .cell _ _ :: l, r, h => by cases h

theorem run_mapM_tmp {P : Program} {tmps : Array Value} {w : World} (g : ResultVar → Sem Value) (hg : ∀ t, g (.tmp t) = pure (tmps.getD t undef)) :
    ∀ (l : List Nat), ((l.map ResultVar.tmp).mapM g).run P w = .ok (l.map fun t => tmps.getD t undef) w
  | [] => by simp
  | t :: l => by simp only [List.map_cons, List.mapM_cons, Sem.run_bind, hg, Sem.run_pure, Result.andThen_ok, run_mapM_tmp g hg l]

theorem run_results {P : Program} {fn : Func} {r : List Nat} (h : fn.results.toList = r.map ResultVar.tmp) (tmps : Array Value) (w : World) :
    (results fn tmps).run P w = .ok (match r.map (fun t => tmps.getD t undef) with | [v] => v | l => .tuple l.toArray) w := by
  have h' : fn.results = (r.map ResultVar.tmp).toArray := by rw [← h]
  unfold results
  rw [h', Array.mapM_eq_mapM_toList]
  simp only [Sem.run_bind, Sem.run_map]
  rw [run_mapM_tmp _ (fun t => rfl) r]
  simp only [Result.andThen_ok, Sem.run_pure]
  congr 1
  cases r with
  | nil => rfl
  | cons t r => cases r with
    | nil => rfl
    | cons u r => simp

/-- **A function's contract, from a walk of the abstract machine.** -/
theorem acalls_of_awp {P : Program} {f : FuncId} {af : AFn} (ht : trFn P f = some af) {args : List XV} {m : Heap} {R : XV → Heap → Prop} (hlen : args.length ≤ af.n)
    (h : awp P af.code (retPost af.res R) (argFrame 0 args) m) : ACalls P f args m R := by
  unfold trFn at ht
  split at ht
  · rename_i fn hfn
    split at ht
    · rename_i c hc
      simp only [Option.bind_eq_bind] at ht
      obtain ⟨code, hcode, ht⟩ := some_bind ht
      obtain ⟨res, hres, ht⟩ := some_bind ht
      cases ht
      simp only at h hlen
      intro B w0 μ w hw hok
      have hf : FRel μ m.length (argFrame 0 args) ((args.map (concX μ)).toArray ++ Array.replicate (fn.ntmps - (args.map (concX μ)).toArray.size) undef) fn.ntmps := by
        refine ⟨by simp; omega, fun t x hx => ?_⟩
        obtain ⟨_, h2⟩ := argFrame_get args 0 t x hx
        rw [Nat.sub_zero] at h2
        have hlt : t < args.length := (List.getElem?_eq_some_iff.1 h2).1
        refine ⟨by omega, hok x (List.mem_of_getElem? h2), ?_⟩
        rw [Array.getElem?_append_left (by simpa using hlt)]
        simp [h2]
      refine calls_of_wp hfn hc (wp_mono (code_sound hcode h hw (a := ⟨_, []⟩) hf rfl (Nat.le_refl _) (Agree.refl _ μ)) ?_)
      rintro e a w' ⟨e', σ', m', μ', hQ, rfl, hw', hf', hd', hn', hag'⟩
      have hrun := run_results (P := P) (trRes_spec hres) a.tmps w'
      have fin : ∀ (e'' : Exit), (e'' = .normal ∨ e'' = .ret) → retPost res R .ret σ' m' → bodyPost P fn (fun e w' => ∃ x m' μ', R x m' ∧ e = .returned (concX μ' x) ∧ x.ok μ' m'.length ∧ HRel B w0 μ' m' w' ∧ m.length ≤ m'.length ∧ Agree m.length μ μ') e'' a w' := by
        intro e'' he'' hQ
        simp only [retPost] at hQ
        have key : ∃ x, R x m' ∧ x.ok μ' m'.length ∧ (match res.map (fun t => a.tmps.getD t undef) with | [v] => v | l => .tuple l.toArray) = concX μ' x := by
          clear hrun hres
          cases res with
          | nil => exact ⟨_, hQ, by simp [XV.ok], rfl⟩
          | cons t res => cases res with
            | nil =>
              simp only at hQ
              split at hQ
              · rename_i x hx
                obtain ⟨_, h2, h3⟩ := hf'.slot t x hx
                refine ⟨x, hQ, h2, ?_⟩
                simp only [List.map_cons, List.map_nil]
                rw [Array.getD_eq_getD_getElem?, h3]
                rfl
              · exact hQ.elim
            | cons u res =>
              simp only at hQ
              split at hQ
              · rename_i vs hvs
                obtain ⟨h4, h5⟩ := resOf_spec hf' hvs
                refine ⟨_, hQ, h5, ?_⟩
                show _ = Value.tuple (vs.map (Abs.conc μ')).toArray
                rw [← h4]
                rfl
              · exact hQ.elim
        obtain ⟨x, hR, hx, hv⟩ := key
        rw [hv] at hrun
        rcases he'' with rfl | rfl <;> exact ⟨hd', _, hrun, x, m', μ', hR, rfl, hx, hw', hn', hag'⟩
      cases e' with
      | normal => exact fin _ (.inl rfl) hQ
      | exit i => exact hQ.elim
      | ret => exact fin _ (.inr rfl) hQ
    · cases ht
  · cases ht

/-- What a function hands back whose result is a variable of many cells. -/
def retPostA (res : Nat × Nat) (R : XV → Heap → Prop) : AExit → Frame → Heap → Prop
  | .normal, σ, m | .ret, σ, m => match σ.get res.1 with
    | some (.one (.ptr id off)) => onCells (m.cells id off res.2) fun x => R x m
    | _ => False
  | .exit _, _, _ => False

theorem run_resultsA {P : Program} {fn : Func} {a t n : Nat} (h : fn.results.toList = [.cell a t]) (ht : aggN P t = some n) {tmps : Array Value} {w : World} {ad : Addr} (ha : tmps.getD a undef = .pointer (some ad)) {cs : List Value}
    (hl : (loadCells ad n).run P w = .ok cs.toArray w) : (results fn tmps).run P w = .ok (.agg cs.toArray) w := by
  have h' : fn.results = #[.cell a t] := by rw [← Array.toList_inj]; exact h
  obtain ⟨g1, g2, _⟩ := aggN_spec ht w
  unfold results
  rw [h', Array.mapM_eq_mapM_toList]
  have hv : (do loadVar t (← asAddr (tmps.getD a undef))).run P w = .ok (.agg cs.toArray) w := by
    rw [ha]
    simp [asAddr, loadVar, g1, g2, hl]
  simp only [List.mapM_cons, List.mapM_nil, Sem.run_bind, Sem.run_map, hv, Result.andThen_ok, Sem.run_pure]
  rfl

theorem acalls_of_awpA {P : Program} {f : FuncId} {af : AFnA} (ht : trFnA P f = some af) {args : List XV} {m : Heap} {R : XV → Heap → Prop} (hlen : args.length ≤ af.n)
    (h : awp P af.code (retPostA af.res R) (argFrame 0 args) m) : ACalls P f args m R := by
  unfold trFnA at ht
  split at ht
  · rename_i fn hfn
    split at ht
    · rename_i c hc
      simp only [Option.bind_eq_bind] at ht
      obtain ⟨code, hcode, ht⟩ := some_bind ht
      obtain ⟨res, hres, ht⟩ := some_bind ht
      cases ht
      simp only at h hlen
      intro B w0 μ w hw hok
      have hf : FRel μ m.length (argFrame 0 args) ((args.map (concX μ)).toArray ++ Array.replicate (fn.ntmps - (args.map (concX μ)).toArray.size) undef) fn.ntmps := by
        refine ⟨by simp; omega, fun t x hx => ?_⟩
        obtain ⟨_, h2⟩ := argFrame_get args 0 t x hx
        rw [Nat.sub_zero] at h2
        have hlt : t < args.length := (List.getElem?_eq_some_iff.1 h2).1
        refine ⟨by omega, hok x (List.mem_of_getElem? h2), ?_⟩
        rw [Array.getElem?_append_left (by simpa using hlt)]
        simp [h2]
      refine calls_of_wp hfn hc (wp_mono (code_sound hcode h hw (a := ⟨_, []⟩) hf rfl (Nat.le_refl _) (Agree.refl _ μ)) ?_)
      rintro e a w' ⟨e', σ', m', μ', hQ, rfl, hw', hf', hd', hn', hag'⟩
      have fin : ∀ (e'' : Exit), (e'' = .normal ∨ e'' = .ret) → retPostA res R .ret σ' m' → bodyPost P fn (fun e w' => ∃ x m' μ', R x m' ∧ e = .returned (concX μ' x) ∧ x.ok μ' m'.length ∧ HRel B w0 μ' m' w' ∧ m.length ≤ m'.length ∧ Agree m.length μ μ') e'' a w' := by
        intro e'' he'' hQ
        simp only [retPostA] at hQ
        unfold trResA at hres
        split at hres
        · rename_i ra rt hrs
          obtain ⟨n, hn, rfl⟩ := some_map hres
          simp only at hQ
          split at hQ
          · rename_i id off hp
            obtain ⟨_, h2, h3⟩ := hf'.slot ra _ hp
            unfold onCells Heap.cells at hQ
            cases hr : m'[id]? with
            | none => simp only [hr] at hQ
            | some r =>
              simp only [hr] at hQ
              by_cases hlt : off + n ≤ r.vals.len
              · simp only [hlt, if_true] at hQ
                have hl := run_loadCells_list (P := P) w' ⟨(μ' id).blk, (μ' id).off + off, none⟩ ((r.vals.cells off n).map (Abs.conc μ')) (fun j v hj => by
                  rw [List.getElem?_map] at hj
                  obtain ⟨u, hu, rfl⟩ := some_map hj
                  have hjn : j < n := by have := (List.getElem?_eq_some_iff.1 hu).1; rwa [cells_len] at this
                  rw [cells_get _ _ _ hjn] at hu
                  cases hu
                  rw [add_lit, Nat.add_assoc]
                  exact (hw'.rows id r hr).cell (by omega))
                rw [List.length_map, cells_len] at hl
                have hrun := run_resultsA hrs hn (tmps := a.tmps) (w := w') (ad := ⟨(μ' id).blk, (μ' id).off + off, none⟩) (by rw [Array.getD_eq_getD_getElem?, h3]; rfl) hl
                have hx : (XV.agg (r.vals.cells off n)).ok μ' m'.length := fun v hv => by
                  obtain ⟨i, hi, rfl⟩ := List.mem_map.1 hv
                  have := List.mem_range.1 hi
                  exact (hw'.rows id r hr).ok _ (by omega)
                rcases he'' with rfl | rfl <;> exact ⟨hd', _, hrun, _, m', μ', hQ, rfl, hx, hw', hn', hag'⟩
              · simp only [hlt, if_false] at hQ
          · exact hQ.elim
        · cases hres
      cases e' with
      | normal => exact fin _ (.inl rfl) hQ
      | exit i => exact hQ.elim
      | ret => exact fin _ (.inr rfl) hQ
    · cases ht
  · cases ht

end Go.Abs

/- Rules for walking the abstract machine: calls, loops, sequences, and the words that are rewritten. Own work; no condition. -/
namespace Go.Abs

@[congr] theorem ACalls.congr {P : Program} {f : FuncId} {args args' : List XV} {m m' : Heap} {R : XV → Heap → Prop} (h : args = args') (hm : m = m') : ACalls P f args m R = ACalls P f args' m' R := by subst h; subst hm; rfl
@[congr] theorem ALoop.congr {step : (AExit → Frame → Heap → Prop) → Frame → Heap → Prop} {Q : AExit → Frame → Heap → Prop} {σ σ' : Frame} {m m' : Heap} (h : σ = σ') (hm : m = m') : ALoop step Q σ m = ALoop step Q σ' m' := by subst h; subst hm; rfl

theorem ACalls.mono {P : Program} {f : FuncId} {args : List XV} {m : Heap} {R R' : XV → Heap → Prop} (h : ACalls P f args m R) (hR : ∀ x m', R x m' → R' x m') : ACalls P f args m R' :=
  fun B w0 μ w hw hok => (h B w0 μ w hw hok).mono fun _ _ ⟨x, m', μ', h1, h2⟩ => ⟨x, m', μ', hR _ _ h1, h2⟩

/-- What may be said of memory at a call: families are no later than their rows. -/
def Heap.wf (m : Heap) : Prop := ∀ (id : Nat) (r : Row), m[id]? = some r → r.fam ≤ id

theorem ACalls.wf {P : Program} {f : FuncId} {args : List XV} {m : Heap} {R : XV → Heap → Prop} (h : m.wf → ACalls P f args m R) : ACalls P f args m R :=
  fun B w0 μ w hw hok => h (fun id r hr => (hw.rows id r hr).fam) B w0 μ w hw hok

theorem ACalls.post_wf {P : Program} {f : FuncId} {args : List XV} {m : Heap} {R R' : XV → Heap → Prop} (h : ACalls P f args m R) (hR : ∀ x m', m'.wf → m.length ≤ m'.length → R x m' → R' x m') : ACalls P f args m R' :=
  fun B w0 μ w hw hok => (h B w0 μ w hw hok).mono fun _ _ ⟨x, m', μ', h1, h2, h3, h4, h5, h6⟩ => ⟨x, m', μ', hR _ _ (fun id r hr => (h4.rows id r hr).fam) h5 h1, h2, h3, h4, h5, h6⟩

/-- A loop, by what holds at the head of each round. -/
theorem ALoop.intro {step : (AExit → Frame → Heap → Prop) → Frame → Heap → Prop} {Q : AExit → Frame → Heap → Prop} {σ : Frame} {m : Heap}
    (L : List Nat) (I : Frame → Heap → Prop) (mu : Frame → Heap → Nat) (h0 : I (σ.keep L) m)
    (hr : ∀ σ m, I σ m → ∀ K : Frame → Heap → Prop, (∀ σ' m', I (σ'.keep L) m' → mu (σ'.keep L) m' < mu σ m → K σ' m') → step (AExit.thn K Q) σ m) : ALoop step Q σ m := by
  have key : ∀ n σ m, I (σ.keep L) m → mu (σ.keep L) m < n → aloop step L Q n σ m := by
    intro n
    induction n with
    | zero => intro σ m _ h; exact absurd h (Nat.not_lt_zero _)
    | succ n ih =>
      intro σ m hI hlt
      exact hr _ _ hI _ fun σ' m' hI' hlt' => ih σ' m' hI' (by omega)
  exact ⟨L, _, key _ σ m h0 (Nat.lt_succ_self _)⟩

/-- The same, the state told by a letter. -/
theorem ALoop.by {α : Type} {step : (AExit → Frame → Heap → Prop) → Frame → Heap → Prop} {Q : AExit → Frame → Heap → Prop} {σ : Frame} {m : Heap}
    (L : List Nat) (fr : α → Frame) (hp : α → Heap) (ok : α → Prop) (mu : α → Nat) (a0 : α) (hs : σ.keep L = fr a0) (hm : m = hp a0) (h0 : ok a0)
    (hr : ∀ a, ok a → ∀ K : Frame → Heap → Prop, (∀ b σ' m', σ'.keep L = fr b → m' = hp b → ok b → mu b < mu a → K σ' m') → step (AExit.thn K Q) (fr a) (hp a)) : ALoop step Q σ m := by
  have key : ∀ n σ m a, σ.keep L = fr a → m = hp a → ok a → mu a < n → aloop step L Q n σ m := by
    intro n
    induction n with
    | zero => intro σ m a _ _ _ h; exact absurd h (Nat.not_lt_zero _)
    | succ n ih =>
      intro σ m a h1 h2 h3 h4
      show step _ (σ.keep L) m
      rw [h1, h2]
      exact hr a h3 _ fun b σ' m' g1 g2 g3 g4 => ih σ' m' b g1 g2 g3 (by omega)
  exact ⟨L, _, key _ σ m a0 hs hm h0 (Nat.lt_succ_self _)⟩

section
variable {P : Program} {Q : AExit → Frame → Heap → Prop} {σ : Frame} {m : Heap}
theorem xA {x y : ACode} (h : awp P x (AExit.thn (awp P y Q) Q) σ m) : awp P (.seq x y) Q σ m := h
theorem xT {ops : List AOper} (h : ∀ K : Frame → Heap → Prop, (∀ σ m, Q .normal σ m → K σ m) → awpOps P K ops σ m) : awp P (.reg ops) Q σ m := h _ fun _ _ h => h
theorem xU {f x y : List AOper} (h : ∀ K : Frame → Heap → Prop, (∀ σ m, awpKeep P (awpOps P (Q .normal) y) x σ m → K σ m) → awpOps P K f σ m) : awp P (.past f x y) Q σ m := .inl (h _ fun _ _ h => h)
theorem past_fewer {f x y : List AOper} (mf : Heap) (hl : mf.length = m.length) (hm : Fewer mf m) (h : ∀ K : Frame → Heap → Prop, (∀ σ m', awpKeepF P mf (awpOps P (Q .normal) y) x σ m → K σ m') → awpOps P K f σ mf) : awp P (.past f x y) Q σ m := .inr ⟨mf, hl, hm, h _ fun _ _ h => h⟩
theorem yB {o u : AOper} {x y : ACode} (h1 : ∀ K : Frame → Heap → Prop, (∀ σ m, awp P x Q σ m → K σ m) → awpOps P K [o] σ m) (h2 : ∀ K : Frame → Heap → Prop, (∀ σ m, awp P y Q σ m → K σ m) → awpOps P K [u] σ m) : awp P (.fork o x u y) Q σ m := ⟨h1 _ fun _ _ h => h, h2 _ fun _ _ h => h⟩
theorem yA {mf : Heap} {K : Frame → Heap → Prop} {ops : List AOper} (h : awpKeepF P mf K ops σ m) : awpKeepF P mf K ops σ m := h
theorem keepf_go {mf : Heap} {F : Frame → Heap → Prop} {d : Option Nat} {x : XV} {m' : Heap} (h : Fewer mf m') (hF : F (σ.put d x) m') : KeepF mf F σ d x m' := ⟨h, hF⟩
theorem xV {K : Frame → Heap → Prop} {ops : List AOper} (h : awpKeep P K ops σ m) : awpKeep P K ops σ m := h
theorem keepk_go {F : Frame → Heap → Prop} {d : Option Nat} {x : XV} {m' : Heap} (h : m <+: m') (hF : F (σ.put d x) m') : KeepK F σ d m x m' := ⟨h, hF⟩
theorem xW {K : Frame → Heap → Prop} {ops : List AOper} (h : awpOps P K ops σ m) : awpOps P K ops σ m := h
theorem xB {id : Nat} {x : ACode} (h : awp P x (AExit.blk id Q) σ m) : awp P (.block id x) Q σ m := h
theorem xS {c : Opd} {x y : ACode} {t : Bool} (hc : σ.ev c = some (.one (.bool t))) (h1 : t = true → awp P x Q σ m) (h2 : t = false → awp P y Q σ m) : awp P (.cond c x y) Q σ m := by
  simp only [awp, hc]
  exact ⟨h1, h2⟩
theorem xP {c : Opd} {x y : ACode} {p : Prop} [Decidable p] (hc : σ.ev c = some (.one (.bool (decide p)))) (h1 : p → awp P x Q σ m) (h2 : ¬ p → awp P y Q σ m) : awp P (.cond c x y) Q σ m :=
  xS hc (fun h => h1 (of_decide_eq_true h)) (fun h => h2 (of_decide_eq_false h))
theorem xQ {c : Opd} {x y : ACode} {p : Prop} [Decidable p] (hc : σ.ev c = some (.one (.bool (!decide p)))) (h1 : ¬ p → awp P x Q σ m) (h2 : p → awp P y Q σ m) : awp P (.cond c x y) Q σ m :=
  xS hc (fun h => h1 (of_decide_eq_false (by simpa using h))) (fun h => h2 (of_decide_eq_true (by simpa using h)))
theorem xR {c : Opd} {x y : ACode} {t : Bool} (hc : σ.ev c = some (.one (.bool (!t)))) (h1 : t = false → awp P x Q σ m) (h2 : t = true → awp P y Q σ m) : awp P (.cond c x y) Q σ m :=
  xS hc (fun h => h1 (by simpa using h)) (fun h => h2 (by simpa using h))
theorem awp_loop {x : ACode} (h : ALoop (awp P x) Q σ m) : awp P (.loop x) Q σ m := h
theorem xJ (h : Q .normal σ m) : awp P .skip Q σ m := h
theorem xK {id : Nat} (h : Q (.exit id) σ m) : awp P (.exit id) Q σ m := h
theorem xL (h : Q .ret σ m) : awp P .ret Q σ m := h
theorem xC {K : Frame → Heap → Prop} (h : K σ m) : AExit.thn K Q .normal σ m := h
theorem xD {K : Frame → Heap → Prop} {i : Nat} (h : Q (.exit i) σ m) : AExit.thn K Q (.exit i) σ m := h
theorem xE {K : Frame → Heap → Prop} (h : Q .ret σ m) : AExit.thn K Q .ret σ m := h
theorem xF {id : Nat} (h : Q .normal σ m) : AExit.blk id Q .normal σ m := h
theorem xG {id : Nat} (h : Q .ret σ m) : AExit.blk id Q .ret σ m := h
theorem xH {id : Nat} (h : Q .normal σ m) : AExit.blk id Q (.exit id) σ m := by simp only [AExit.blk, if_true]; exact h
theorem xI {id i : Nat} (hne : Nat.beq i id = false) (h : Q (.exit i) σ m) : AExit.blk id Q (.exit i) σ m := by
  have : i ≠ id := fun e => by subst e; simp at hne
  simp only [AExit.blk, this, if_false]; exact h
theorem xM {R : XV → Heap → Prop} {t : Nat} {x : XV} (hx : σ.get t = some x) (h : R x m) : retPost [t] R .ret σ m := by simp only [retPost, hx]; exact h
theorem xN {R : XV → Heap → Prop} {t u : Nat} {l : List Nat} {vs : List AV} (hx : resOf σ (t :: u :: l) = some vs) (h : R (.tup vs) m) : retPost (t :: u :: l) R .ret σ m := by simp only [retPost, hx]; exact h
theorem xO {R : XV → Heap → Prop} {t : Nat} {x : XV} (hx : σ.get t = some x) (h : R x m) : retPost [t] R .normal σ m := by simp only [retPost, hx]; exact h
end

/-! ### Long stretches, cut -/

theorem awpOps_cat {P : Program} {Q : Frame → Heap → Prop} (a b : List AOper) : awpOps P Q (a ++ b) = awpOps P (awpOps P Q b) a := by
  induction a with
  | nil => funext σ m; rfl
  | cons o a ih =>
    funext σ m
    rw [List.cons_append]
    unfold awpOps
    rw [ih]

/-- Operations in stretches of at most twelve. -/
def cutOps : Nat → List AOper → ACode
  | 0, l => .reg l
  | f + 1, l => bif Nat.ble l.length 12 then .reg l else .seq (.reg (l.take 12)) (cutOps f (l.drop 12))
def ACode.cut : ACode → ACode
  | .reg l => cutOps l.length l
  | .past f x y => .past f x y
  | .fork o a u b => .fork o a.cut u b.cut
  | .seq a b => .seq a.cut b.cut
  | .cond c a b => .cond c a.cut b.cut
  | .block i a => .block i a.cut
  | .loop a => .loop a.cut
  | .skip => .skip
  | .exit i => .exit i
  | .ret => .ret

theorem awp_cutOps {P : Program} : ∀ (f : Nat) (l : List AOper), awp P (cutOps f l) = awp P (.reg l)
  | 0, _ => rfl
  | f + 1, l => by
    unfold cutOps
    cases Nat.ble l.length 12 with
    | true => rfl
    | false =>
      funext Q σ m
      show awp P (.reg (l.take 12)) (AExit.thn (awp P (cutOps f (l.drop 12)) Q) Q) σ m = _
      rw [awp_cutOps f]
      show awpOps P (awpOps P (Q .normal) (l.drop 12)) (l.take 12) σ m = awpOps P (Q .normal) l σ m
      rw [← awpOps_cat, List.take_append_drop]

theorem awp_cut {P : Program} (c : ACode) : awp P c.cut = awp P c := by
  induction c with
  | skip => rfl
  | reg l => exact awp_cutOps _ _
  | past f x y => rfl
  | fork o a u b iha ihb => funext Q σ m; unfold ACode.cut awp; rw [iha, ihb]
  | seq a b iha ihb => funext Q σ m; show awp P a.cut (AExit.thn (awp P b.cut Q) Q) σ m = _; rw [iha, ihb]; rfl
  | cond c a b iha ihb => funext Q σ m; unfold ACode.cut awp; rw [iha, ihb]
  | block i a ih => funext Q σ m; show awp P a.cut (AExit.blk i Q) σ m = _; rw [ih]; rfl
  | loop a ih => funext Q σ m; show ALoop (awp P a.cut) Q σ m = _; rw [ih]; rfl
  | exit i => rfl
  | ret => rfl

def trFnC (P : Program) (f : FuncId) : Option AFn := (trFn P f).map fun a => ⟨a.n, a.code.cut, a.res⟩

theorem afn {P : Program} {f : FuncId} {n : Nat} {code : ACode} {res : List Nat} (ht : trFnC P f = some ⟨n, code, res⟩) {args : List XV} {m : Heap} {R : XV → Heap → Prop} (hlen : Nat.ble args.length n = true)
    (h : awp P code (retPost res R) (argFrame 0 args) m) : ACalls P f args m R := by
  unfold trFnC at ht
  cases hf : trFn P f with
  | none => rw [hf] at ht; cases ht
  | some a =>
    obtain ⟨n', code', res'⟩ := a
    rw [hf] at ht
    simp only [Option.map_some, Option.some.injEq, AFn.mk.injEq] at ht
    obtain ⟨rfl, rfl, rfl⟩ := ht
    rw [awp_cut] at h
    exact acalls_of_awp hf (Nat.le_of_ble_eq_true hlen) h

def trFnAC (P : Program) (f : FuncId) : Option AFnA := (trFnA P f).map fun a => ⟨a.n, a.code.cut, a.res⟩

theorem afna {P : Program} {f : FuncId} {n : Nat} {code : ACode} {res : Nat × Nat} (ht : trFnAC P f = some ⟨n, code, res⟩) {args : List XV} {m : Heap} {R : XV → Heap → Prop} (hlen : Nat.ble args.length n = true)
    (h : awp P code (retPostA res R) (argFrame 0 args) m) : ACalls P f args m R := by
  unfold trFnAC at ht
  cases hf : trFnA P f with
  | none => rw [hf] at ht; cases ht
  | some a =>
    obtain ⟨n', code', res'⟩ := a
    rw [hf] at ht
    simp only [Option.map_some, Option.some.injEq, AFnA.mk.injEq] at ht
    obtain ⟨rfl, rfl, rfl⟩ := ht
    rw [awp_cut] at h
    exact acalls_of_awpA hf (Nat.le_of_ble_eq_true hlen) h
theorem ret_agg {R : XV → Heap → Prop} {t n id off : Nat} {l : List AV} {σ : Frame} {m : Heap} (hx : σ.get t = some (.one (.ptr id off))) (hc : m.cells id off n = some l) (h : R (.agg l) m) : retPostA (t, n) R .ret σ m := by simp only [retPostA, hx, onCells, hc]; exact h

theorem get_nil (t : Nat) : Frame.get [] t = none := rfl
theorem get_cons (u : Nat) (x : XV) (σ : Frame) (t : Nat) : Frame.get ((u, x) :: σ) t = bif u == t then some x else Frame.get σ t := rfl

theorem band_nat (a b : Nat) (ha : a < 9223372036854775808) (hb : b < 9223372036854775808) : bandInt .i64 a b = ((a &&& b : Nat) : Int) := by
  have h : (a &&& b) < 9223372036854775808 := Nat.lt_of_le_of_lt Nat.and_le_left ha
  unfold bandInt
  rw [BitVec.toNat_and, BitVec.toNat_ofInt, BitVec.toNat_ofInt, IntKind.wrap_i64]
  have e1 : ((a : Int) % ((2 ^ IntKind.i64.bits : Nat) : Int)).toNat = a := by simp [IntKind.bits]; omega
  have e2 : ((b : Int) % ((2 ^ IntKind.i64.bits : Nat) : Int)).toNat = b := by simp [IntKind.bits]; omega
  rw [e1, e2]
  omega

theorem bor_nat (a b : Nat) (ha : a < 4611686018427387904) (hb : b < 4611686018427387904) : borInt .i64 a b = ((a ||| b : Nat) : Int) := by
  have h : (a ||| b) < 2 ^ 62 := Nat.or_lt_two_pow (by simpa using ha) (by simpa using hb)
  unfold borInt
  rw [BitVec.toNat_or, BitVec.toNat_ofInt, BitVec.toNat_ofInt, IntKind.wrap_i64]
  have e1 : ((a : Int) % ((2 ^ IntKind.i64.bits : Nat) : Int)).toNat = a := by simp [IntKind.bits]; omega
  have e2 : ((b : Int) % ((2 ^ IntKind.i64.bits : Nat) : Int)).toNat = b := by simp [IntKind.bits]; omega
  rw [e1, e2]
  omega

theorem bxor_nat (a b : Nat) (ha : a < 4611686018427387904) (hb : b < 4611686018427387904) : bxorInt .i64 a b = ((a ^^^ b : Nat) : Int) := by
  have h : (a ^^^ b) < 2 ^ 62 := Nat.xor_lt_two_pow (by simpa using ha) (by simpa using hb)
  unfold bxorInt
  rw [BitVec.toNat_xor, BitVec.toNat_ofInt, BitVec.toNat_ofInt, IntKind.wrap_i64]
  have e1 : ((a : Int) % ((2 ^ IntKind.i64.bits : Nat) : Int)).toNat = a := by simp [IntKind.bits]; omega
  have e2 : ((b : Int) % ((2 ^ IntKind.i64.bits : Nat) : Int)).toNat = b := by simp [IntKind.bits]; omega
  rw [e1, e2]
  omega

/-! ### Calls that leave memory alone -/

@[congr] theorem onSome.congr {o o' : Option AV} {K : AV → Prop} (h : o = o') : onSome o K = onSome o' K := by rw [h]
theorem onSome_of {o : Option AV} {K : AV → Prop} {v : AV} (h : o = some v) (hk : K v) : onSome o K := by subst h; exact hk

theorem Kont_at {F : Frame → Heap → Prop} {σ : Frame} {d : Option Nat} {x : XV} {m : Heap} : Kont F σ d x m = F (σ.put d x) m := propext Iff.rfl
theorem KM_at {K : XV → Heap → Prop} {m : Heap} {x : XV} : KM K m x = K x m := propext Iff.rfl
theorem KV_at {K : XV → Prop} {v : AV} : KV K v = K (.one v) := propext Iff.rfl
theorem xX {F : Frame → Heap → Prop} {σ : Frame} {d : Option Nat} {x : XV} {m : Heap} (h : Kont F σ d x m) : Kont F σ d x m := h
theorem xY {K : XV → Prop} {v : AV} (h : KV K v) : KV K v := h
theorem KU_at {K : XV → Heap → Prop} {m : Heap} : KU K m = K .undef m := propext Iff.rfl
theorem xZ {K : XV → Heap → Prop} {m : Heap} (h : KU K m) : KU K m := h
theorem refId_row (i : Nat) : (Ref.row i).id = i := rfl
theorem onSome_some {K : AV → Prop} {v : AV} : onSome (some v) K = K v := propext Iff.rfl

@[congr] theorem ACallq.congr {P : Program} {f : FuncId} {args args' : List XV} {m m' : Heap} {K : XV → Heap → Prop} (h : args = args') (hm : m = m') : ACallq P f args m K = ACallq P f args' m' K := by subst h; subst hm; rfl

def AQuiet (P : Program) (f : FuncId) (xs : List XV) (m : Heap) (v : XV) : Prop := ACalls P f xs m fun x m' => x = v ∧ m <+: m'

theorem aqn {P : Program} {f : FuncId} {n : Nat} {code : ACode} {res : List Nat} (ht : trFnC P f = some ⟨n, code, res⟩) {args : List XV} {m : Heap} {v : XV} (hlen : Nat.ble args.length n = true)
    (h : awp P code (retPost res fun x m' => x = v ∧ m <+: m') (argFrame 0 args) m) : AQuiet P f args m v := afn ht hlen h

theorem AQuiet.callq {P : Program} {f : FuncId} {xs : List XV} {m : Heap} {v : XV} {K : XV → Heap → Prop} (h : AQuiet P f xs m v) (hf : v.flat) (hk : K v m) : ACallq P f xs m K := ⟨v, h, hf, hk⟩

theorem AQuiet.call {P : Program} {f : FuncId} {xs : List XV} {m : Heap} {v : XV} {K : XV → Heap → Prop} (h : AQuiet P f xs m v) (hf : v.flat) (hk : K v m) : ACalls P f xs m K := by
  intro B w0 μ w hw hok
  refine (h B w0 μ w hw hok).mono fun e w' => ?_
  rintro ⟨x, m', μ', ⟨rfl, hm⟩, he, _, hh, _, hag⟩
  refine ⟨x, m, μ, hk, ?_, (flat_conc hf μ μ _).2, hh.restrict hm hag fun id r hr => (hw.rows id r hr).ok, Nat.le_refl _, Agree.refl _ _⟩
  rw [he, (flat_conc hf μ μ' 0).1]

theorem AQuiet.eq {P : Program} {f : FuncId} {xs : List XV} {m : Heap} {v v' : XV} (h : AQuiet P f xs m v) (e : v = v') : AQuiet P f xs m v' := e ▸ h

/-! ### Variables of many cells -/

@[congr] theorem onCells.congr {o o' : Option (List AV)} {K : XV → Prop} (h : o = o') : onCells o K = onCells o' K := by rw [h]
theorem onCells_of {o : Option (List AV)} {K : XV → Prop} {l : List AV} (h : o = some l) (hk : K (.agg l)) : onCells o K := by subst h; exact hk
theorem Vals.ofAgg_cons (z : AV) (l : List AV) : Vals.ofAgg (z :: l) = match Vals.ofList z (z :: l) with | some vs => vs | none => .mix (z :: l) := rfl
theorem Vals.ofAgg_ints (k : IntKind) (z : Int) (l : List Int) : Vals.ofAgg ((z :: l).map (AV.int k)) = .ints k (z :: l) := by
  have h : ∀ l : List Int, Vals.toInts k (l.map (AV.int k)) = some l := fun l => by
    induction l with
    | nil => rfl
    | cons a l ih => simp only [List.map_cons, Vals.toInts, if_true, ih, Option.map_some]
  simp only [List.map_cons, Vals.ofAgg, Vals.ofList, Vals.toInts, if_true, h, Option.map_some]
theorem cells_ints {m : Heap} {id e f : Nat} {o : Bool} {k : IntKind} {l : List Int} {n : Nat} (h : m[id]? = some ⟨e, f, o, .ints k l⟩) (hn : n = l.length) : m.cells id 0 n = some (l.map (AV.int k)) := by
  subst hn
  simp only [Heap.cells, h, Vals.len, Nat.zero_add, Nat.le_refl, if_true, Option.some.injEq]
  apply List.ext_getElem?
  intro i
  by_cases hi : i < l.length
  · rw [cells_get _ _ _ hi]
    simp [Vals.get, List.getD_eq_getElem?_getD, hi]
  · rw [List.getElem?_eq_none (by rw [cells_len]; omega), List.getElem?_eq_none (by rw [List.length_map]; omega)]
theorem flats_ints (k : IntKind) : ∀ l : List Int, flats (l.map (AV.int k))
  | [] => trivial
  | _ :: l => ⟨trivial, flats_ints k l⟩

/-- Many noughts. -/
def noughts (n : Nat) : List Int := List.replicate n 0
theorem noughts_len (n : Nat) : (noughts n).length = n := List.length_replicate
theorem noughts_get (n i : Nat) : (noughts n).getD i 0 = 0 := by
  rw [noughts, List.getD_eq_getElem?_getD, List.getElem?_replicate]
  split <;> rfl
theorem Vals.ofAgg_all {k : IntKind} {l : List Int} (h : 0 < l.length) : Vals.ofAgg (l.map (AV.int k)) = .ints k l := by
  cases l with
  | nil => exact absurd h (Nat.lt_irrefl _)
  | cons z l => exact Vals.ofAgg_ints k z l

/-! ### Slices that read as lists -/

theorem at_prefix {m m' : Heap} (h : m <+: m') {id off : Nat} {v : AV} (hv : m.at id off = some v) : m'.at id off = some v := by
  obtain ⟨t, rfl⟩ := h
  unfold Heap.at at hv ⊢
  cases hr : m[id]? with
  | none => simp only [hr] at hv; cases hv
  | some r =>
    rw [List.getElem?_append_left (List.getElem?_eq_some_iff.1 hr).1, hr]
    simpa only [hr] using hv

def IsInts (k : IntKind) (m : Heap) (s : SV) (l : List Int) : Prop := s.len = l.length ∧ ∀ i, i < l.length → m.at (s.ref.id) (s.off + i) = some (.int k (l.getD i 0))
def IsSls (m : Heap) (s : SV) (l : List SV) : Prop := s.len = l.length ∧ ∀ i, i < l.length → m.at (s.ref.id) (s.off + i) = some (.sl (l.getD i SV.nil))
/-- A slice of slices of numbers. -/
def IsRows (k : IntKind) (m : Heap) (s : SV) (ll : List (List Int)) : Prop := ∃ l, IsSls m s l ∧ l.length = ll.length ∧ ∀ i, i < ll.length → IsInts k m (l.getD i SV.nil) (ll.getD i [])

theorem IsInts.pre {k : IntKind} {m m' : Heap} {s : SV} {l : List Int} (h : IsInts k m s l) (hm : m <+: m') : IsInts k m' s l := ⟨h.1, fun i hi => at_prefix hm (h.2 i hi)⟩
theorem IsSls.pre {m m' : Heap} {s : SV} {l : List SV} (h : IsSls m s l) (hm : m <+: m') : IsSls m' s l := ⟨h.1, fun i hi => at_prefix hm (h.2 i hi)⟩
theorem IsRows.pre {k : IntKind} {m m' : Heap} {s : SV} {ll : List (List Int)} (h : IsRows k m s ll) (hm : m <+: m') : IsRows k m' s ll := by
  obtain ⟨l, h1, h2, h3⟩ := h
  exact ⟨l, h1.pre hm, h2, fun i hi => (h3 i hi).pre hm⟩

theorem at_row {m : Heap} {id : Nat} {r : Row} (h : m[id]? = some r) {off : Nat} (hlt : off < r.vals.len) : m.at id off = some (r.vals.get off) := by
  simp only [Heap.at, h, hlt, if_true]
theorem get_last (m : Heap) (r : Row) : (m ++ [r])[m.length]? = some r := by simp
theorem prefix_push (m : Heap) (r : Row) : m <+: m ++ [r] := List.prefix_append _ _

theorem isInts_nil (k : IntKind) (m : Heap) : IsInts k m SV.nil [] := ⟨rfl, fun i hi => by simp at hi⟩

/-! ### Rows of the call's own that grow -/

/-- A slice that owns its row, which holds just these values; no longer row is of its family. -/
def Owns (m : Heap) (s : SV) (e : TypeId) (v : Vals) : Prop :=
  (s = SV.nil ∧ v.len = 0) ∨ ∃ id f, s = ⟨.row id, 0, v.len⟩ ∧ m[id]? = some ⟨e, f, true, v⟩ ∧ ∀ (j : Nat) (r : Row), m[j]? = some r → r.own = true → r.fam = f → r.vals.len ≤ v.len

theorem Vals.take_len (v : Vals) : v.take v.len = v := by cases v <;> simp [Vals.take, Vals.len]
theorem Vals.take_ge (v : Vals) {n : Nat} (h : v.len ≤ n) : v.take n = v := by cases v <;> simp only [Vals.len] at h <;> simp [Vals.take, List.take_of_length_le h]
theorem Vals.sub_len (v : Vals) : v.sub 0 v.len = v := by cases v <;> simp [Vals.sub, Vals.len]

theorem cutFam_self {m : Heap} {f n : Nat} (h : ∀ (j : Nat) (r : Row), m[j]? = some r → r.own = true → r.fam = f → r.vals.len ≤ n) : m.cutFam f n = m := by
  apply List.ext_getElem?
  intro i
  rw [cutFam_get]
  cases hr : m[i]? with
  | none => rfl
  | some r =>
    simp only [Option.map_some]
    split
    · rename_i hc
      have := h i r hr hc.1 hc.2
      unfold Row.cut
      rw [Vals.take_ge _ this]
    · rfl

theorem get_push {m : Heap} {r s : Row} {j : Nat} (h : (m ++ [r])[j]? = some s) : (j < m.length ∧ m[j]? = some s) ∨ (j = m.length ∧ s = r) := by
  rw [List.getElem?_append] at h
  split at h
  · exact .inl ⟨by assumption, h⟩
  · rename_i hge
    have : j - m.length = 0 := by
      rcases Nat.eq_zero_or_pos (j - m.length) with e | e
      · exact e
      · rw [List.getElem?_eq_none (by simp; omega)] at h; cases h
    rw [this] at h
    exact .inr ⟨by omega, by simpa using h.symm⟩

/-- A new row owns itself. -/
theorem owns_new {m : Heap} (hwf : m.wf) (e : TypeId) (v : Vals) : Owns (m ++ [⟨e, m.length, true, v⟩]) ⟨.row m.length, 0, v.len⟩ e v := by
  refine .inr ⟨m.length, m.length, rfl, get_last _ _, fun j r hr _ hf => ?_⟩
  rcases get_push hr with ⟨h1, h2⟩ | ⟨_, rfl⟩
  · have := hwf j r h2
    omega
  · exact Nat.le_refl _

theorem wf_push {m : Heap} (hwf : m.wf) {e f : Nat} {v : Vals} {o : Bool} (hf : f ≤ m.length) : Heap.wf (m ++ [⟨e, f, o, v⟩]) := by
  intro j r hr
  rcases get_push hr with ⟨h1, h2⟩ | ⟨rfl, rfl⟩
  · exact hwf j r h2
  · exact hf

/-- append to a slice of the call's own: all that was there stays. -/
theorem aApp_owns {e : TypeId} {s x : SV} {m : Heap} {K : XV → Heap → Prop} {v u t : Vals} (hwf : m.wf) (hs : Owns m s e v) {xi : Nat} {rx : Row} (hx : x = ⟨.row xi, 0, rx.vals.len⟩) (hrx : m[xi]? = some rx) (hu : rx.vals = u) (hpos : 0 < u.len)
    (hlen : v.len + u.len ≤ 1099511627776) (ht : v.app u = some t) (hk : ∀ (s' : SV) (m' : Heap), m <+: m' → m'.wf → Owns m' s' e t → K (.one (.sl s')) m') : aApp e s x m K := by
  subst hx
  subst hu
  obtain ⟨t1, t2⟩ := Vals.app_spec ht
  rcases hs with ⟨rfl, hv0⟩ | ⟨id, f, rfl, hid, hfam⟩
  · simp only [aApp, hrx, Nat.zero_add, Vals.sub_len]
    refine ⟨⟨Nat.le_refl _, by omega⟩, fun h => absurd h (by omega), fun _ => ?_⟩
    have e1 : rx.vals = t := by
      cases v <;> cases hq : rx.vals <;> rw [hq] at ht <;> simp only [Vals.app] at ht <;> first | (cases ht; done) | skip
      case ints.ints k l k' l' =>
        split at ht
        · rename_i e; cases ht; subst e; simp only [Vals.len] at hv0; rw [List.eq_nil_of_length_eq_zero hv0]; rfl
        · cases ht
      all_goals (cases ht; simp only [Vals.len] at hv0; rw [List.eq_nil_of_length_eq_zero hv0]; rfl)
    rw [e1]
    exact hk _ _ (prefix_push _ _) (wf_push hwf (Nat.le_refl _)) (owns_new hwf e t)
  · simp only [aApp, hrx, hid, Nat.zero_add, Vals.sub_len, Vals.take_len, ht]
    refine ⟨⟨Nat.le_refl _, hlen⟩, ⟨trivial, trivial, Nat.le_refl _, trivial⟩, ?_⟩
    rw [cutFam_self hfam]
    have hil : id < m.length := (List.getElem?_eq_some_iff.1 hid).1
    have hfid := hwf id _ hid
    refine hk _ _ (prefix_push _ _) (wf_push hwf (by simp only at hfid; omega)) (.inr ⟨m.length, f, by rw [t1], get_last _ _, fun j r hr ho hf => ?_⟩)
    rcases get_push hr with ⟨_, h2⟩ | ⟨_, rfl⟩
    · have := hfam j r h2 ho hf; omega
    · exact Nat.le_refl _

theorem Owns.isInts {m : Heap} {s : SV} {e : TypeId} {k : IntKind} {l : List Int} (h : Owns m s e (.ints k l)) : IsInts k m s l := by
  rcases h with ⟨rfl, h0⟩ | ⟨id, f, rfl, hid, _⟩
  · simp only [Vals.len] at h0
    rw [List.eq_nil_of_length_eq_zero h0]; exact isInts_nil k m
  · refine ⟨rfl, fun i hi => ?_⟩
    rw [Nat.zero_add]
    exact at_row hid hi

theorem Owns.isSls {m : Heap} {s : SV} {e : TypeId} {l : List SV} (h : Owns m s e (.sls l)) : IsSls m s l := by
  rcases h with ⟨rfl, h0⟩ | ⟨id, f, rfl, hid, _⟩
  · simp only [Vals.len] at h0
    rw [List.eq_nil_of_length_eq_zero h0]; exact ⟨rfl, fun i hi => by simp at hi⟩
  · refine ⟨rfl, fun i hi => ?_⟩
    rw [Nat.zero_add]
    exact at_row hid hi

/-! ### A store into the last row -/

theorem setRow_last {m : Heap} (hwf : m.wf) (e : TypeId) (v u : Vals) (i : Nat) : Heap.setRow (m ++ [⟨e, m.length, true, v⟩]) m.length i ⟨e, m.length, true, v⟩ u = m ++ [⟨e, m.length, true, u⟩] := by
  have h1 : Heap.cutFam (m ++ [⟨e, m.length, true, v⟩]) m.length i = m ++ [⟨e, m.length, true, v.take i⟩] := by
    unfold Heap.cutFam
    rw [List.map_append]
    congr 1
    · apply List.ext_getElem?
      intro j
      rw [List.getElem?_map]
      cases hr : m[j]? with
      | none => rfl
      | some r =>
        have hj : j < m.length := (List.getElem?_eq_some_iff.1 hr).1
        have := hwf j r hr
        simp only [Option.map_some]
        rw [if_neg (by omega)]
    · simp [Row.cut]
  unfold Heap.setRow
  rw [h1]
  simp

theorem st_last {m : Heap} (hwf : m.wf) {e off : Nat} {v : AV} {vals vs : Vals} {K : Heap → Prop} (hlt : off < vals.len) (hset : vals.set off v = some vs) (hk : K (m ++ [⟨e, m.length, true, vs⟩])) :
    aSt (m ++ [⟨e, m.length, true, vals⟩]) m.length off v K := by
  unfold aSt
  rw [get_last]
  simp only
  refine ⟨⟨trivial, hlt⟩, ?_⟩
  rw [hset]
  simp only
  rw [setRow_last hwf]
  exact hk

/-! ### What the walk rewrites, in two -/

theorem zu.{u} : (∀ {α : Sort u} {_ : Decidable True} (t e : α), ite True t e = t) ∧ (∀ {α : Sort u} {_ : Decidable False} (t e : α), ite False t e = e) ∧ (∀ {α : Sort u} {c : Prop} {_ : Decidable c} (a : α), ite c a a = a)
    ∧ (∀ {b : Prop} (α : Sort u) [Nonempty α], (α → b) ↔ b) ∧ ∀ (α : Sort u), (α → True) = True :=
  ⟨if_true, if_false, ite_self, forall_const, implies_true⟩
theorem zp : (∀ a : Int, 1 * a = a) ∧ (∀ p : Prop, (True ∧ p) = p) ∧ (∀ p : Prop, (p ∧ True) = p) ∧ (∀ p : Prop, (True → p) = p) ∧ ((true = false) = False) ∧ ((false = true) = False) ∧ (∀ p : Prop, (False → p) = True)
    ∧ (∀ {p : Prop} [Decidable p], (decide p = true) = p) ∧ (∀ {p : Prop} {_ : Decidable p}, decide p = false ↔ ¬p) ∧ (∀ {a b : Int}, ¬a < b ↔ b ≤ a) ∧ (∀ {a b : Int}, ¬a ≤ b ↔ b < a) ∧ (∀ n : Nat, 0 < Nat.succ n) ∧ (∀ n : Nat, n < n + 1)
    ∧ (∀ a : Int, 0 - a = -a) ∧ (∀ a : Int, ((a.toNat : Nat) : Int) = max a 0) ∧ (∀ b : Bool, (true = b) = (b = true)) ∧ (∀ {a b : Bool}, ((!a) = b) ↔ (a = !b)) ∧ ∀ p : Prop, (True ∨ p) = True :=
  ⟨Int.one_mul, true_and, and_true, true_implies, Bool.true_eq_false, Bool.false_eq_true, false_implies, decide_eq_true_eq, decide_eq_false_iff_not, Int.not_lt, Int.not_le, Nat.zero_lt_succ, Nat.lt_add_one, Int.zero_sub, Int.ofNat_toNat, Bool.true_eq, Bool.not_eq_eq_eq_not, true_or⟩
end Go.Abs

/- Stores into rows whose family is theirs alone. Own work; no condition. -/
namespace Go.Abs

/-- No other row of the call's own is of this row's family. -/
def Alone (m : Heap) (id : Nat) : Prop := ∀ (j : Nat) (r : Row), m[j]? = some r → r.own = true → r.fam = id → j = id

theorem get_lt {m : Heap} {id : Nat} {r : Row} (h : m[id]? = some r) : id < m.length := (List.getElem?_eq_some_iff.1 h).1

theorem alone_new {m : Heap} (hwf : m.wf) (e : TypeId) (o : Bool) (v : Vals) : Alone (m ++ [⟨e, m.length, o, v⟩]) m.length := by
  intro j r hr _ hf
  rcases get_push hr with ⟨h1, h2⟩ | ⟨h1, _⟩
  · have := hwf j r h2; omega
  · exact h1

theorem Alone.push {m : Heap} {id : Nat} (h : Alone m id) (hid : id < m.length) (e : TypeId) (o : Bool) (v : Vals) : Alone (m ++ [⟨e, m.length, o, v⟩]) id := by
  intro j r hr ho hf
  rcases get_push hr with ⟨_, h2⟩ | ⟨_, rfl⟩
  · exact h j r h2 ho hf
  · simp only at hf; omega

theorem Alone.set {m : Heap} {id i : Nat} {r r' : Row} (h : Alone m id) (hr : m[i]? = some r) (hf : r'.fam = r.fam) (ho : r'.own = r.own) : Alone (m.set i r') id := by
  intro j s hs hso hsf
  rw [List.getElem?_set] at hs
  split at hs
  · rename_i e
    subst e
    split at hs
    · cases hs
      exact h i r hr (by rw [← ho]; exact hso) (by rw [← hf]; exact hsf)
    · cases hs
  · exact h j s hs hso hsf

theorem wf_set {m : Heap} {i : Nat} {r : Row} (hwf : m.wf) (hf : r.fam ≤ i) : Heap.wf (m.set i r) := by
  intro j s hs
  rw [List.getElem?_set] at hs
  split at hs
  · rename_i e
    subst e
    split at hs
    · cases hs; exact hf
    · cases hs
  · exact hwf j s hs

theorem get_set_self {m : Heap} {i : Nat} {r : Row} (h : i < m.length) : (m.set i r)[i]? = some r := by
  rw [List.getElem?_set, if_pos rfl, if_pos h]
theorem get_set_ne {m : Heap} {i j : Nat} {r : Row} (h : i ≠ j) : (m.set i r)[j]? = m[j]? := by
  rw [List.getElem?_set, if_neg h]

theorem row_at_push {m : Heap} {i : Nat} {r : Row} (h : m[i]? = some r) (s : Row) : (m ++ [s])[i]? = some r := by
  rw [List.getElem?_append_left (get_lt h)]; exact h

theorem prefix_set {m0 m : Heap} {i : Nat} {r : Row} (h : m0 <+: m) (hi : m0.length ≤ i) : m0 <+: m.set i r := by
  obtain ⟨t, rfl⟩ := h
  rw [List.set_append_right _ _ hi]
  exact List.prefix_append _ _

theorem setRow_alone {m : Heap} {id e i : Nat} {v u : Vals} (hal : Alone m id) : m.setRow id i ⟨e, id, true, v⟩ u = m.set id ⟨e, id, true, u⟩ := by
  apply List.ext_getElem?
  intro j
  unfold Heap.setRow
  rw [List.getElem?_set, List.getElem?_set, cutFam_length]
  split
  · rfl
  · rw [cutFam_get]
    cases hr : m[j]? with
    | none => rfl
    | some r =>
      simp only [Option.map_some]
      rw [if_neg]
      rintro ⟨h1, h2⟩
      rename_i hne
      exact hne (hal j r hr h1 h2).symm

theorem st_alone {m : Heap} {id e off : Nat} {v : AV} {vals vs : Vals} {K : Heap → Prop} (hrow : m[id]? = some ⟨e, id, true, vals⟩) (hal : Alone m id) (hlt : off < vals.len) (hset : vals.set off v = some vs) (hk : K (m.set id ⟨e, id, true, vs⟩)) : aSt m id off v K := by
  unfold aSt
  rw [hrow]
  simp only
  refine ⟨⟨trivial, hlt⟩, ?_⟩
  rw [hset]
  simp only
  rw [setRow_alone hal]
  exact hk

/-- A slice of numbers that is the whole of a row of its own. -/
structure OwnInts (n0 : Nat) (m : Heap) (s : SV) (l : List Int) (id : Nat) : Prop where
  le : n0 ≤ id
  is : s = ⟨.row id, 0, l.length⟩
  row : m[id]? = some ⟨3, id, true, .ints .i64 l⟩
  alone : Alone m id

theorem OwnInts.isInts {n0 : Nat} {m : Heap} {s : SV} {l : List Int} {id : Nat} (h : OwnInts n0 m s l id) : IsInts .i64 m s l := by
  obtain ⟨_, rfl, hr, _⟩ := h
  refine ⟨rfl, fun i hi => ?_⟩
  rw [Nat.zero_add]
  exact at_row hr hi

theorem ownInts_new {m : Heap} (hwf : m.wf) (l : List Int) : OwnInts m.length (m ++ [⟨3, m.length, true, .ints .i64 l⟩]) ⟨.row m.length, 0, l.length⟩ l m.length :=
  ⟨Nat.le_refl _, rfl, get_last _ _, alone_new hwf _ _ _⟩

end Go.Abs

/- Plain facts on sets told by numbers, and on nets. Own work; no condition. -/
namespace Go.Abs

/-- Is place j in the set n? -/
def bit (n : Int) (j : Nat) : Bool := n.toNat.testBit j

theorem pow_bounds {p : Nat} (hp : p < 62) : 0 < (2 : Int) ^ p ∧ (2 : Int) ^ p < 4611686018427387904 := by
  refine ⟨Int.pow_pos (by decide), ?_⟩
  have h : (2 : Nat) ^ p < 2 ^ 62 := Nat.pow_lt_pow_right (by decide) hp
  have : (((2 : Nat) ^ p : Nat) : Int) < 4611686018427387904 := by
    have h2 : (2 : Nat) ^ p < 4611686018427387904 := h
    omega
  simpa using this

theorem pow_nat (p : Nat) : (2 : Int) ^ p = ((2 ^ p : Nat) : Int) := by simp

theorem and_pow_ne (x j : Nat) : ((x &&& 2 ^ j) != 0) = x.testBit j := by
  by_cases h : x.testBit j = true
  · rw [h, bne_iff_ne]
    intro e
    have := congrArg (Nat.testBit · j) e
    simp [h] at this
  · have h' : x.testBit j = false := by simpa using h
    have e : x &&& 2 ^ j = 0 := by
      apply Nat.eq_of_testBit_eq
      intro i
      rw [Nat.testBit_and, Nat.testBit_two_pow, Nat.zero_testBit]
      by_cases hij : j = i
      · subst hij; simp [h']
      · simp [hij]
    rw [h', e]
    rfl

theorem has_bit {n : Int} {j : Nat} (h0 : 0 ≤ n) (h1 : n < 4611686018427387904) (hj : j < 62) : decide (bandInt .i64 n (2 ^ j) ≠ 0) = bit n j := by
  obtain ⟨x, rfl⟩ := Int.eq_ofNat_of_zero_le h0
  rw [pow_nat]
  have hb := pow_bounds hj
  rw [pow_nat] at hb
  rw [band_nat _ _ (by omega) (by omega)]
  simp only [bit, Int.toNat_natCast]
  rw [← and_pow_ne]
  by_cases e : x &&& 2 ^ j = 0
  · simp [e]
  · have h : ((x &&& 2 ^ j) != 0) = true := bne_iff_ne.2 e
    rw [h]
    exact decide_eq_true (by omega)

theorem shr_bit {n : Int} {j : Nat} (h0 : 0 ≤ n) : n / 2 ^ j % 2 = if bit n j then 1 else 0 := by
  obtain ⟨x, rfl⟩ := Int.eq_ofNat_of_zero_le h0
  simp only [bit, Int.toNat_natCast, Nat.testBit_eq_decide_div_mod_eq]
  rw [pow_nat]
  have h : ((x : Int) / ((2 ^ j : Nat) : Int) % 2) = ((x / 2 ^ j % 2 : Nat) : Int) := by simp
  rw [h]
  have hlt : x / 2 ^ j % 2 < 2 := Nat.mod_lt _ (by decide)
  by_cases e : x / 2 ^ j % 2 = 1
  · simp [e]
  · have : x / 2 ^ j % 2 = 0 := by omega
    simp [this]

/-- A net: each place has a set of other places, and each is in the sets of its own. -/
structure NetOk (net : List Int) : Prop where
  pos : 1 ≤ net.length
  six : net.length ≤ 6
  low : ∀ k, k < net.length → 0 ≤ (net.getD k 0)
  high : ∀ k, k < net.length → (net.getD k 0) < 2 ^ net.length
  own : ∀ k, k < net.length → bit ((net.getD k 0)) k = false
  both : ∀ k, k < net.length → ∀ j, j < k → bit ((net.getD k 0)) j = bit ((net.getD j 0)) k

theorem NetOk.sym {net : List Int} (h : NetOk net) {k j : Nat} (hk : k < net.length) (hj : j < net.length) : bit ((net.getD k 0)) j = bit ((net.getD j 0)) k := by
  rcases Nat.lt_trichotomy j k with h1 | rfl | h1
  · exact h.both k hk j h1
  · rfl
  · exact (h.both j hj k h1).symm

theorem netOk_iff (net : List Int) : NetOk net ↔ (1 ≤ net.length ∧ net.length ≤ 6 ∧ (∀ k, k < net.length → 0 ≤ (net.getD k 0) ∧ (net.getD k 0) < 2 ^ net.length ∧ bit ((net.getD k 0)) k = false) ∧
    ∀ k, k < net.length → ∀ j, j < k → bit ((net.getD k 0)) j = bit ((net.getD j 0)) k) :=
  ⟨fun h => ⟨h.pos, h.six, fun k hk => ⟨h.low k hk, h.high k hk, h.own k hk⟩, h.both⟩, fun h => ⟨h.1, h.2.1, fun k hk => (h.2.2.1 k hk).1, fun k hk => (h.2.2.1 k hk).2.1, fun k hk => (h.2.2.1 k hk).2.2, h.2.2.2⟩⟩

instance (net : List Int) : Decidable (NetOk net) := decidable_of_iff' _ (netOk_iff net)

theorem pow_le6 {n : Nat} (h : n ≤ 6) : (2 : Int) ^ n ≤ 64 := by
  have : n = 0 ∨ n = 1 ∨ n = 2 ∨ n = 3 ∨ n = 4 ∨ n = 5 ∨ n = 6 := by omega
  rcases this with rfl | rfl | rfl | rfl | rfl | rfl | rfl <;> decide

theorem bit_lt {n : Int} {j p : Nat} (h0 : 0 ≤ n) (h : n < 2 ^ p) (hj : p ≤ j) : bit n j = false := by
  obtain ⟨x, rfl⟩ := Int.eq_ofNat_of_zero_le h0
  rw [pow_nat] at h
  simp only [bit, Int.toNat_natCast]
  exact Nat.testBit_lt_two_pow (Nat.lt_of_lt_of_le (by omega) (Nat.pow_le_pow_right (by decide) hj))

attribute [irreducible] bit
end Go.Abs
