/- Code of the abstract machine is the program's code: calls, regions, branches, loops, functions. Own work; no condition. -/
import Derived.Test.YtcbnigipnepnkaaSoundE
namespace Go.Abs
open Go.RowKit (Below)

section
variable {P : Program} {B : Nat} {w0 : World} {μ : Mu} {k : Nat} {a : Act} {σ : Frame} {m : Heap} {K : XV → Heap → Prop} {w : World} {Q : Exit → Act → World → Prop}

/-! ### Calls -/

theorem evs_spec (hf : FRel μ m.length σ a.tmps k) : ∀ {l : List Operand} {ps : List Opd}, trOpds l = some ps → ∀ {xs : List XV}, σ.evs ps = some xs →
    l.map a.eval = xs.map (concX μ) ∧ ∀ x ∈ xs, x.ok μ m.length
  | [], ps, h, xs, hx => by cases h; cases hx; exact ⟨rfl, by simp⟩
  | o :: l, ps, h, xs, hx => by
    simp only [trOpds, Option.bind_eq_bind] at h
    obtain ⟨p, hp, h⟩ := some_bind h
    obtain ⟨qs, hq, h⟩ := some_bind h
    cases h
    simp only [Frame.evs] at hx
    split at hx
    · rename_i v vs hv hvs
      cases hx
      obtain ⟨h1, h2⟩ := ev_spec hf hp hv
      obtain ⟨h3, h4⟩ := evs_spec hf hq hvs
      refine ⟨by rw [List.map_cons, List.map_cons, h1, h3], fun x hx => ?_⟩
      rcases List.mem_cons.1 hx with rfl | hx
      · exact h2
      · exact h4 x hx
    · cases hx

theorem canCall_spec {f : FuncId} (h : canCall P f = true) (args : Array Value) (w : World) : (callFunc f args).run P w = .ok (.enter f args) w := by
  unfold canCall at h
  split at h
  · rename_i fn hfn
    simp only [Bool.and_eq_true, bne_iff_ne, ne_eq] at h
    obtain ⟨b, hb⟩ := Option.isSome_iff_exists.1 h.1
    simp [callFunc, hfn, h.2, hb]
  · cases h

theorem exec_call {o : Oper} {f : FuncId} {c : Call} (ho : o.op = .call c) (hc : c.callee = .value (.func f)) (hcan : canCall P f = true) (w : World) :
    (execOp a.eval o).run P w = .ok (.enter f (c.args.toList.map a.eval).toArray) w := by
  have he : a.eval (.func f) = .func (.func f) #[] #[] := rfl
  have : (c.args.map a.eval) = (c.args.toList.map a.eval).toArray := Array.toList_inj.1 (by rw [Array.toList_map])
  simp only [execOp, ho, resolve, hc, he, Deferred.ofValue, Sem.run_bind, Sem.run_pure, Result.andThen_ok, invoke, Array.empty_append, Array.append_empty, canCall_spec hcan, this]

theorem e_call {o : Oper} {f : FuncId} {c : Call} (ho : o.op = .call c) (hc : c.callee = .value (.func f)) (hcan : canCall P f = true) {ps : List Opd} (hp : trOpds c.args.toList = some ps)
    (hw : HRel B w0 μ m w) (hf : FRel μ m.length σ a.tmps k) (h : aop P (.call f ps) σ m K) : o.wp P a w (ERes B w0 μ m.length a o K) Q := by
  simp only [aop] at h
  split at h
  · rename_i xs hxs
    obtain ⟨h1, h2⟩ := evs_spec hf hp hxs
    unfold Oper.wp
    rw [exec_call ho hc hcan, h1]
    show Calls P f _ w _
    refine (h B w0 μ w hw h2).mono fun e w' ⟨x, m', μ', hK, he, hx, hh, hl, hag⟩ => ?_
    subst he
    exact ⟨x, m', μ', hK, rfl, hx, hh, hl, hag⟩
  · exact h.elim

theorem flats_conc (μ μ' : Mu) (n : Nat) : ∀ {l : List AV}, flats l → l.map (conc μ) = l.map (conc μ') ∧ ∀ v ∈ l, v.ok μ n
  | [], _ => ⟨rfl, by simp⟩
  | v :: l, ⟨hv, hl⟩ => by
    obtain ⟨h1, h2⟩ := flats_conc μ μ' n hl
    have h3 : conc μ v = conc μ' v ∧ v.ok μ n := by cases v <;> first | exact ⟨rfl, trivial⟩ | exact hv.elim
    refine ⟨by rw [List.map_cons, List.map_cons, h3.1, h1], fun u hu => ?_⟩
    rcases List.mem_cons.1 hu with rfl | hu
    · exact h3.2
    · exact h2 u hu
theorem flat_conc {x : XV} (h : x.flat) (μ μ' : Mu) (n : Nat) : concX μ x = concX μ' x ∧ x.ok μ n := by
  cases x with
  | one v => cases v <;> first | exact ⟨rfl, trivial⟩ | exact h.elim
  | undef => exact h.elim
  | tup l =>
    obtain ⟨h1, h2⟩ := flats_conc μ μ' n (l := l) h
    exact ⟨by simp only [concX, h1], h2⟩
  | agg l =>
    obtain ⟨h1, h2⟩ := flats_conc μ μ' n (l := l) h
    exact ⟨by simp only [concX, h1], h2⟩

/-- A quiet operation, over the class of all worlds that hold the rows. -/
theorem quiet_of_q {o : Oper} {K : XV → Prop} {K' : Act → Prop} (h : QSound P B w0 μ a m K o) (hne : ∃ w, HRel B w0 μ m w) (hK : ∀ x, K x → x.ok μ m.length → K' (a.put o.dst (concX μ x))) :
    o.quiet P a (fun w => HRel B w0 μ m w) K' := by
  obtain ⟨x, hx, hr⟩ := h
  obtain ⟨w1, hw1⟩ := hne
  refine ⟨concX μ x, fun w hw => ?_, hK x hx (hr w1 hw1).1⟩
  unfold Oper.quietAt
  rw [(hr w hw).2]
  exact ⟨rfl, rfl⟩

theorem still_of_q {o : Oper} {K : XV → Prop} {K' : Act → Prop} (h : QSound P B w0 μ a m K o) (hw : HRel B w0 μ m w) (hK : ∀ x, K x → x.ok μ m.length → K' (a.put o.dst (concX μ x))) :
    o.still P a w K' := by
  obtain ⟨x, hx, hr⟩ := h
  obtain ⟨h1, h2⟩ := hr w hw
  unfold Oper.still
  rw [h2]
  exact ⟨rfl, hK x hx h1⟩

theorem quiet_callq {o : Oper} {f : FuncId} {c : Call} (ho : o.op = .call c) (hc : c.callee = .value (.func f)) (hcan : canCall P f = true) {ps : List Opd} (hp : trOpds c.args.toList = some ps)
    (hf : FRel μ m.length σ a.tmps k) (h : aop P (.callq f ps) σ m K) {K' : Act → Prop} (hK : ∀ x, K x m → x.ok μ m.length → K' (a.put o.dst (concX μ x))) :
    o.quiet P a (fun w => HRel B w0 μ m w) K' := by
  simp only [aop] at h
  split at h
  · rename_i xs hxs
    obtain ⟨h1, h2⟩ := evs_spec hf hp hxs
    obtain ⟨x, hcall, hflat, hKx⟩ := h
    refine ⟨concX μ x, fun w hw => ?_, hK x hKx (flat_conc hflat μ μ _).2⟩
    unfold Oper.quietAt
    rw [exec_call ho hc hcan, h1]
    refine ⟨rfl, (hcall B w0 μ w hw h2).mono fun e w' ⟨y, m', μ', ⟨hy, hm⟩, he, _, hh, _, hag⟩ => ?_⟩
    subst hy
    exact ⟨by rw [he, (flat_conc hflat μ μ' 0).1], hh.restrict hm hag fun id r hr => (hw.rows id r hr).ok⟩
  · exact h.elim

/-! ### One operation, translated -/

theorem toList_one {α : Type} {x : Array α} {y : α} (h : x.toList = [y]) : x = #[y] := by
  rw [← Array.toList_inj]; simpa using h
theorem toList_two {α : Type} {x : Array α} {y z : α} (h : x.toList = [y, z]) : x = #[y, z] := by
  rw [← Array.toList_inj]; simpa using h

/-- What a translation of a call says. -/
theorem trCall_spec {qt : Bool} {c : Call} {op : AOp} (h : trCall P qt c = some op) :
    (∃ f ps, c.callee = .value (.func f) ∧ canCall P f = true ∧ trOpds c.args.toList = some ps ∧ op = if qt then .callq f ps else .call f ps) ∨
    (∃ x t px, c = { callee := .builtin .len, args := #[x], argTypes := #[t] } ∧ trOpd x = some px ∧ ((isSlice P t = true ∧ op = .len px) ∨ (isStr P t = true ∧ op = .slen px))) ∨
    (∃ x y t e z px py, c = { callee := .builtin .append, args := #[x, y], argTypes := #[t, t] } ∧ elemZ P t = some (e, z) ∧ trOpd x = some px ∧ trOpd y = some py ∧ op = .app e px py) ∨
    (∃ x y ts px py, c = { callee := .builtin .min, args := #[x, y], argTypes := ts } ∧ trOpd x = some px ∧ trOpd y = some py ∧ op = .mn px py) ∨
    (∃ x y ts px py, c = { callee := .builtin .max, args := #[x, y], argTypes := ts } ∧ trOpd x = some px ∧ trOpd y = some py ∧ op = .mx px py) := by
  obtain ⟨c1, c2, c3⟩ := c
  unfold trCall at h
  simp only at h
  split at h
  · rename_i f
    split at h
    · rename_i hcan
      simp only [Option.bind_eq_bind] at h
      obtain ⟨xs, hxs, h⟩ := some_bind h
      cases h
      exact .inl ⟨f, xs, rfl, hcan, hxs, rfl⟩
    · cases h
  · rename_i x t hx ht
    obtain rfl := toList_one hx
    obtain rfl := toList_one ht
    split at h
    · rename_i hs
      obtain ⟨px, hp, rfl⟩ := some_map h
      exact .inr (.inl ⟨x, t, px, rfl, hp, .inl ⟨hs, rfl⟩⟩)
    · split at h
      · rename_i hs
        obtain ⟨px, hp, rfl⟩ := some_map h
        exact .inr (.inl ⟨x, t, px, rfl, hp, .inr ⟨hs, rfl⟩⟩)
      · cases h
  · rename_i x y t u hx ht
    obtain rfl := toList_two hx
    obtain rfl := toList_two ht
    split at h
    · rename_i htu
      subst htu
      simp only [Option.bind_eq_bind] at h
      obtain ⟨⟨e, z⟩, he, h⟩ := some_bind h
      simp only at h
      obtain ⟨px, hpx, h⟩ := some_bind h
      obtain ⟨py, hpy, h⟩ := some_bind h
      cases h
      exact .inr (.inr (.inl ⟨x, y, t, e, z, px, py, rfl, he, hpx, hpy, rfl⟩))
    · cases h
  · rename_i ts x y hx
    obtain rfl := toList_two hx
    simp only [Option.bind_eq_bind] at h
    obtain ⟨px, hpx, h⟩ := some_bind h
    obtain ⟨py, hpy, h⟩ := some_bind h
    cases h
    exact .inr (.inr (.inr (.inl ⟨x, y, c3, px, py, rfl, hpx, hpy, rfl⟩)))
  · rename_i ts x y hx
    obtain rfl := toList_two hx
    simp only [Option.bind_eq_bind] at h
    obtain ⟨px, hpx, h⟩ := some_bind h
    obtain ⟨py, hpy, h⟩ := some_bind h
    cases h
    exact .inr (.inr (.inr (.inr ⟨x, y, c3, px, py, rfl, hpx, hpy, rfl⟩)))
  · cases h

/-- A translated operation is a still one, or a quiet call, or one with an effect. -/
theorem op_cases {qt : Bool} {o : Oper} {op : AOp} (ht : trOp P qt o.op = some op) (hf : FRel μ m.length σ a.tmps k) (h : aop P op σ m K) :
    (op.still = true ∧ QSound P B w0 μ a m (fun x => K x m) o) ∨
    (∃ f ps c, op = .callq f ps ∧ o.op = .call c ∧ c.callee = .value (.func f) ∧ canCall P f = true ∧ trOpds c.args.toList = some ps) ∨
    (op.quiet = false ∧ ∀ w Q, HRel B w0 μ m w → o.wp P a w (ERes B w0 μ m.length a o K) Q) := by
  generalize ho : o.op = oo at ht
  cases oo <;> simp only [trOp] at ht <;> try (cases ht; done)
  case move x =>
    obtain ⟨px, hp, rfl⟩ := some_map ht
    exact .inl ⟨rfl, q_mv (.inl ho) hp hf h⟩
  case assign x =>
    obtain ⟨px, hp, rfl⟩ := some_map ht
    exact .inl ⟨rfl, q_mv (.inr ho) hp hf h⟩
  case pick c x y =>
    simp only [Option.bind_eq_bind] at ht
    obtain ⟨p1, h1, ht⟩ := some_bind ht
    obtain ⟨p2, h2, ht⟩ := some_bind ht
    obtain ⟨p3, h3, ht⟩ := some_bind ht
    cases ht
    exact .inl ⟨rfl, q_pick ho h1 h2 h3 hf h⟩
  case binOp op t x y u =>
    split at ht
    · rename_i hb
      cases op <;> simp only at ht <;> try (cases ht; done)
      all_goals
        simp only [Option.bind_eq_bind] at ht
        obtain ⟨p1, h1, ht⟩ := some_bind ht
        obtain ⟨p2, h2, ht⟩ := some_bind ht
        cases ht
      · exact .inl ⟨rfl, q_eqb (neg := false) ho hb h1 h2 hf h⟩
      · exact .inl ⟨rfl, q_eqb (neg := true) ho hb h1 h2 hf h⟩
    · simp only [Option.bind_eq_bind] at ht
      obtain ⟨p1, h1, ht⟩ := some_bind ht
      obtain ⟨p2, h2, ht⟩ := some_bind ht
      cases ht
      exact .inl ⟨rfl, q_bin ho h1 h2 hf h⟩
  case unOp op t x =>
    obtain ⟨px, hp, rfl⟩ := some_map ht
    exact .inl ⟨rfl, q_un ho hp hf h⟩
  case convert s t x =>
    split at ht
    · rename_i hs
      simp only [Option.bind_eq_bind] at ht
      obtain ⟨p1, h1, ht⟩ := some_bind ht
      obtain ⟨p2, h2, ht⟩ := some_bind ht
      cases ht
      exact .inl ⟨rfl, q_conv ho hs h1 h2 hf h⟩
    · cases ht
  case indexAddr t x i =>
    split at ht
    · rename_i hs
      simp only [Option.bind_eq_bind] at ht
      obtain ⟨p1, h1, ht⟩ := some_bind ht
      obtain ⟨p2, h2, ht⟩ := some_bind ht
      cases ht
      exact .inl ⟨rfl, q_idx ho hs h1 h2 hf h⟩
    · simp only [Option.bind_eq_bind] at ht
      obtain ⟨p1, h1, ht⟩ := some_bind ht
      obtain ⟨p2, h2, ht⟩ := some_bind ht
      obtain ⟨n, h3, ht⟩ := some_bind ht
      cases ht
      exact .inl ⟨rfl, q_aidx ho h3 h1 h2 hf h⟩
  case fieldAddr s x f =>
    simp only [Option.bind_eq_bind] at ht
    obtain ⟨p1, h1, ht⟩ := some_bind ht
    obtain ⟨p2, h2, ht⟩ := some_bind ht
    cases ht
    exact .inl ⟨rfl, q_fld ho h2 h1 hf h⟩
  case load t x =>
    split at ht
    · rename_i hs
      obtain ⟨px, hp, rfl⟩ := some_map ht
      exact .inl ⟨rfl, q_ld ho hs hp hf h⟩
    · simp only [Option.bind_eq_bind] at ht
      obtain ⟨p1, h1, ht⟩ := some_bind ht
      obtain ⟨n, h2, ht⟩ := some_bind ht
      cases ht
      exact .inl ⟨rfl, q_lda ho h2 h1 hf h⟩
  case store t x y =>
    split at ht
    · rename_i hs
      simp only [Option.bind_eq_bind] at ht
      obtain ⟨p1, h1, ht⟩ := some_bind ht
      obtain ⟨p2, h2, ht⟩ := some_bind ht
      cases ht
      exact .inr (.inr ⟨rfl, fun w Q hw => e_st ho hs h1 h2 hw hf h⟩)
    · simp only [Option.bind_eq_bind] at ht
      obtain ⟨p1, h1, ht⟩ := some_bind ht
      obtain ⟨p2, h2, ht⟩ := some_bind ht
      obtain ⟨n, h3, ht⟩ := some_bind ht
      cases ht
      exact .inr (.inr ⟨rfl, fun w Q hw => e_sta ho h3 h1 h2 hw hf h⟩)
  case nilCheck x =>
    obtain ⟨px, hp, rfl⟩ := some_map ht
    exact .inl ⟨rfl, q_nilck ho hp hf h⟩
  case extract x i =>
    obtain ⟨px, hp, rfl⟩ := some_map ht
    exact .inl ⟨rfl, q_ext ho hp hf h⟩
  case slice t x lo hi mx =>
    cases mx with
    | some _ => simp only at ht; cases ht
    | none =>
      simp only at ht
      split at ht
      · rename_i hs
        simp only [Option.bind_eq_bind] at ht
        obtain ⟨p1, h1, ht⟩ := some_bind ht
        obtain ⟨p2, h2, ht⟩ := some_bind ht
        obtain ⟨p3, h3, ht⟩ := some_bind ht
        cases ht
        exact .inl ⟨rfl, q_sub ho hs h1 h2 h3 hf h⟩
      · simp only [Option.bind_eq_bind] at ht
        obtain ⟨p1, h1, ht⟩ := some_bind ht
        obtain ⟨p2, h2, ht⟩ := some_bind ht
        obtain ⟨p3, h3, ht⟩ := some_bind ht
        obtain ⟨n, h4, ht⟩ := some_bind ht
        cases ht
        exact .inl ⟨rfl, q_asl ho h4 h1 h2 h3 hf h⟩
  case build t parts =>
    split at ht
    · rename_i hs
      simp only [Option.bind_eq_bind] at ht
      obtain ⟨p1, h1, ht⟩ := some_bind ht
      obtain ⟨p2, h2, ht⟩ := some_bind ht
      cases ht
      simp only [aop] at h
      split at h
      · rename_i l hl
        exact .inl ⟨rfl, q_bld ho hs h1 h2 hf hl h⟩
      · exact h.elim
    · cases ht
  case alloc t =>
    split at ht
    · rename_i l hl
      obtain ⟨_, rfl⟩ := ite_some ht
      exact .inr (.inr ⟨rfl, fun w Q hw => e_alc ho hl hw h⟩)
    · cases ht
  case box e x =>
    obtain ⟨px, hp, rfl⟩ := some_map ht
    exact .inr (.inr ⟨rfl, fun w Q hw => e_box ho hp hw hf h⟩)
  case buildSlice t n parts =>
    simp only [Option.bind_eq_bind] at ht
    obtain ⟨⟨e, z⟩, he, ht⟩ := some_bind ht
    simp only at ht
    split at ht
    · rename_i hn
      obtain ⟨p1, h1, ht⟩ := some_bind ht
      cases ht
      exact .inr (.inr ⟨rfl, fun w Q hw => e_bsl ho he hn h1 hw hf h⟩)
    · cases ht
  case makeSlice t x y =>
    simp only [Option.bind_eq_bind] at ht
    obtain ⟨⟨e, z⟩, he, ht⟩ := some_bind ht
    simp only at ht
    obtain ⟨p1, h1, ht⟩ := some_bind ht
    obtain ⟨p2, h2, ht⟩ := some_bind ht
    cases ht
    exact .inr (.inr ⟨rfl, fun w Q hw => e_mk ho he h1 h2 hw hf h⟩)
  case call c =>
    rcases trCall_spec ht with ⟨f, ps, hc, hcan, hp, rfl⟩ | ⟨x, t, px, rfl, hp, ⟨hs, rfl⟩ | ⟨hs, rfl⟩⟩ | ⟨x, y, t, e, z, px, py, rfl, he, hx, hy, rfl⟩ | ⟨x, y, ts, px, py, rfl, hx, hy, rfl⟩ | ⟨x, y, ts, px, py, rfl, hx, hy, rfl⟩
    · cases qt with
      | true => exact .inr (.inl ⟨f, ps, c, rfl, rfl, hc, hcan, hp⟩)
      | false => exact .inr (.inr ⟨rfl, fun w Q hw => e_call ho hc hcan hp hw hf h⟩)
    · exact .inl ⟨rfl, q_len ho hs hp hf h⟩
    · exact .inl ⟨rfl, q_slen ho hs hp hf h⟩
    · exact .inr (.inr ⟨rfl, fun w Q hw => e_app ho he hx hy hw hf h⟩)
    · exact .inl ⟨rfl, q_mn ho hx hy hf h⟩
    · exact .inl ⟨rfl, q_mx ho hx hy hf h⟩

end
end Go.Abs
