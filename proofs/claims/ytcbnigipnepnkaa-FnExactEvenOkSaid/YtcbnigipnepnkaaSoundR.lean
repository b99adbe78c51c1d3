/- Regions, branches, loops and functions of the abstract machine are the program's. Own work; no condition. -/
import Derived.Test.YtcbnigipnepnkaaSoundC
namespace Go.Abs
open Go.RowKit (Below)

def AExit.conc : AExit → Exit
  | .normal => .normal
  | .exit id => .exit id
  | .ret => .ret

/-- The program's state is one of the abstract states that are wanted. -/
def Lift (B : Nat) (w0 : World) (k n : Nat) (μ : Mu) (Q : AExit → Frame → Heap → Prop) : Exit → Act → World → Prop := fun e a w =>
  ∃ e' σ m μ', Q e' σ m ∧ e = e'.conc ∧ HRel B w0 μ' m w ∧ FRel μ' m.length σ a.tmps k ∧ a.defers = [] ∧ n ≤ m.length ∧ Agree n μ μ'

section
variable {P : Program} {B : Nat} {w0 : World} {k n : Nat} {μ0 : Mu}

theorem defers_put (a : Act) (d : Option Tmp) (v : Value) : (a.put d v).defers = a.defers := by cases d <;> rfl

theorem oper_wp {μ : Mu} {a : Act} {σ : Frame} {m : Heap} {K : XV → Heap → Prop} {w : World} {Q : Exit → Act → World → Prop} {qt : Bool} {o : Oper} {op : AOp} (ht : trOp P qt o.op = some op)
    (hw : HRel B w0 μ m w) (hf : FRel μ m.length σ a.tmps k) (h : aop P op σ m K) : o.wp P a w (ERes B w0 μ m.length a o K) Q := by
  rcases op_cases (B := B) (w0 := w0) ht hf h with ⟨_, h1⟩ | ⟨f, ps, c, rfl, ho, hc, hcan, hp⟩ | ⟨_, h1⟩
  · exact e_quiet h1 hw
  · refine Oper.wp_of_quiet (C := fun w => HRel B w0 μ m w) (K := fun a' => ∃ x, K x m ∧ x.ok μ m.length ∧ a' = a.put o.dst (concX μ x)) hw ?_ (quiet_callq ho hc hcan hp hf h fun x hx hok => ⟨x, hx, hok, rfl⟩)
    rintro a' w' hw' ⟨x, hx, hok, rfl⟩
    exact ⟨x, m, μ, hx, rfl, hok, hw', Nat.le_refl _, Agree.refl _ _⟩
  · exact h1 w Q hw

/-- What a guard says. -/
theorem guard_spec {μ : Mu} {a : Act} {σ : Frame} {m : Heap} {ops : Array Oper} {o : Oper} {g : Option (Nat × Bool)} (hg : trGuard ops o.guard = some g) (hf : FRel μ m.length σ a.tmps k) :
    (g = none ∧ Region.wanted o (yielded ops a.tmps) = true) ∨
    ∃ s b, g = some (s, b) ∧ (∀ t, σ.get s = some (.one (.bool t)) → Region.wanted o (yielded ops a.tmps) = decide (t = b)) ∧ (σ.get s = some .undef → Region.wanted o (yielded ops a.tmps) = false) := by
  cases ho : o.guard with
  | none =>
    rw [ho] at hg
    cases hg
    exact .inl ⟨rfl, by simp [Region.wanted, ho]⟩
  | some p =>
    obtain ⟨j, b⟩ := p
    rw [ho] at hg
    simp only [trGuard] at hg
    split at hg
    · rename_i s hs
      cases hg
      refine .inr ⟨s, b, rfl, fun t ht => ?_, fun ht => ?_⟩
      · obtain ⟨_, _, h3⟩ := hf.slot s _ ht
        have : yielded ops a.tmps j = some t := by simp [yielded, hs, h3, concX, Abs.conc]
        simp only [Region.wanted, ho, this]
        cases t <;> cases b <;> rfl
      · obtain ⟨_, _, h3⟩ := hf.slot s _ ht
        have : yielded ops a.tmps j = none := by simp [yielded, hs, h3, concX]
        simp only [Region.wanted, ho, this]
        cases b <;> rfl
    · cases hg

theorem FRel.again {μ : Mu} {len : Nat} {σ : Frame} {tmps : Array Value} (hf : FRel μ len σ tmps k) {t : Nat} {x : XV} (h : σ.get t = some x) : FRel μ len ((t, x) :: σ) tmps k := by
  refine ⟨hf.size, fun u y hy => ?_⟩
  simp only [Frame.get] at hy
  by_cases e : t = u
  · subst e
    rw [beq_self_eq_true] at hy
    cases hy
    exact hf.slot t x h
  · rw [beq_false_of_ne e] at hy
    exact hf.slot u y hy

theorem trOper_spec {ops : Array Oper} {qt : Bool} {o : Oper} {ao : AOper} (h : trOper P k ops qt o = some ao) :
    o.dst.all (· < k) = true ∧ trOp P qt o.op = some ao.op ∧ trGuard ops o.guard = some ao.guard ∧ ao.dst = o.dst := by
  unfold trOper at h
  split at h
  · rename_i hd
    simp only [Option.bind_eq_bind] at h
    obtain ⟨op, h1, h⟩ := some_bind h
    obtain ⟨g, h2, h⟩ := some_bind h
    cases h
    exact ⟨hd, h1, h2, rfl⟩
  · cases h

theorem trOpers_cons {ops : Array Oper} {qt : Bool} {o : Oper} {l : List Oper} {as : List AOper} (h : trOpers P k ops qt (o :: l) = some as) :
    ∃ ao as', trOper P k ops qt o = some ao ∧ trOpers P k ops qt l = some as' ∧ as = ao :: as' := by
  simp only [trOpers, Option.bind_eq_bind] at h
  obtain ⟨ao, h1, h⟩ := some_bind h
  obtain ⟨as', h2, h⟩ := some_bind h
  cases h
  exact ⟨ao, as', h1, h2, rfl⟩

/-- Operations one after the other. -/
theorem list_sound {ops : Array Oper} {qt : Bool} {Q : AExit → Frame → Heap → Prop} : ∀ {l : List Oper} {as : List AOper}, trOpers P k ops qt l = some as → ∀ {μ : Mu} {a : Act} {σ : Frame} {m : Heap} {w : World},
    awpOps P (Q .normal) as σ m → HRel B w0 μ m w → FRel μ m.length σ a.tmps k → a.defers = [] → n ≤ m.length → Agree n μ0 μ → wpList P ops (Lift B w0 k n μ0 Q) l a w
  | [], as, h, μ, a, σ, m, w, hQ, hw, hf, hd, hn, hag => by
    cases h
    exact ⟨.normal, σ, m, μ, hQ, rfl, hw, hf, hd, hn, hag⟩
  | o :: l, as, h, μ, a, σ, m, w, hQ, hw, hf, hd, hn, hag => by
    obtain ⟨ao, as', h1, h2, rfl⟩ := trOpers_cons h
    obtain ⟨t1, t2, t3, t4⟩ := trOper_spec h1
    have go : ∀ σ : Frame, FRel μ m.length σ a.tmps k → aop P ao.op σ m (fun x m' => awpOps P (Q .normal) as' (σ.put ao.dst x) m') → o.wp P a w (wpList P ops (Lift B w0 k n μ0 Q) l) (Lift B w0 k n μ0 Q) := by
      intro σ hf hop
      refine wp_mono_oper ?_ (oper_wp t2 hw hf hop)
      rintro a' w' ⟨x, m', μ', hK, rfl, hx, hh, hl, hag'⟩
      refine list_sound h2 hK hh ?_ (by rw [defers_put]; exact hd) (Nat.le_trans hn hl) (hag.trans hag' hn)
      rw [t4]
      exact (hf.agree hag' hl).put t1 hx
    have skip : ∀ σ : Frame, FRel μ m.length σ a.tmps k → awpOps P (Q .normal) as' (σ.put ao.dst .undef) m → wpList P ops (Lift B w0 k n μ0 Q) l (a.put o.dst undef) w := by
      intro σ hf hs
      refine list_sound h2 hs hw ?_ (by rw [defers_put]; exact hd) hn hag
      rw [t4]
      exact hf.put (x := .undef) t1 trivial
    simp only [awpOps] at hQ
    simp only [wpList]
    rcases guard_spec t3 hf with ⟨e, hwt⟩ | ⟨s, b, e, hb, hu⟩
    · rw [e] at hQ
      simp only [hwt, if_true]
      exact .inl (go σ hf hQ)
    · rw [e] at hQ
      simp only at hQ
      split at hQ
      · rename_i t ht
        rw [hb t ht]
        by_cases htb : t = b
        · simp only [htb, decide_true, if_true]
          exact .inl (go _ (hf.again (by rw [ht, htb])) (hQ.1 htb))
        · simp only [htb, decide_false, Bool.false_eq_true, if_false]
          have htn : t = !b := by cases t <;> cases b <;> simp_all
          exact skip _ (hf.again (by rw [ht, htn])) (hQ.2 htn)
      · rename_i ht
        rw [hu ht]
        simp only [Bool.false_eq_true, if_false]
        exact skip σ hf hQ
      · exact hQ.elim
where
  wp_mono_oper {o : Oper} {a : Act} {w : World} {K K' : Act → World → Prop} {Q : Exit → Act → World → Prop} (h : ∀ a w, K a w → K' a w) (hh : o.wp P a w K Q) : o.wp P a w K' Q := by
    unfold Oper.wp at *
    generalize (execOp a.eval o).run P w = r at *
    cases r with
    | ok nx w' =>
      cases nx <;> simp only [Oper.upon] at hh ⊢
      case value v => exact h _ _ hh
      case skip => exact h _ _ hh
      case defer d => exact h _ _ hh
      case enter f args =>
        refine hh.mono fun e w'' he => ?_
        cases e with
        | returned v => exact h _ _ he
        | panicked c => exact he
        | outgrown => exact he
      case row row args => exact hh.mono fun v w'' hv => h _ _ hv
    | halt x w' => cases x <;> exact hh

/-- A quiet region: any order comes to what the text's order comes to. -/
theorem quiet_sound {ops : Array Oper} {Q : Frame → Heap → Prop} {μ : Mu} {m : Heap} {D : List Deferred} (hne : ∃ w, HRel B w0 μ m w) : ∀ {l : List Oper} {as : List AOper}, trOpers P k ops true l = some as → as.all (·.op.quiet) = true →
    ∀ {a : Act} {σ : Frame}, awpOps P Q as σ m → FRel μ m.length σ a.tmps k → a.defers = D →
      wpQuiet P ops (fun w => HRel B w0 μ m w) (fun a' => ∃ σ', Q σ' m ∧ FRel μ m.length σ' a'.tmps k ∧ a'.defers = D) l a
  | [], as, h, hall, a, σ, hQ, hf, hd => by
    cases h
    exact ⟨σ, hQ, hf, hd⟩
  | o :: l, as, h, hall, a, σ, hQ, hf, hd => by
    obtain ⟨ao, as', h1, h2, rfl⟩ := trOpers_cons h
    obtain ⟨t1, t2, t3, t4⟩ := trOper_spec h1
    simp only [List.all_cons, Bool.and_eq_true] at hall
    have cont : ∀ σ : Frame, FRel μ m.length σ a.tmps k → ∀ x, awpOps P Q as' (σ.put ao.dst x) m → x.ok μ m.length → wpQuiet P ops (fun w => HRel B w0 μ m w) (fun a' => ∃ σ', Q σ' m ∧ FRel μ m.length σ' a'.tmps k ∧ a'.defers = D) l (a.put o.dst (concX μ x)) := by
      intro σ hf x hx hok
      refine quiet_sound hne h2 hall.2 hx ?_ (by rw [defers_put]; exact hd)
      rw [t4]
      exact hf.put t1 hok
    have go : ∀ σ : Frame, FRel μ m.length σ a.tmps k → aop P ao.op σ m (fun x m' => awpOps P Q as' (σ.put ao.dst x) m') → o.quiet P a (fun w => HRel B w0 μ m w) (wpQuiet P ops (fun w => HRel B w0 μ m w) (fun a' => ∃ σ', Q σ' m ∧ FRel μ m.length σ' a'.tmps k ∧ a'.defers = D) l) := by
      intro σ hf hop
      rcases op_cases (B := B) (w0 := w0) t2 hf hop with ⟨_, hq⟩ | ⟨f, ps, c, hc0, ho, hc, hcan, hp⟩ | ⟨hq, _⟩
      · exact quiet_of_q hq hne (cont σ hf)
      · rw [hc0] at hop
        exact quiet_callq ho hc hcan hp hf hop (cont σ hf)
      · rw [hq] at hall; cases hall.1
    simp only [awpOps] at hQ
    simp only [wpQuiet]
    rcases guard_spec t3 hf with ⟨e, hwt⟩ | ⟨s, b, e, hb, hu⟩
    · rw [e] at hQ
      simp only [hwt, if_true]
      exact go σ hf hQ
    · rw [e] at hQ
      simp only at hQ
      split at hQ
      · rename_i t ht
        rw [hb t ht]
        by_cases htb : t = b
        · simp only [htb, decide_true, if_true]
          exact go _ (hf.again (by rw [ht, htb])) (hQ.1 htb)
        · simp only [htb, decide_false, Bool.false_eq_true, if_false]
          have htn : t = !b := by cases t <;> cases b <;> simp_all
          exact cont _ (hf.again (by rw [ht, htn])) .undef (hQ.2 htn) trivial
      · rename_i ht
        rw [hu ht]
        simp only [Bool.false_eq_true, if_false]
        exact cont σ hf .undef hQ trivial
      · exact hQ.elim

/-- The still beginning of a region whose end is one chain. -/
theorem still_sound {ops : Array Oper} {Q : Frame → Heap → Prop} {μ : Mu} {m : Heap} {w : World} {D : List Deferred} (hw : HRel B w0 μ m w) : ∀ {l : List Oper} {as : List AOper}, trOpers P k ops true l = some as → as.all (·.op.still) = true →
    ∀ {a : Act} {σ : Frame}, awpOps P Q as σ m → FRel μ m.length σ a.tmps k → a.defers = D →
      wpStill P ops w (fun a' => ∃ σ', Q σ' m ∧ FRel μ m.length σ' a'.tmps k ∧ a'.defers = D) l a
  | [], as, h, hall, a, σ, hQ, hf, hd => by
    cases h
    exact ⟨σ, hQ, hf, hd⟩
  | o :: l, as, h, hall, a, σ, hQ, hf, hd => by
    obtain ⟨ao, as', h1, h2, rfl⟩ := trOpers_cons h
    obtain ⟨t1, t2, t3, t4⟩ := trOper_spec h1
    simp only [List.all_cons, Bool.and_eq_true] at hall
    have cont : ∀ σ : Frame, FRel μ m.length σ a.tmps k → ∀ x, awpOps P Q as' (σ.put ao.dst x) m → x.ok μ m.length → wpStill P ops w (fun a' => ∃ σ', Q σ' m ∧ FRel μ m.length σ' a'.tmps k ∧ a'.defers = D) l (a.put o.dst (concX μ x)) := by
      intro σ hf x hx hok
      refine still_sound hw h2 hall.2 hx ?_ (by rw [defers_put]; exact hd)
      rw [t4]
      exact hf.put t1 hok
    have go : ∀ σ : Frame, FRel μ m.length σ a.tmps k → aop P ao.op σ m (fun x m' => awpOps P Q as' (σ.put ao.dst x) m') → o.still P a w (wpStill P ops w (fun a' => ∃ σ', Q σ' m ∧ FRel μ m.length σ' a'.tmps k ∧ a'.defers = D) l) := by
      intro σ hf hop
      rcases op_cases (B := B) (w0 := w0) t2 hf hop with ⟨_, hq⟩ | ⟨f, ps, c, hc0, ho, hc, hcan, hp⟩ | ⟨hq, _⟩
      · exact still_of_q hq hw (cont σ hf)
      · rw [hc0] at hall; cases hall.1
      · exfalso
        have h1 := hall.1
        cases hop : ao.op <;> rw [hop] at h1 hq <;> simp [AOp.still, AOp.quiet] at h1 hq
    simp only [awpOps] at hQ
    simp only [wpStill]
    rcases guard_spec t3 hf with ⟨e, hwt⟩ | ⟨s, b, e, hb, hu⟩
    · rw [e] at hQ
      simp only [hwt, if_true]
      exact go σ hf hQ
    · rw [e] at hQ
      simp only at hQ
      split at hQ
      · rename_i t ht
        rw [hb t ht]
        by_cases htb : t = b
        · simp only [htb, decide_true, if_true]
          exact go _ (hf.again (by rw [ht, htb])) (hQ.1 htb)
        · simp only [htb, decide_false, Bool.false_eq_true, if_false]
          have htn : t = !b := by cases t <;> cases b <;> simp_all
          exact cont _ (hf.again (by rw [ht, htn])) .undef (hQ.2 htn) trivial
      · rename_i ht
        rw [hu ht]
        simp only [Bool.false_eq_true, if_false]
        exact cont σ hf .undef hQ trivial
      · exact hQ.elim

theorem awpOps_append {Q : Frame → Heap → Prop} : ∀ (x y : List AOper) (σ : Frame) (m : Heap), awpOps P Q (x ++ y) σ m = awpOps P (awpOps P Q y) x σ m
  | [], y, σ, m => rfl
  | o :: x, y, σ, m => by
    have ih : awpOps P Q (x ++ y) = awpOps P (awpOps P Q y) x := funext fun σ => funext fun m => awpOps_append x y σ m
    simp only [List.cons_append, awpOps, ih]

theorem late_sound {id : Nat} {ops : Array Oper} {ac : ACode} (hm : P.follows .mixedOrders = true) (ht : trLate P k ops = some ac) {Q : AExit → Frame → Heap → Prop} {μ : Mu} {a : Act} {σ : Frame} {m : Heap} {w : World}
    (h : awp P ac Q σ m) (hw : HRel B w0 μ m w) (hf : FRel μ m.length σ a.tmps k) (hd : a.defers = []) (hn : n ≤ m.length) (hag : Agree n μ0 μ) : (Code.region id ops true).wp P (Lift B w0 k n μ0 Q) a w := by
  have hdrew : HRel B w0 μ m { w with drawn := w.drawn + 1 } := hw.drew
  unfold trLate at ht
  split at ht
  · cases ht
  · rename_i j hj
    have hB : Region.lexTailB .any ops j = true := List.find?_some hj
    split at ht
    · rename_i x y hx hy
      obtain ⟨hq, e⟩ := ite_some ht
      subst e
      have h' : awpOps P (awpOps P (Q .normal) y) x σ m := by rw [← awpOps_append]; exact h
      refine wp_region_late (C := fun w => HRel B w0 μ m w) hm hB hdrew ?_
      exact lateMono (fun a' ⟨σ', h1, h2, h3⟩ w' hw' => list_sound (Q := Q) hy h1 hw' h2 h3 hn hag) _ _ (quiet_sound ⟨w, hw⟩ hx hq h' hf hd)
    · cases ht
where
  lateMono {P : Program} {ops : Array Oper} {C : World → Prop} {Q Q' : Act → Prop} (h : ∀ a, Q a → Q' a) : ∀ (l : List Oper) (a : Act), wpQuiet P ops C Q l a → wpQuiet P ops C Q' l a
    | [], a, hh => h a hh
    | o :: l, a, hh => by
      simp only [wpQuiet] at hh ⊢
      split
      · rename_i hw; simp only [hw, if_true] at hh; exact Oper.quiet_mono (fun a' => lateMono h l a') hh
      · rename_i hw; simp only [hw] at hh; exact lateMono h l _ hh

theorem region_sound {id : Nat} {ops : Array Oper} {draw : Bool} {ac : ACode} (ht : trRegion P k ops.toList draw = some ac) {Q : AExit → Frame → Heap → Prop} {μ : Mu} {a : Act} {σ : Frame} {m : Heap} {w : World}
    (h : awp P ac Q σ m) (hw : HRel B w0 μ m w) (hf : FRel μ m.length σ a.tmps k) (hd : a.defers = []) (hn : n ≤ m.length) (hag : Agree n μ0 μ) : (Code.region id ops draw).wp P (Lift B w0 k n μ0 Q) a w := by
  have hdrew : HRel B w0 μ m { w with drawn := w.drawn + 1 } := hw.drew
  unfold trRegion at ht
  split at ht
  · rename_i hdr
    subst hdr
    split at ht
    · rename_i hm
      rw [show ops.toList.toArray = ops by simp] at ht
      unfold trDraw at ht
      split at ht
      · cases ht
      · rename_i as has
        split at ht
        · rename_i hq
          cases ht
          simp only [Bool.and_eq_true] at hq
          refine wp_region_quiet (C := fun w => HRel B w0 μ m w) hm hq.1 hdrew ?_
          have := quiet_sound (B := B) (w0 := w0) ⟨w, hw⟩ has hq.2 (show awpOps P (Q .normal) as σ m from h) hf hd
          refine wpQuiet_mono (fun a' ⟨σ', h1, h2, h3⟩ w' hw' => ⟨.normal, σ', m, μ, h1, rfl, hw', h2, h3, hn, hag⟩) _ _ this
        · split at ht
          · exact late_sound hm ht h hw hf hd hn hag
          · rename_i j hj
            have hlt : floatB ops j = true := List.find?_some hj
            split at ht
            · rename_i f x y hf' hx hy
              split at ht
              case isFalse => exact late_sound hm ht h hw hf hd hn hag
              rename_i hst
              simp only [Bool.and_eq_true] at hst
              cases ht
              have h' : awpOps P (awpOps P (awpOps P (Q .normal) y) x) f σ m := by
                have e2 : awpOps P (Q .normal) (x ++ y) = awpOps P (awpOps P (Q .normal) y) x := funext fun σ => funext fun m => awpOps_append x y σ m
                rw [← e2, ← awpOps_append]
                exact h
              have hs := still_sound hdrew hf' hst.1 h' hf hd
              exact wp_region_float j (fun c a w ⟨e', _, _, _, _, h1, _⟩ => by cases e' <;> cases h1) hm hlt
                (wpStill_mono (fun a' ⟨σ', h1, h2, h3⟩ => wpStill_mono (fun a' ⟨σ', h1, h2, h3⟩ => list_sound (Q := Q) hy h1 hdrew h2 h3 hn hag) _ _ (still_sound hdrew hx hst.2 h1 h2 h3)) _ _ hs)
            · cases ht
    · cases ht
  · rename_i hdr
    have : draw = false := by simpa using hdr
    subst this
    split at ht
    · rename_i as has
      cases ht
      refine wp_region ?_
      have hl := list_sound (B := B) (w0 := w0) (n := n) (μ0 := μ0) (Q := Q) has (show awpOps P (Q .normal) as σ m from h) hw hf hd hn hag
      have e := wpOps_eq_wpList (P := P) (ops := ops) (Q := Lift B w0 k n μ0 Q) ops.toList 0 (fun j => by simp)
      rw [List.range_eq_range']
      rw [show ops.toList.length = ops.size by simp] at e
      rw [e]
      simpa using hl
    · cases ht
where
  wpQuiet_mono {P : Program} {ops : Array Oper} {C : World → Prop} {Q Q' : Act → Prop} (h : ∀ a, Q a → Q' a) : ∀ (l : List Oper) (a : Act), wpQuiet P ops C Q l a → wpQuiet P ops C Q' l a
    | [], a, hh => h a hh
    | o :: l, a, hh => by
      simp only [wpQuiet] at hh ⊢
      split
      · rename_i hw; simp only [hw, if_true] at hh; exact Oper.quiet_mono (fun a' => wpQuiet_mono h l a') hh
      · rename_i hw; simp only [hw] at hh; exact wpQuiet_mono h l _ hh
  wpStill_mono {P : Program} {ops : Array Oper} {w : World} {Q Q' : Act → Prop} (h : ∀ a, Q a → Q' a) : ∀ (l : List Oper) (a : Act), wpStill P ops w Q l a → wpStill P ops w Q' l a
    | [], a, hh => h a hh
    | o :: l, a, hh => by
      simp only [wpStill] at hh ⊢
      split
      · rename_i hw; simp only [hw, if_true] at hh; exact Oper.still_mono (fun a' => wpStill_mono h l a') hh
      · rename_i hw; simp only [hw] at hh; exact wpStill_mono h l _ hh

theorem keep_get {σ : Frame} : ∀ {L : List Nat} {t : Nat} {x : XV}, (σ.keep L).get t = some x → σ.get t = some x
  | [], t, x, h => by cases h
  | u :: L, t, x, h => by
    simp only [Frame.keep] at h
    split at h
    · rename_i y hy
      simp only [Frame.get] at h
      by_cases e : u = t
      · subst e; simp at h; rw [hy, h]
      · rw [beq_false_of_ne e] at h; exact keep_get (L := L) h
    · exact keep_get (L := L) h

theorem FRel.keep {μ : Mu} {σ : Frame} {tmps : Array Value} {len : Nat} (hf : FRel μ len σ tmps k) (L : List Nat) : FRel μ len (σ.keep L) tmps k :=
  ⟨hf.size, fun t x h => hf.slot t x (keep_get h)⟩

theorem least_of {p : Nat → Prop} (h : ∃ j, p j) : ∃ j, p j ∧ ∀ i, p i → j ≤ i := by
  obtain ⟨j, hj⟩ := h
  induction j using Nat.strongRecOn with
  | _ j ih =>
    by_cases hl : ∃ i, i < j ∧ p i
    · obtain ⟨i, hi, hp⟩ := hl
      exact ih i hi hp
    · exact ⟨j, hj, fun i hi => Nat.le_of_not_lt fun hlt => hl ⟨i, hlt, hi⟩⟩

open Classical in
noncomputable def leastOf (p : Nat → Prop) : Nat := if h : ∃ j, p j then Classical.choose (least_of h) else 0
theorem leastOf_spec {p : Nat → Prop} (h : ∃ j, p j) : p (leastOf p) ∧ ∀ i, p i → leastOf p ≤ i := by
  unfold leastOf
  rw [dif_pos h]
  exact Classical.choose_spec (least_of h)

theorem code_sound : ∀ {c : Code} {ac : ACode}, trCode P k c = some ac → ∀ {Q : AExit → Frame → Heap → Prop} {n : Nat} {μ0 μ : Mu} {a : Act} {σ : Frame} {m : Heap} {w : World},
    awp P ac Q σ m → HRel B w0 μ m w → FRel μ m.length σ a.tmps k → a.defers = [] → n ≤ m.length → Agree n μ0 μ → c.wp P (Lift B w0 k n μ0 Q) a w := by
  intro c
  induction c with
  | skip =>
    intro ac ht Q n μ0 μ a σ m w h hw hf hd hn hag
    cases ht
    exact wp_skip ⟨.normal, σ, m, μ, h, rfl, hw, hf, hd, hn, hag⟩
  | region id ops draw =>
    intro ac ht Q n μ0 μ a σ m w h hw hf hd hn hag
    exact region_sound ht h hw hf hd hn hag
  | seq x y ihx ihy =>
    intro ac ht Q n μ0 μ a σ m w h hw hf hd hn hag
    simp only [trCode, Option.bind_eq_bind] at ht
    obtain ⟨ax, hx, ht⟩ := some_bind ht
    obtain ⟨ay, hy, ht⟩ := some_bind ht
    cases ht
    refine wp_seq (wp_mono (ihx hx (show awp P ax (AExit.thn (awp P ay Q) Q) σ m from h) hw hf hd hn hag) fun e a' w' => ?_)
    rintro ⟨e', σ', m', μ', hQ, rfl, hw', hf', hd', hn', hag'⟩
    cases e' with
    | normal => exact ihy hy hQ hw' hf' hd' hn' hag'
    | exit i => exact ⟨.exit i, σ', m', μ', hQ, rfl, hw', hf', hd', hn', hag'⟩
    | ret => exact ⟨.ret, σ', m', μ', hQ, rfl, hw', hf', hd', hn', hag'⟩
  | cond c x y ihx ihy =>
    intro ac ht Q n μ0 μ a σ m w h hw hf hd hn hag
    simp only [trCode, Option.bind_eq_bind] at ht
    obtain ⟨pc, hc, ht⟩ := some_bind ht
    obtain ⟨ax, hx, ht⟩ := some_bind ht
    obtain ⟨ay, hy, ht⟩ := some_bind ht
    cases ht
    simp only [awp] at h
    split at h
    · rename_i t ht
      have h1 := (ev_spec hf hc ht).1
      refine wp_cond_split (t := t) h1 (fun e => ihx hx (h.1 e) hw hf hd hn hag) (fun e => ihy hy (h.2 e) hw hf hd hn hag)
    · exact h.elim
  | block id x ihx =>
    intro ac ht Q n μ0 μ a σ m w h hw hf hd hn hag
    simp only [trCode, Option.bind_eq_bind] at ht
    obtain ⟨ax, hx, ht⟩ := some_bind ht
    cases ht
    refine wp_block (wp_mono (ihx hx (show awp P ax (AExit.blk id Q) σ m from h) hw hf hd hn hag) fun e a' w' => ?_)
    rintro ⟨e', σ', m', μ', hQ, rfl, hw', hf', hd', hn', hag'⟩
    cases e' with
    | normal => exact ⟨.normal, σ', m', μ', hQ, rfl, hw', hf', hd', hn', hag'⟩
    | exit i =>
      simp only [AExit.blk] at hQ
      show Exit.inBlock id _ (.exit i) a' w'
      simp only [Exit.inBlock]
      split
      · rename_i e; simp only [e, if_true] at hQ; exact ⟨.normal, σ', m', μ', hQ, rfl, hw', hf', hd', hn', hag'⟩
      · rename_i e; simp only [e, if_false] at hQ; exact ⟨.exit i, σ', m', μ', hQ, rfl, hw', hf', hd', hn', hag'⟩
    | ret => exact ⟨.ret, σ', m', μ', hQ, rfl, hw', hf', hd', hn', hag'⟩
  | loop x ihx =>
    intro ac ht Q n μ0 μ a σ m w h hw hf hd hn hag
    simp only [trCode, Option.bind_eq_bind] at ht
    obtain ⟨ax, hx, ht⟩ := some_bind ht
    cases ht
    obtain ⟨L, N, h⟩ := h
    let J : Nat → Act → World → Prop := fun j a w => ∃ σ m μ, aloop (awp P ax) L Q j σ m ∧ HRel B w0 μ m w ∧ FRel μ m.length σ a.tmps k ∧ a.defers = [] ∧ n ≤ m.length ∧ Agree n μ0 μ
    refine wp_loop (fun a w => ∃ j, J j a w) (fun a w => leastOf fun j => J j a w) ⟨N, σ, m, μ, h, hw, hf, hd, hn, hag⟩ ?_
    intro a1 w1 hI
    have hJ := (leastOf_spec hI).1
    generalize (leastOf fun j => J j a1 w1) = j at hJ
    obtain ⟨σ1, m1, μ1, h1, hw1, hf1, hd1, hn1, hag1⟩ := hJ
    cases j with
    | zero => exact h1.elim
    | succ j =>
      have := ihx hx (Q := AExit.thn (fun σ' m' => aloop (awp P ax) L Q j σ' m') Q) (show awp P ax _ (σ1.keep L) m1 from h1) hw1 (hf1.keep L) hd1 hn1 hag1
      refine wp_mono this fun e a' w' => ?_
      rintro ⟨e', σ', m', μ', hQ, rfl, hw', hf', hd', hn', hag'⟩
      cases e' with
      | normal =>
        have hJ' : J j a' w' := ⟨σ', m', μ', hQ, hw', hf', hd', hn', hag'⟩
        exact ⟨⟨j, hJ'⟩, Nat.lt_succ_of_le ((leastOf_spec ⟨j, hJ'⟩).2 j hJ')⟩
      | exit i => exact ⟨.exit i, σ', m', μ', hQ, rfl, hw', hf', hd', hn', hag'⟩
      | ret => exact ⟨.ret, σ', m', μ', hQ, rfl, hw', hf', hd', hn', hag'⟩
  | exit id =>
    intro ac ht Q n μ0 μ a σ m w h hw hf hd hn hag
    cases ht
    exact wp_exit ⟨.exit id, σ, m, μ, h, rfl, hw, hf, hd, hn, hag⟩
  | ret =>
    intro ac ht Q n μ0 μ a σ m w h hw hf hd hn hag
    cases ht
    exact wp_ret ⟨.ret, σ, m, μ, h, rfl, hw, hf, hd, hn, hag⟩
  | _ =>
    intro ac ht
    simp only [trCode] at ht
    cases ht

end

/-! ### Functions -/

def resOf (σ : Frame) : List Nat → Option (List AV)
  | [] => some []
  | t :: l => match σ.get t, resOf σ l with
    | some (.one v), some vs => some (v :: vs)
    | _, _ => none

/-- What a function hands back. -/
def retPost (res : List Nat) (R : XV → Heap → Prop) : AExit → Frame → Heap → Prop
  | .normal, σ, m | .ret, σ, m => match res with
    | [t] => match σ.get t with
      | some x => R x m
      | none => False
    | l => match resOf σ l with
      | some vs => R (.tup vs) m
      | none => False
  | .exit _, _, _ => False

def argFrame : Nat → List XV → Frame
  | _, [] => []
  | i, x :: l => (i, x) :: argFrame (i + 1) l

theorem argFrame_get : ∀ (xs : List XV) (i t : Nat) (x : XV), (argFrame i xs).get t = some x → i ≤ t ∧ xs[t - i]? = some x
  | [], i, t, x, h => by cases h
  | y :: xs, i, t, x, h => by
    simp only [argFrame, Frame.get] at h
    by_cases e : i = t
    · subst e; simp at h; exact ⟨Nat.le_refl _, by simp [h]⟩
    · rw [beq_false_of_ne e] at h
      obtain ⟨h1, h2⟩ := argFrame_get xs (i + 1) t x h
      refine ⟨by omega, ?_⟩
      have : t - i = (t - (i + 1)) + 1 := by omega
      rw [this, List.getElem?_cons_succ]
      exact h2

theorem resOf_spec {μ : Mu} {len k : Nat} {σ : Frame} {tmps : Array Value} (hf : FRel μ len σ tmps k) : ∀ {l : List Nat} {vs : List AV}, resOf σ l = some vs →
    l.map (fun t => tmps.getD t undef) = vs.map (Abs.conc μ) ∧ ∀ v ∈ vs, v.ok μ len
  | [], vs, h => by cases h; exact ⟨rfl, by simp⟩
  | t :: l, vs, h => by
    simp only [resOf] at h
    split at h
    · rename_i v us hv hus
      cases h
      obtain ⟨_, h2, h3⟩ := hf.slot t _ hv
      obtain ⟨h4, h5⟩ := resOf_spec hf hus
      refine ⟨?_, fun u hu => ?_⟩
      · rw [List.map_cons, List.map_cons, h4, Array.getD_eq_getD_getElem?, h3]; rfl
      · rcases List.mem_cons.1 hu with rfl | hu
        · exact h2
        · exact h5 u hu
    · cases h

theorem trRes_spec : ∀ {l : List ResultVar} {r : List Nat}, trRes l = some r → l = r.map ResultVar.tmp
  | [], r, h => by cases h; rfl
  | .tmp t :: l, r, h => by
    simp only [trRes, Option.bind_eq_bind] at h
    obtain ⟨q, hq, h⟩ := some_bind h
    cases h
    rw [List.map_cons, ← trRes_spec hq]
  | .cell _ _ :: l, r, h => by cases h

theorem run_mapM_tmp {P : Program} {tmps : Array Value} {w : World} (g : ResultVar → Sem Value) (hg : ∀ t, g (.tmp t) = pure (tmps.getD t undef)) :
    ∀ (l : List Nat), ((l.map ResultVar.tmp).mapM g).run P w = .ok (l.map fun t => tmps.getD t undef) w
  | [] => by simp
  | t :: l => by simp only [List.map_cons, List.mapM_cons, Sem.run_bind, hg, Sem.run_pure, Result.andThen_ok, run_mapM_tmp g hg l]

theorem run_results {P : Program} {fn : Func} {r : List Nat} (h : fn.results.toList = r.map ResultVar.tmp) (tmps : Array Value) (w : World) :
    (results fn tmps).run P w = .ok (match r.map (fun t => tmps.getD t undef) with | [v] => v | l => .tuple l.toArray) w := by
  have h' : fn.results = (r.map ResultVar.tmp).toArray := by rw [← h]
  unfold results
  rw [h', Array.mapM_eq_mapM_toList]
  simp only [Sem.run_bind, Sem.run_map]
  rw [run_mapM_tmp _ (fun t => rfl) r]
  simp only [Result.andThen_ok, Sem.run_pure]
  congr 1
  cases r with
  | nil => rfl
  | cons t r => cases r with
    | nil => rfl
    | cons u r => simp

/-- **A function's contract, from a walk of the abstract machine.** -/
theorem acalls_of_awp {P : Program} {f : FuncId} {af : AFn} (ht : trFn P f = some af) {args : List XV} {m : Heap} {R : XV → Heap → Prop} (hlen : args.length ≤ af.n)
    (h : awp P af.code (retPost af.res R) (argFrame 0 args) m) : ACalls P f args m R := by
  unfold trFn at ht
  split at ht
  · rename_i fn hfn
    split at ht
    · rename_i c hc
      simp only [Option.bind_eq_bind] at ht
      obtain ⟨code, hcode, ht⟩ := some_bind ht
      obtain ⟨res, hres, ht⟩ := some_bind ht
      cases ht
      simp only at h hlen
      intro B w0 μ w hw hok
      have hf : FRel μ m.length (argFrame 0 args) ((args.map (concX μ)).toArray ++ Array.replicate (fn.ntmps - (args.map (concX μ)).toArray.size) undef) fn.ntmps := by
        refine ⟨by simp; omega, fun t x hx => ?_⟩
        obtain ⟨_, h2⟩ := argFrame_get args 0 t x hx
        rw [Nat.sub_zero] at h2
        have hlt : t < args.length := (List.getElem?_eq_some_iff.1 h2).1
        refine ⟨by omega, hok x (List.mem_of_getElem? h2), ?_⟩
        rw [Array.getElem?_append_left (by simpa using hlt)]
        simp [h2]
      refine calls_of_wp hfn hc (wp_mono (code_sound hcode h hw (a := ⟨_, []⟩) hf rfl (Nat.le_refl _) (Agree.refl _ μ)) ?_)
      rintro e a w' ⟨e', σ', m', μ', hQ, rfl, hw', hf', hd', hn', hag'⟩
      have hrun := run_results (P := P) (trRes_spec hres) a.tmps w'
      have fin : ∀ (e'' : Exit), (e'' = .normal ∨ e'' = .ret) → retPost res R .ret σ' m' → bodyPost P fn (fun e w' => ∃ x m' μ', R x m' ∧ e = .returned (concX μ' x) ∧ x.ok μ' m'.length ∧ HRel B w0 μ' m' w' ∧ m.length ≤ m'.length ∧ Agree m.length μ μ') e'' a w' := by
        intro e'' he'' hQ
        simp only [retPost] at hQ
        have key : ∃ x, R x m' ∧ x.ok μ' m'.length ∧ (match res.map (fun t => a.tmps.getD t undef) with | [v] => v | l => .tuple l.toArray) = concX μ' x := by
          clear hrun hres
          cases res with
          | nil => exact ⟨_, hQ, by simp [XV.ok], rfl⟩
          | cons t res => cases res with
            | nil =>
              simp only at hQ
              split at hQ
              · rename_i x hx
                obtain ⟨_, h2, h3⟩ := hf'.slot t x hx
                refine ⟨x, hQ, h2, ?_⟩
                simp only [List.map_cons, List.map_nil]
                rw [Array.getD_eq_getD_getElem?, h3]
                rfl
              · exact hQ.elim
            | cons u res =>
              simp only at hQ
              split at hQ
              · rename_i vs hvs
                obtain ⟨h4, h5⟩ := resOf_spec hf' hvs
                refine ⟨_, hQ, h5, ?_⟩
                show _ = Value.tuple (vs.map (Abs.conc μ')).toArray
                rw [← h4]
                rfl
              · exact hQ.elim
        obtain ⟨x, hR, hx, hv⟩ := key
        rw [hv] at hrun
        rcases he'' with rfl | rfl <;> exact ⟨hd', _, hrun, x, m', μ', hR, rfl, hx, hw', hn', hag'⟩
      cases e' with
      | normal => exact fin _ (.inl rfl) hQ
      | exit i => exact hQ.elim
      | ret => exact fin _ (.inr rfl) hQ
    · cases ht
  · cases ht

/-- What a function hands back whose result is a variable of many cells. -/
def retPostA (res : Nat × Nat) (R : XV → Heap → Prop) : AExit → Frame → Heap → Prop
  | .normal, σ, m | .ret, σ, m => match σ.get res.1 with
    | some (.one (.ptr id off)) => onCells (m.cells id off res.2) fun x => R x m
    | _ => False
  | .exit _, _, _ => False

theorem run_resultsA {P : Program} {fn : Func} {a t n : Nat} (h : fn.results.toList = [.cell a t]) (ht : aggN P t = some n) {tmps : Array Value} {w : World} {ad : Addr} (ha : tmps.getD a undef = .pointer (some ad)) {cs : List Value}
    (hl : (loadCells ad n).run P w = .ok cs.toArray w) : (results fn tmps).run P w = .ok (.agg cs.toArray) w := by
  have h' : fn.results = #[.cell a t] := by rw [← Array.toList_inj]; exact h
  obtain ⟨g1, g2, _⟩ := aggN_spec ht w
  unfold results
  rw [h', Array.mapM_eq_mapM_toList]
  have hv : (do loadVar t (← asAddr (tmps.getD a undef))).run P w = .ok (.agg cs.toArray) w := by
    rw [ha]
    simp [asAddr, loadVar, g1, g2, hl]
  simp only [List.mapM_cons, List.mapM_nil, Sem.run_bind, Sem.run_map, hv, Result.andThen_ok, Sem.run_pure]
  rfl

theorem acalls_of_awpA {P : Program} {f : FuncId} {af : AFnA} (ht : trFnA P f = some af) {args : List XV} {m : Heap} {R : XV → Heap → Prop} (hlen : args.length ≤ af.n)
    (h : awp P af.code (retPostA af.res R) (argFrame 0 args) m) : ACalls P f args m R := by
  unfold trFnA at ht
  split at ht
  · rename_i fn hfn
    split at ht
    · rename_i c hc
      simp only [Option.bind_eq_bind] at ht
      obtain ⟨code, hcode, ht⟩ := some_bind ht
      obtain ⟨res, hres, ht⟩ := some_bind ht
      cases ht
      simp only at h hlen
      intro B w0 μ w hw hok
      have hf : FRel μ m.length (argFrame 0 args) ((args.map (concX μ)).toArray ++ Array.replicate (fn.ntmps - (args.map (concX μ)).toArray.size) undef) fn.ntmps := by
        refine ⟨by simp; omega, fun t x hx => ?_⟩
        obtain ⟨_, h2⟩ := argFrame_get args 0 t x hx
        rw [Nat.sub_zero] at h2
        have hlt : t < args.length := (List.getElem?_eq_some_iff.1 h2).1
        refine ⟨by omega, hok x (List.mem_of_getElem? h2), ?_⟩
        rw [Array.getElem?_append_left (by simpa using hlt)]
        simp [h2]
      refine calls_of_wp hfn hc (wp_mono (code_sound hcode h hw (a := ⟨_, []⟩) hf rfl (Nat.le_refl _) (Agree.refl _ μ)) ?_)
      rintro e a w' ⟨e', σ', m', μ', hQ, rfl, hw', hf', hd', hn', hag'⟩
      have fin : ∀ (e'' : Exit), (e'' = .normal ∨ e'' = .ret) → retPostA res R .ret σ' m' → bodyPost P fn (fun e w' => ∃ x m' μ', R x m' ∧ e = .returned (concX μ' x) ∧ x.ok μ' m'.length ∧ HRel B w0 μ' m' w' ∧ m.length ≤ m'.length ∧ Agree m.length μ μ') e'' a w' := by
        intro e'' he'' hQ
        simp only [retPostA] at hQ
        unfold trResA at hres
        split at hres
        · rename_i ra rt hrs
          obtain ⟨n, hn, rfl⟩ := some_map hres
          simp only at hQ
          split at hQ
          · rename_i id off hp
            obtain ⟨_, h2, h3⟩ := hf'.slot ra _ hp
            unfold onCells Heap.cells at hQ
            cases hr : m'[id]? with
            | none => simp only [hr] at hQ
            | some r =>
              simp only [hr] at hQ
              by_cases hlt : off + n ≤ r.vals.len
              · simp only [hlt, if_true] at hQ
                have hl := run_loadCells_list (P := P) w' ⟨(μ' id).blk, (μ' id).off + off, none⟩ ((r.vals.cells off n).map (Abs.conc μ')) (fun j v hj => by
                  rw [List.getElem?_map] at hj
                  obtain ⟨u, hu, rfl⟩ := some_map hj
                  have hjn : j < n := by have := (List.getElem?_eq_some_iff.1 hu).1; rwa [cells_len] at this
                  rw [cells_get _ _ _ hjn] at hu
                  cases hu
                  rw [add_lit, Nat.add_assoc]
                  exact (hw'.rows id r hr).cell (by omega))
                rw [List.length_map, cells_len] at hl
                have hrun := run_resultsA hrs hn (tmps := a.tmps) (w := w') (ad := ⟨(μ' id).blk, (μ' id).off + off, none⟩) (by rw [Array.getD_eq_getD_getElem?, h3]; rfl) hl
                have hx : (XV.agg (r.vals.cells off n)).ok μ' m'.length := fun v hv => by
                  obtain ⟨i, hi, rfl⟩ := List.mem_map.1 hv
                  have := List.mem_range.1 hi
                  exact (hw'.rows id r hr).ok _ (by omega)
                rcases he'' with rfl | rfl <;> exact ⟨hd', _, hrun, _, m', μ', hQ, rfl, hx, hw', hn', hag'⟩
              · simp only [hlt, if_false] at hQ
          · exact hQ.elim
        · cases hres
      cases e' with
      | normal => exact fin _ (.inl rfl) hQ
      | exit i => exact hQ.elim
      | ret => exact fin _ (.inr rfl) hQ
    · cases ht
  · cases ht

end Go.Abs
