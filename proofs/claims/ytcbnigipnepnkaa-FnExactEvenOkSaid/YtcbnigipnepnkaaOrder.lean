/- Statements that draw their order: moves float, what leaves the world alone comes next, the rest is a chain. Own work; no condition. -/
import Derived.StillTail
namespace Go.Abs

/-- Nothing is asked of a panic. -/
def NoPanic (Q : Exit → Act → World → Prop) : Prop := ∀ c a w, ¬ Q (.panic c) a w

/-- The moves ahead of n that nothing up to n waits for; all others. -/
def sunk (ops : Array Oper) (n i : Nat) : Bool := (List.range (n + 1)).any fun j => decide (i < j) && Region.waitsFor .any ops j i
def floatF (ops : Array Oper) (n : Nat) : List Nat := (List.range n).filter fun i => !sunk ops n i
def floatH (ops : Array Oper) (n : Nat) : List Nat := (List.range n).filter fun i => sunk ops n i
def isMove (ops : Array Oper) (i : Nat) : Bool :=
  match ops[i]? with
  | some o => (match o.op with | .move _ => true | _ => false) && o.guard.isNone
  | none => false
def orderB (ops : Array Oper) : List Nat → Array Bool → Bool
  | [], _ => true
  | k :: L, listed => (Region.ready .any ops listed).contains k && Region.free .any ops listed k && orderB ops L (listed.setIfInBounds k true)
def listAll : List Nat → Array Bool → Array Bool
  | [], listed => listed
  | k :: L, listed => listAll L (listed.setIfInBounds k true)
def floatB (ops : Array Oper) (n : Nat) : Bool :=
  Region.noSelect ops && (decide (n < ops.size) && ((floatF ops n).all (isMove ops) && (orderB ops (floatF ops n) (Array.replicate ops.size false) && (orderB ops (floatH ops n) (listAll (floatF ops n) (Array.replicate ops.size false)) &&
    (Region.chainB .any ops n && (Region.seqB .any ops (ops.size - n) n (listAll (floatH ops n) (listAll (floatF ops n) (Array.replicate ops.size false))) && decide ((floatF ops n).length + (floatH ops n).length = n)))))))
def opsAt (ops : Array Oper) (L : List Nat) : List Oper := L.filterMap (ops[·]?)

section
variable {P : Program} {ops : Array Oper} {Q : Exit → Act → World → Prop} {w : World}

theorem upon_put {oj : Oper} {a : Act} {K : Act → World → Prop} {d : Option Tmp} {v : Value} {x : Operand} (hnp : NoPanic Q) (hne : ∀ t, d = some t → oj.dst ≠ some t) (hev : ∀ u, (a.put oj.dst u).eval x = v)
    (r : Result Next) (h : oj.upon P (a.put d v) K Q r) : oj.upon P a (fun a' w' => a'.eval x = v ∧ K (a'.put d v) w') Q r := by
  have comm : ∀ u, (a.put d v).put oj.dst u = (a.put oj.dst u).put d v := fun u => Act.put_comm a v u hne
  cases r with
  | ok n w' =>
    cases n <;> simp only [Oper.upon] at h ⊢
    case value u => exact ⟨hev u, comm u ▸ h⟩
    case skip => exact ⟨hev _, comm _ ▸ h⟩
    case defer df =>
      refine ⟨?_, ?_⟩
      · have := hev undef
        cases hx : oj.dst with
        | none => rw [hx] at this; exact this
        | some t => rw [hx] at this; exact this
      · rw [Act.put_defers] at h
        rw [Act.put_comm _ v undef hne] at h
        exact h
    case enter f args =>
      refine Calls.mono h fun e w'' he => ?_
      cases e with
      | returned u => exact ⟨hev u, comm u ▸ he⟩
      | panicked c => exact absurd he (hnp _ _ _)
      | outgrown => exact he
    case row row args => exact Rows.mono h fun u w'' he => ⟨hev u, comm u ▸ he⟩
  | halt y w' =>
    cases y <;> simp only [Oper.upon] at h
    case panic v => exact absurd h (hnp _ _ _)

theorem wpOp_put {j : Nat} {oi oj : Oper} {x : Operand} {a : Act} {v : Value} {K : Act → World → Prop} (hnp : NoPanic Q) (hj : ops[j]? = some oj) (hap : oi.apart ops oj = true) (hx : oi.op = .move x) (hsj : ∀ cs b, oj.op ≠ .select cs b) (hv : a.eval x = v)
    (h : wpOp P ops Q j K (a.put oi.dst v) w) : wpOp P ops Q j (fun a' w' => a'.eval x = v ∧ K (a'.put oi.dst v) w') a w := by
  obtain ⟨h1, h2, h3⟩ := Oper.apart_spec hap
  have hev : ∀ u, (a.put oj.dst u).eval x = v := fun u => by
    rw [Act.eval_put fun d hd hxd => h3 d hd (by subst hxd; exact List.mem_append_left _ (List.mem_filterMap.2 ⟨.tmp d, by simp [hx, Op.operands], rfl⟩))]
    exact hv
  unfold wpOp at *
  simp only [hj] at *
  rw [wanted_put oj a oi.dst v h1] at h
  split
  · rename_i hw
    simp only [hw, if_true] at h
    rcases h with h | ⟨h, hl⟩
    · left
      unfold Oper.wp at *
      rw [execOp_put oj hsj a oi.dst v h1] at h
      exact upon_put hnp h2 hev _ h
    · right
      unfold Oper.asks at *
      rw [execOp_put oj hsj a oi.dst v h1] at h
      exact ⟨h, hl⟩
  · rename_i hw
    simp only [hw] at h
    exact ⟨hev _, by rw [Act.put_comm a v undef h2] at h; exact h⟩

/-- A move that may come up now may be taken first. -/
theorem wpAny_float {i : Nat} {oi : Oper} {x : Operand} (hnp : NoPanic Q) (hi : ops[i]? = some oi) (hx : oi.op = .move x) (hg : oi.guard = none) (hsel : ∀ (j : Nat) (o : Oper) cs b, ops[j]? = some o → o.op ≠ .select cs b) :
    ∀ (fuel : Nat) (listed : Array Bool) (a : Act) (w : World) (v : Value),
      (∀ j oj, ops[j]? = some oj → j ≠ i → listed.getD j true = false → (∀ e ∈ oj.after, Region.binds .any e = true → e.on ≠ i) → oi.apart ops oj = true) →
      i ∈ Region.ready .any ops listed → a.eval x = v →
      wpAny P .any ops Q fuel (listed.setIfInBounds i true) (a.put oi.dst v) w → wpAny P .any ops Q (fuel + 1) listed a w := by
  have self : ∀ (K : Act → World → Prop) (a : Act) (w : World) (v : Value), a.eval x = v → K (a.put oi.dst v) w → wpOp P ops Q i K a w := fun K a w v hv hK => by
    unfold wpOp
    simp only [hi]
    have hw : Region.wanted oi (yielded ops a.tmps) = true := by simp [Region.wanted, hg]
    rw [hw]
    simp only [if_true]
    left
    unfold Oper.wp
    simp only [execOp, hx, hv]
    exact hK
  intro fuel
  induction fuel with
  | zero =>
    intro listed a w v _ hr hv H
    refine ⟨fun h => (by rw [h] at hr; cases hr), fun j hj => ?_⟩
    by_cases hji : j = i
    · subst hji; exact self _ a w v hv H
    · have := ready_mono hj hji
      rw [H.1] at this
      cases this
  | succ fuel ih =>
    intro listed a w v hfree hr hv H
    refine ⟨fun h => (by rw [h] at hr; cases hr), fun j hj => ?_⟩
    by_cases hji : j = i
    · subst hji; exact self _ a w v hv H
    · have h1 := H.2 j (ready_mono hj hji)
      obtain ⟨hjun, oj, hoj, hall⟩ := mem_ready.1 hj
      have hnot : ∀ e ∈ oj.after, Region.binds .any e = true → e.on ≠ i := fun e he hb heq => by
        have h1 := hall e he hb
        rw [heq, getD_both (mem_ready.1 hr).1] at h1
        cases h1
      have h2 := wpOp_put hnp hoj (hfree j oj hoj hji hjun hnot) hx (fun cs b => hsel j oj cs b hoj) hv h1
      refine wpOp_mono (fun a' w' h3 => ih (listed.setIfInBounds j true) a' w' v (fun k ok hk hki hun hno => hfree k ok hk hki ?_ hno) (ready_mono hr (Ne.symm hji)) h3.1 ?_) h2
      · by_cases hjk : j = k
        · subst hjk; exact hjun
        · rw [getD_set_ne true hjk] at hun; exact hun
      · rw [Array.setIfInBounds_comm _ _ hji]
        exact h3.2

theorem wpAny_floats (hnp : NoPanic Q) (hs : Region.noSelect ops = true) : ∀ (F : List Nat) (fuel : Nat) (listed : Array Bool) (a : Act), F.all (isMove ops) = true → orderB ops F listed = true →
    wpStill P ops w (fun a' => wpAny P .any ops Q fuel (listAll F listed) a' w) (opsAt ops F) a → wpAny P .any ops Q (F.length + fuel) listed a w
  | [], fuel, listed, a, _, _, h => by rw [List.length_nil, Nat.zero_add]; exact h
  | k :: F, fuel, listed, a, hF, hO, h => by
    simp only [List.all_cons, Bool.and_eq_true] at hF
    simp only [orderB, Bool.and_eq_true] at hO
    obtain ⟨⟨hr, hf⟩, hO⟩ := hO
    have hm := hF.1
    unfold isMove at hm
    split at hm
    · rename_i o ho
      simp only [Bool.and_eq_true] at hm
      obtain ⟨hm1, hm2⟩ := hm
      split at hm1
      · rename_i x hx
        have hg : o.guard = none := by simpa using hm2
        have hops : opsAt ops (k :: F) = o :: opsAt ops F := by simp [opsAt, ho]
        rw [hops] at h
        have hw : Region.wanted o (yielded ops a.tmps) = true := by simp [Region.wanted, hg]
        simp only [wpStill, hw, if_true, Oper.still, execOp, hx] at h
        have h' : wpStill P ops w (fun a' => wpAny P .any ops Q fuel (listAll (k :: F) listed) a' w) (opsAt ops F) (a.put o.dst (a.eval x)) := h.2
        rw [show (k :: F).length + fuel = (F.length + fuel) + 1 by simp only [List.length_cons]; omega]
        exact wpAny_float hnp ho hx hg (Region.noSelect_spec hs) (F.length + fuel) listed a w _ (Region.free_spec ho hf) (by simpa using hr) rfl (wpAny_floats hnp hs F fuel _ _ hF.2 hO h')
      · cases hm1
    · cases hm

/-- Whatever of what comes ahead of n is not listed is waited for. -/
def Sunk (ops : Array Oper) (n : Nat) (listed : Array Bool) : Prop := ∀ i, i < n → listed.getD i true = false → sunk ops n i = true
theorem Sunk.set {n k : Nat} {listed : Array Bool} (h : Sunk ops n listed) : Sunk ops n (listed.setIfInBounds k true) := fun i hi hun => h i hi (by
  by_cases hk : k = i
  · subst hk
    rcases Nat.lt_or_ge k listed.size with h' | h'
    · simp [h'] at hun
    · simp at hun
  · rw [getD_set_ne true hk] at hun; exact hun)

theorem tail_late {n : Nat} {listed : Array Bool} (hs : Sunk ops n listed) (hc : Region.chainB .any ops n = true) (hn : n < ops.size) (inv : HeadInv .any ops n listed) :
    ∀ (d i : Nat), n - i = d → i < n → listed.getD i true = false → ∀ t, n ≤ t → t ∉ Region.ready .any ops listed := by
  intro d
  induction d using Nat.strongRecOn with
  | _ d ih =>
    intro i hd hi hun t ht hr
    obtain ⟨_, ot, hot, hall⟩ := mem_ready.1 hr
    have htl : t < ops.size := (Array.getElem?_eq_some_iff.1 hot).1
    rcases Nat.lt_or_ge n t with htn | htn
    · have h1 := List.all_eq_true.1 hc t (List.mem_range.2 htl)
      simp only [Bool.or_eq_true, decide_eq_true_eq] at h1
      rcases h1 with h1 | h1
      · omega
      · obtain ⟨o', ho', e, he, hb, hon⟩ := Region.waitsFor_spec h1
        obtain rfl : o' = ot := Option.some.inj (ho'.symm.trans hot)
        have h2 := hall e he hb
        rw [hon, getD_both (inv.tail (t - 1) (by omega) (by omega))] at h2
        cases h2
    · obtain rfl : t = n := by omega
      obtain ⟨j, hj, hj2⟩ := List.any_eq_true.1 (hs i hi hun)
      simp only [Bool.and_eq_true, decide_eq_true_eq] at hj2
      obtain ⟨oj, hoj, e, he, hb, hon⟩ := Region.waitsFor_spec hj2.2
      have hjl := List.mem_range.1 hj
      rcases Nat.lt_or_ge j t with hjt | hjt
      · cases hl : listed.getD j false with
        | true =>
          have h2 := inv.closed j oj hoj hl e he hb
          rw [hon, getD_both hun] at h2
          cases h2
        | false => exact ih (t - j) (by omega) j rfl hjt (getD_in (by rw [inv.size]; omega) hl) t (Nat.le_refl _) hr
      · obtain rfl : j = t := by omega
        obtain rfl : oj = ot := Option.some.inj (hoj.symm.trans hot)
        have h2 := hall e he hb
        rw [hon, getD_both hun] at h2
        cases h2

theorem head_first {n i : Nat} {oi : Oper} {v : Value} {L : Array Bool → Act → Prop} (hi : ops[i]? = some oi) (hsel : ∀ (j : Nat) (o : Oper) cs b, ops[j]? = some o → o.op ≠ .select cs b) (hc : Region.chainB .any ops n = true) (hn : n < ops.size) (hin : i < n)
    (hdone : ∀ listed a, L listed a → ∀ j ∈ Region.ready .any ops listed, n ≤ j) :
    ∀ (f : Nat) (listed : Array Bool) (a : Act), HeadInv .any ops n listed → Sunk ops n listed →
      (∀ j oj, ops[j]? = some oj → j ≠ i → listed.getD j true = false → (∀ e ∈ oj.after, Region.binds .any e = true → e.on ≠ i) → oi.apart ops oj = true) →
      i ∈ Region.ready .any ops listed → YieldsAt P ops w oi v a →
      wpAnyL P .any ops w n L f (listed.setIfInBounds i true) (a.put oi.dst v) → wpAnyL P .any ops w n L (f + 1) listed a := by
  intro f
  induction f with
  | zero =>
    intro listed a inv hs _ hr hy H
    refine ⟨fun h => (by rw [h] at hr; cases hr), fun j hj => ?_⟩
    have hjn : j < n := Nat.lt_of_not_le fun h => absurd hj (tail_late hs hc hn inv _ i rfl hin (mem_ready.1 hr).1 j h)
    refine ⟨hjn, ?_⟩
    by_cases hji : j = i
    · subst hji; exact hy.stOp hi H
    · have := hdone _ _ H j (ready_mono hj hji)
      omega
  | succ f ih =>
    intro listed a inv hs hfree hr hy H
    have hun := (mem_ready.1 hr).1
    refine ⟨fun h => (by rw [h] at hr; cases hr), fun j hj => ?_⟩
    have hjn : j < n := Nat.lt_of_not_le fun h => absurd hj (tail_late hs hc hn inv _ i rfl hin hun j h)
    refine ⟨hjn, ?_⟩
    by_cases hji : j = i
    · subst hji; exact hy.stOp hi H
    · have h1 := (H.2 j (ready_mono hj hji)).2
      obtain ⟨hjun, oj, hoj, hall⟩ := mem_ready.1 hj
      have hnot : ∀ e ∈ oj.after, Region.binds .any e = true → e.on ≠ i := fun e he hb heq => by
        have h1 := hall e he hb
        rw [heq, getD_both hun] at h1
        cases h1
      have h2 := stOp_put hoj (hfree j oj hoj hji hjun hnot) (fun cs b => hsel i oi cs b hi) (fun cs b => hsel j oj cs b hoj) hy h1
      refine stOp_mono (fun a' h3 => ih (listed.setIfInBounds j true) a' (inv.set hj hjn) hs.set (fun k ok hk hki hun hno => hfree k ok hk hki ?_ hno) (ready_mono hr (Ne.symm hji)) h3.1 ?_) h2
      · by_cases hjk : j = k
        · subst hjk; exact hjun
        · rw [getD_set_ne true hjk] at hun; exact hun
      · rw [Array.setIfInBounds_comm _ _ hji]
        exact h3.2

theorem head_order {n g : Nat} {Lq : Act → Prop} (hsel : Region.noSelect ops = true) (hc : Region.chainB .any ops n = true) (hn : n < ops.size) :
    ∀ (H : List Nat) (listed : Array Bool) (a : Act), (∀ k ∈ H, k < n) → HeadInv .any ops n listed → Sunk ops n listed → orderB ops H listed = true → Region.seqB .any ops g n (listAll H listed) = true →
    wpStill P ops w Lq (opsAt ops H) a → wpAnyL P .any ops w n (fun listed' a' => Region.seqB .any ops g n listed' = true ∧ Lq a') H.length listed a
  | [], listed, a, _, _, _, _, hB, h => ⟨hB, h⟩
  | k :: H, listed, a, hlt, inv, hs, hO, hB, h => by
    simp only [orderB, Bool.and_eq_true] at hO
    obtain ⟨⟨hr, hf⟩, hO⟩ := hO
    have hr' : k ∈ Region.ready .any ops listed := by simpa using hr
    obtain ⟨_, o, ho, _⟩ := mem_ready.1 hr'
    have hops : opsAt ops (k :: H) = o :: opsAt ops H := by simp [opsAt, ho]
    rw [hops] at h
    have hst : stOp P ops w k (wpStill P ops w Lq (opsAt ops H)) a := by unfold stOp; simp only [ho]; exact h
    obtain ⟨v, hy, hK⟩ := yieldsAt_of_stOp ho hst
    have hkn := hlt k (by simp)
    exact head_first ho (Region.noSelect_spec hsel) hc hn hkn (fun listed' a' hL => seqB_ready hL.1) H.length listed a inv hs (Region.free_spec ho hf) hr' hy
      (head_order hsel hc hn H _ _ (fun k hk => hlt k (by simp [hk])) (inv.set hr' hkn) hs.set hO hB hK)

theorem listAll_spec {n : Nat} : ∀ (L : List Nat) (listed : Array Bool), (∀ k ∈ L, k < n) → orderB ops L listed = true → HeadInv .any ops n listed → HeadInv .any ops n (listAll L listed) ∧ (∀ i, (listAll L listed).getD i true = false → i ∉ L ∧ listed.getD i true = false)
  | [], listed, _, _, inv => ⟨inv, fun i h => ⟨by simp, h⟩⟩
  | k :: L, listed, hlt, hO, inv => by
    simp only [orderB, Bool.and_eq_true] at hO
    obtain ⟨⟨hr, _⟩, hO⟩ := hO
    have hr' : k ∈ Region.ready .any ops listed := by simpa using hr
    obtain ⟨h1, h2⟩ := listAll_spec L (listed.setIfInBounds k true) (fun k hk => hlt k (by simp [hk])) hO (inv.set hr' (hlt k (by simp)))
    refine ⟨h1, fun i hi => ?_⟩
    obtain ⟨h3, h4⟩ := h2 i hi
    have hne : k ≠ i := fun e => by
      subst e
      rcases Nat.lt_or_ge k listed.size with h' | h'
      · simp [h'] at h4
      · simp at h4
    rw [getD_set_ne true hne] at h4
    exact ⟨by simp [Ne.symm hne, h3], h4⟩

theorem wp_region_float {id : Nat} {a : Act} (n : Nat) (hnp : NoPanic Q) (hm : P.follows .mixedOrders = true) (hB : floatB ops n = true)
    (h : wpStill P ops { w with drawn := w.drawn + 1 } (fun a1 => wpStill P ops { w with drawn := w.drawn + 1 } (fun a2 => wpList P ops Q (ops.toList.drop n) a2 { w with drawn := w.drawn + 1 }) (opsAt ops (floatH ops n)) a1) (opsAt ops (floatF ops n)) a) :
    (Code.region id ops true).wp P Q a w := by
  simp only [floatB, Bool.and_eq_true, decide_eq_true_eq] at hB
  obtain ⟨hsel, hn, hF, hO1, hO2, hc, hq, hlen⟩ := hB
  have inv0 : HeadInv .any ops n (Array.replicate ops.size false) :=
    ⟨by simp, fun j oj _ hl => (by rw [getD_replicate_false] at hl; cases hl), fun t _ ht => getD_in (by simpa using ht) (getD_replicate_false _ _)⟩
  have ltF : ∀ k ∈ floatF ops n, k < n := fun k hk => List.mem_range.1 (List.mem_filter.1 hk).1
  have ltH : ∀ k ∈ floatH ops n, k < n := fun k hk => List.mem_range.1 (List.mem_filter.1 hk).1
  obtain ⟨inv1, hun⟩ := listAll_spec (floatF ops n) _ ltF hO1 inv0
  have hsk : Sunk ops n (listAll (floatF ops n) (Array.replicate ops.size false)) := fun i hi hu => by
    have h1 := (hun i hu).1
    cases hs : sunk ops n i with
    | true => rfl
    | false => exact absurd (List.mem_filter.2 ⟨List.mem_range.2 hi, by rw [hs]; rfl⟩) h1
  refine wp_region_any hm ?_
  rw [show ops.size = (floatF ops n).length + ((floatH ops n).length + (ops.size - n)) by omega]
  have hdl : (ops.toList.drop n).length = ops.size - n := by simp
  rw [← show ops.size = (floatF ops n).length + ((floatH ops n).length + (ops.size - n)) by omega]
  have key := wpAny_floats (P := P) (w := { w with drawn := w.drawn + 1 }) hnp hsel (floatF ops n) ((floatH ops n).length + (ops.size - n)) (Array.replicate ops.size false) a hF hO1 ?_
  · rw [show (floatF ops n).length + ((floatH ops n).length + (ops.size - n)) = ops.size by omega] at key
    exact key
  · refine stillMono (fun a1 h1 => ?_) _ _ h
    have H := head_order (P := P) (w := { w with drawn := w.drawn + 1 }) (g := ops.size - n) hsel hc hn (floatH ops n) _ a1 ltH inv1 hsk hO2 hq h1
    exact wpAny_of_head (Q' := Q) (g := ops.size - n) (fun listed a' hL => by
      have := wpAny_of_seq (md := .any) (Q' := Q) (ops.toList.drop n) n listed a' { w with drawn := w.drawn + 1 } (fun j => by simp [List.getElem?_drop]) (by rw [hdl]; exact hL.1) hL.2
      rwa [hdl] at this) _ _ _ H
where
  stillMono {w : World} {Q Q' : Act → Prop} (h : ∀ a, Q a → Q' a) : ∀ (l : List Oper) (a : Act), wpStill P ops w Q l a → wpStill P ops w Q' l a
    | [], a, hh => h a hh
    | o :: l, a, hh => by
      simp only [wpStill] at hh ⊢
      split
      · rename_i hw; simp only [hw, if_true] at hh; exact Oper.still_mono (fun a' => stillMono h l a') hh
      · rename_i hw; simp only [hw] at hh; exact stillMono h l _ hh

end
end Go.Abs
