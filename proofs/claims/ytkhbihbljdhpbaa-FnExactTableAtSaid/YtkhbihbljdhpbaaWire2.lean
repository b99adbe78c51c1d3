/- How many places a set has, and MostNear of both. Own work; no condition. -/
import Derived.Test.YtkhbihbljdhpbaaLaws0
set_option maxRecDepth 100000
set_option linter.unusedSimpArgs false
set_option linter.unusedVariables false
namespace Go.Abs
open Go.Proofs
attribute [local irreducible] awp awpOps awpKeep KeepK awpKeepF KeepF aloop ALoop ACalls ACallq AQuiet retPost retPostA AExit.thn AExit.blk aApp aSt aStA

/-- How many places below six are in a set. -/
def pc (n : Nat) : Nat := n % 2 + n / 2 % 2 + n / 4 % 2 + n / 8 % 2 + n / 16 % 2 + n / 32 % 2

theorem pc_low : ∀ n, n < 64 → n ≠ 0 → pc (n &&& (n - 1)) + 1 = pc n := by decide +kernel
theorem pc_half {n : Nat} (h : n < 64) : pc n = n % 2 + pc (n / 2) := by unfold pc; omega
theorem pc_six (n : Nat) : pc n ≤ 6 := by unfold pc; omega

theorem spec_l1Size (n : Int) (h0 : 0 ≤ n) (h1 : n < 64) (m : Heap) : AQuiet Try.prog F.spec_l1Size [.one (.int .i64 n)] m (.one (.int .i64 (pc n.toNat))) := by
  obtain ⟨x, rfl⟩ := Int.eq_ofNat_of_zero_le h0
  have h6 := pc_six x
  refine aqn T.spec_l1Size (by rfl) ?_
  repeat' (first | refine xA ?_ | refine xB ?_ | refine xC ?_ | refine xD ?_ | refine xE ?_ | refine xF ?_ | refine xG ?_ | refine xH ?_ | refine xI rfl ?_ | refine xJ ?_ | refine xK ?_ | refine xL ?_ | refine xM rfl ?_ | refine xN rfl ?_ | refine xO rfl ?_ | (first | refine xP rfl (fun hif => ?_) (fun hif => ?_) | refine xQ rfl (fun hif => ?_) (fun hif => ?_) | refine xR rfl (fun hif => ?_) (fun hif => ?_) | refine xS rfl (fun hif => ?_) (fun hif => ?_)) <;> try (first | contradiction | (exfalso; omega)) | (refine hK _ _ ?_; clear hK K) | (refine And.intro (by first | omega | assumption | (constructor <;> omega)) ?_) | (refine And.intro (fun hif => ?_) (fun hif => ?_) <;> try (first | contradiction | (exfalso; omega))) | ((first | refine xT fun K hK => ?_ | refine xU fun K hK => ?_ | refine yB (fun K hK => ?_) (fun K hK => ?_) | refine xV ?_ | refine yA ?_ | refine xW ?_ | refine xX ?_ | refine xY ?_ | refine xZ ?_) <;> simp only [↓awpOps, ↓awpKeep, ↓awpKeepF, ↓aop, ↓aopQ, ↓abin, ↓aun, ↓onSome_some, ↓Kont_at, ↓KM_at, ↓KV_at, ↓KU_at, refId_row, Frame.ev, Frame.evs, Frame.evOr, Frame.put, Frame.keep, get_nil, get_cons, argFrame, resOf, fillA, Vals.len, Vals.get, Vals.set, Vals.app, Vals.sub, Vals.take, Vals.ofAgg_cons, Vals.ofList, Vals.toInts, Vals.toBools, Vals.toSls, Vals.toStrs, Vals.zeros, Nat.reduceBEq, Nat.reduceAdd, Nat.reduceEqDiff, cond_true, cond_false, Option.map_some, Option.map_none, List.length_cons, List.length_nil, List.replicate, List.set_cons_zero, List.set_cons_succ, Nat.reduceLT, Bool.not_true, Bool.not_false, Int.toNat_natCast, inR, Nat.zero_add, Int.toNat_zero, reduceCtorEq, IntKind.bits, List.nil_append, List.cons_append, Nat.add_zero, Nat.sub_zero, noughts_len, List.map_cons, List.map_nil, zp, zu]) | refine And.intro ?_ (fun hif => (hif trivial).elim) | (intro hif; try (first | contradiction | (exfalso; omega))))
  refine awp_loop ?_
  refine ALoop.by [0, 3] (fun a : Int × Int => [(0, .one (.int .i64 a.1)), (3, .one (.int .i64 a.2))]) (fun _ => m) (fun a => ∃ y : Nat, a.1 = y ∧ y < 64 ∧ 0 ≤ a.2 ∧ a.2 + pc y = pc x) (fun a => a.1.toNat) (x, 0) rfl rfl ⟨x, rfl, by omega, by simp, by simp⟩ ?_
  rintro ⟨a, c⟩ ⟨y, h2, hy, hc, he⟩ K1 hK1
  simp only at h2 hc he
  subst h2
  have hh := pc_half hy
  repeat' (first | refine xA ?_ | refine xB ?_ | refine xC ?_ | refine xD ?_ | refine xE ?_ | refine xF ?_ | refine xG ?_ | refine xH ?_ | refine xI rfl ?_ | refine xJ ?_ | refine xK ?_ | refine xL ?_ | refine xM rfl ?_ | refine xN rfl ?_ | refine xO rfl ?_ | (first | refine xP rfl (fun hif => ?_) (fun hif => ?_) | refine xQ rfl (fun hif => ?_) (fun hif => ?_) | refine xR rfl (fun hif => ?_) (fun hif => ?_) | refine xS rfl (fun hif => ?_) (fun hif => ?_)) <;> try (first | contradiction | (exfalso; omega)) | (refine hK _ _ ?_; clear hK K) | (refine And.intro (by first | omega | assumption | (constructor <;> omega)) ?_) | (refine And.intro (fun hif => ?_) (fun hif => ?_) <;> try (first | contradiction | (exfalso; omega))) | ((first | refine xT fun K hK => ?_ | refine xU fun K hK => ?_ | refine yB (fun K hK => ?_) (fun K hK => ?_) | refine xV ?_ | refine yA ?_ | refine xW ?_ | refine xX ?_ | refine xY ?_ | refine xZ ?_) <;> simp only [↓awpOps, ↓awpKeep, ↓awpKeepF, ↓aop, ↓aopQ, ↓abin, ↓aun, ↓onSome_some, ↓Kont_at, ↓KM_at, ↓KV_at, ↓KU_at, refId_row, Frame.ev, Frame.evs, Frame.evOr, Frame.put, Frame.keep, get_nil, get_cons, argFrame, resOf, fillA, Vals.len, Vals.get, Vals.set, Vals.app, Vals.sub, Vals.take, Vals.ofAgg_cons, Vals.ofList, Vals.toInts, Vals.toBools, Vals.toSls, Vals.toStrs, Vals.zeros, Nat.reduceBEq, Nat.reduceAdd, Nat.reduceEqDiff, cond_true, cond_false, Option.map_some, Option.map_none, List.length_cons, List.length_nil, List.replicate, List.set_cons_zero, List.set_cons_succ, Nat.reduceLT, Bool.not_true, Bool.not_false, Int.toNat_natCast, inR, Nat.zero_add, Int.toNat_zero, reduceCtorEq, IntKind.bits, List.nil_append, List.cons_append, Nat.add_zero, Nat.sub_zero, noughts_len, List.map_cons, List.map_nil, zp, zu]) | refine And.intro ?_ (fun hif => (hif trivial).elim) | (intro hif; try (first | contradiction | (exfalso; omega))))
  · refine hK1 ((y : Int) / 2, c + (y : Int) % 2) _ _ rfl rfl ⟨y / 2, by simp, by omega, by simp only; omega, by simp only; omega⟩ ?_
    simp only
    omega
  · refine ⟨?_, List.prefix_rfl⟩
    obtain rfl : y = 0 := by omega
    have : pc 0 = 0 := rfl
    congr 2
    simp only [Int.toNat_natCast]
    omega

/-- The greatest number of neighbours of the first places. -/
def most (net : List Int) : Nat → Int
  | 0 => 0
  | k + 1 => max (most net k) (pc ((net.getD k 0)).toNat)
theorem most_pos (net : List Int) : ∀ k, 0 ≤ most net k
  | 0 => Int.le_refl _
  | k + 1 => by have := most_pos net k; unfold most; omega
def mostNear (net : List Int) : Int := if NetOk net then most net net.length else -1

theorem NetOk.small {net : List Int} (h : NetOk net) {k : Nat} (hk : k < net.length) : 0 ≤ (net.getD k 0) ∧ (net.getD k 0) < 64 := by
  have h1 := h.low k hk
  have h2 := h.high k hk
  have h3 := pow_le6 h.six
  omega

end Go.Abs

/- The wires of a net: WireList, WiresOf of both. Own work; no condition. -/
set_option maxRecDepth 100000
set_option linter.unusedSimpArgs false
set_option linter.unusedVariables false
namespace Go.Abs
open Go.Proofs
attribute [local irreducible] awp awpOps awpKeep KeepK awpKeepF KeepF aloop ALoop ACalls ACallq AQuiet retPost retPostA AExit.thn AExit.blk aApp aSt aStA

/-- The wires from place k to places below j; those from places below k. -/
def wiresIn (net : List Int) (k : Nat) : Nat → List (List Int)
  | 0 => []
  | j + 1 => if k < j ∧ bit ((net.getD k 0)) j = true then wiresIn net k j ++ [[(k : Int), (j : Int)]] else wiresIn net k j
def wiresTo (net : List Int) : Nat → List (List Int)
  | 0 => []
  | k + 1 => wiresTo net k ++ wiresIn net k net.length
def wires (net : List Int) : List (List Int) := wiresTo net net.length

theorem wiresIn_nil (net : List Int) (k : Nat) : ∀ j, j ≤ k + 1 → wiresIn net k j = []
  | 0, _ => rfl
  | j + 1, h => by
    unfold wiresIn
    rw [if_neg (by omega)]
    exact wiresIn_nil net k j (by omega)
theorem wiresIn_len (net : List Int) (k : Nat) : ∀ j, (wiresIn net k j).length ≤ j
  | 0 => Nat.le_refl _
  | j + 1 => by
    have := wiresIn_len net k j
    unfold wiresIn
    split
    · rw [List.length_append]; simp only [List.length_cons, List.length_nil]; omega
    · omega
theorem wiresTo_len (net : List Int) (h6 : net.length ≤ 6) : ∀ k, (wiresTo net k).length ≤ 6 * k
  | 0 => Nat.le_refl _
  | k + 1 => by
    have h1 := wiresTo_len net h6 k
    have h2 := wiresIn_len net k net.length
    unfold wiresTo
    rw [List.length_append]; omega

theorem Owns.len {m : Heap} {s : SV} {e : TypeId} {v : Vals} (h : Owns m s e v) : s.len = v.len := by
  rcases h with ⟨rfl, h0⟩ | ⟨id, f, rfl, _, _⟩
  · exact h0.symm
  · rfl

theorem Owns.push {m : Heap} {s : SV} {e e' : TypeId} {v v' : Vals} {o : Bool} (hwf : m.wf) (h : Owns m s e v) : Owns (m ++ [⟨e', m.length, o, v'⟩]) s e v := by
  rcases h with h | ⟨id, f, rfl, hid, hfam⟩
  · exact .inl h
  · have hil : id < m.length := (List.getElem?_eq_some_iff.1 hid).1
    have hf : f ≤ id := hwf id _ hid
    refine .inr ⟨id, f, rfl, by rw [List.getElem?_append_left hil]; exact hid, fun j r hr ho hfe => ?_⟩
    rcases get_push hr with ⟨_, h2⟩ | ⟨_, rfl⟩
    · exact hfam j r h2 ho hfe
    · simp only at hfe; omega

/-- A list of lists of numbers, each in a row of its own, all of them new. -/
structure IsWires (n0 : Nat) (m : Heap) (s : SV) (ll : List (List Int)) : Prop where
  own : ∃ svs, Owns m s Ty.Sl_int (.sls svs) ∧ svs.length = ll.length ∧ ∀ i, i < ll.length → ∃ id, n0 ≤ id ∧ svs.getD i SV.nil = ⟨.row id, 0, (ll.getD i []).length⟩ ∧ m[id]? = some ⟨Ty.int, id, true, .ints .i64 (ll.getD i [])⟩

theorem IsWires.len {n0 : Nat} {m : Heap} {s : SV} {ll : List (List Int)} (h : IsWires n0 m s ll) : s.len = ll.length := by
  obtain ⟨svs, h1, h2, _⟩ := h.own
  rw [h1.len, ← h2]; rfl

theorem row_prefix {m m' : Heap} (h : m <+: m') {id : Nat} {r : Row} (hr : m[id]? = some r) : m'[id]? = some r := by
  obtain ⟨t, rfl⟩ := h
  rw [List.getElem?_append_left (List.getElem?_eq_some_iff.1 hr).1]
  exact hr

theorem getD_push {α : Type} (l : List α) (x d : α) (i : Nat) : (l ++ [x]).getD i d = if i < l.length then l.getD i d else if i = l.length then x else d := by
  simp only [List.getD_eq_getElem?_getD, List.getElem?_append]
  split
  · rfl
  · split
    · rename_i h; subst h; simp
    · rw [List.getElem?_eq_none (by simp; omega)]; rfl

/-- append([]int{a, b}) to such a list. -/
theorem app_wires {n0 : Nat} {m : Heap} {s : SV} {ll : List (List Int)} {l : List Int} {K : XV → Heap → Prop} (hn : n0 ≤ m.length) (hwf : m.wf) (h : IsWires n0 m s ll) (hll : ll.length < 1000000)
    (hK : ∀ (s' : SV) (m' : Heap), m <+: m' → m'.wf → IsWires n0 m' s' (ll ++ [l]) → K (.one (.sl s')) m') :
    aApp Ty.Sl_int s ⟨.row (List.length (m ++ [(⟨Ty.int, m.length, true, .ints .i64 l⟩ : Row)])), 0, 1⟩ (m ++ [⟨Ty.int, m.length, true, .ints .i64 l⟩] ++ [⟨Ty.Sl_int, List.length (m ++ [(⟨Ty.int, m.length, true, .ints .i64 l⟩ : Row)]), true, .sls [⟨.row m.length, 0, l.length⟩]⟩]) K := by
  obtain ⟨svs, h1, h2, h3⟩ := h.own
  have hw1 : Heap.wf (m ++ [⟨Ty.int, m.length, true, .ints .i64 l⟩]) := wf_push hwf (Nat.le_refl _)
  have o1 := Owns.push (e' := Ty.int) (v' := .ints .i64 l) (o := true) hwf h1
  have o2 := Owns.push (e' := Ty.Sl_int) (v' := .sls [⟨.row m.length, 0, l.length⟩]) (o := true) hw1 o1
  refine aApp_owns (t := .sls (svs ++ [⟨.row m.length, 0, l.length⟩])) (wf_push hw1 (Nat.le_refl _)) o2 rfl (get_last _ _) rfl (by simp [Vals.len]) (by simp only [Vals.len, List.length_cons, List.length_nil]; omega) rfl fun s' m' hp hw ho => ?_
  have hp1 : m ++ [⟨Ty.int, m.length, true, .ints .i64 l⟩] <+: m' := (prefix_push _ _).trans hp
  refine hK s' m' ((prefix_push _ _).trans hp1) hw ⟨svs ++ [⟨.row m.length, 0, l.length⟩], ho, by simp [h2], fun i hi => ?_⟩
  rw [getD_push, getD_push, h2]
  rw [List.length_append, List.length_cons, List.length_nil] at hi
  by_cases hlt : i < ll.length
  · rw [if_pos hlt, if_pos hlt]
    obtain ⟨id, g1, g2, g3⟩ := h3 i hlt
    exact ⟨id, g1, g2, row_prefix ((prefix_push _ _).trans hp1) g3⟩
  · rw [if_neg hlt, if_neg hlt, if_pos (by omega), if_pos (by omega)]
    exact ⟨m.length, hn, rfl, row_prefix hp1 (get_last _ _)⟩

theorem isWires_nil (n0 : Nat) (m : Heap) : IsWires n0 m SV.nil [] := ⟨⟨[], .inl ⟨rfl, rfl⟩, rfl, fun i hi => absurd hi (Nat.not_lt_zero _)⟩⟩

theorem impl_WireList {s : SV} {net : List Int} {m : Heap} {K : XV → Heap → Prop} (hs : IsInts .i64 m s net) (hok : NetOk net)
    (hK : ∀ (s' : SV) (m' : Heap), m <+: m' → m'.wf → IsWires m.length m' s' (wires net) → K (.one (.sl s')) m') : ACalls Try.prog F.impl_WireList [.one (.sl s)] m K := by
  obtain ⟨ref, off, len⟩ := s
  obtain rfl : len = net.length := hs.1
  refine ACalls.wf fun hwf => ?_
  refine afn T.impl_WireList (by rfl) ?_
  have h6 := hok.six
  have hp6 := pow_le6 h6
  repeat' (first | refine xA ?_ | refine xB ?_ | refine xC ?_ | refine xD ?_ | refine xE ?_ | refine xF ?_ | refine xG ?_ | refine xH ?_ | refine xI rfl ?_ | refine xJ ?_ | refine xK ?_ | refine xL ?_ | refine xM rfl ?_ | refine xN rfl ?_ | refine xO rfl ?_ | (first | refine xP rfl (fun hif => ?_) (fun hif => ?_) | refine xQ rfl (fun hif => ?_) (fun hif => ?_) | refine xR rfl (fun hif => ?_) (fun hif => ?_) | refine xS rfl (fun hif => ?_) (fun hif => ?_)) <;> try (first | contradiction | (exfalso; omega)) | (refine hK _ _ ?_; clear hK K) | refine AQuiet.call (impl_NetOk_b true hs (decide_eq_true hok)) trivial ?_ | (refine And.intro (by first | omega | assumption | (constructor <;> omega)) ?_) | (refine And.intro (fun hif => ?_) (fun hif => ?_) <;> try (first | contradiction | (exfalso; omega))) | ((first | refine xT fun K hK => ?_ | refine xU fun K hK => ?_ | refine yB (fun K hK => ?_) (fun K hK => ?_) | refine xV ?_ | refine yA ?_ | refine xW ?_ | refine xX ?_ | refine xY ?_ | refine xZ ?_) <;> simp only [↓awpOps, ↓awpKeep, ↓awpKeepF, ↓aop, ↓aopQ, ↓abin, ↓aun, ↓onSome_some, ↓Kont_at, ↓KM_at, ↓KV_at, ↓KU_at, refId_row, Frame.ev, Frame.evs, Frame.evOr, Frame.put, Frame.keep, get_nil, get_cons, argFrame, resOf, fillA, Vals.len, Vals.get, Vals.set, Vals.app, Vals.sub, Vals.take, Vals.ofAgg_cons, Vals.ofList, Vals.toInts, Vals.toBools, Vals.toSls, Vals.toStrs, Vals.zeros, Nat.reduceBEq, Nat.reduceAdd, Nat.reduceEqDiff, cond_true, cond_false, Option.map_some, Option.map_none, List.length_cons, List.length_nil, List.replicate, List.set_cons_zero, List.set_cons_succ, Nat.reduceLT, Bool.not_true, Bool.not_false, Int.toNat_natCast, inR, Nat.zero_add, Int.toNat_zero, reduceCtorEq, IntKind.bits, List.nil_append, List.cons_append, Nat.add_zero, Nat.sub_zero, noughts_len, List.map_cons, List.map_nil, zp, zu]) | refine And.intro ?_ (fun hif => (hif trivial).elim) | (intro hif; try (first | contradiction | (exfalso; omega))))
  refine awp_loop ?_
  refine ALoop.by [0, 3, 4] (fun a : Nat × SV × Heap => [(0, .one (.sl ⟨ref, off, net.length⟩)), (3, .one (.sl a.2.1)), (4, .one (.int .i64 a.1))]) (fun a => a.2.2) (fun a => a.1 ≤ net.length ∧ m <+: a.2.2 ∧ a.2.2.wf ∧ IsWires m.length a.2.2 a.2.1 (wiresTo net a.1)) (fun a => net.length - a.1) (0, SV.nil, m) rfl rfl ⟨Nat.zero_le _, List.prefix_rfl, hwf, isWires_nil _ _⟩ ?_
  rintro ⟨k, t, m1⟩ ⟨hk, hm1, hw1, hT⟩ K1 hK1
  simp only at hk hm1 hw1 hT
  repeat' (first | refine xA ?_ | refine xB ?_ | refine xC ?_ | refine xD ?_ | refine xE ?_ | refine xF ?_ | refine xG ?_ | refine xH ?_ | refine xI rfl ?_ | refine xJ ?_ | refine xK ?_ | refine xL ?_ | refine xM rfl ?_ | refine xN rfl ?_ | refine xO rfl ?_ | (first | refine xP rfl (fun hif => ?_) (fun hif => ?_) | refine xQ rfl (fun hif => ?_) (fun hif => ?_) | refine xR rfl (fun hif => ?_) (fun hif => ?_) | refine xS rfl (fun hif => ?_) (fun hif => ?_)) <;> try (first | contradiction | (exfalso; omega)) | (refine hK _ _ ?_; clear hK K) | (refine And.intro (by first | omega | assumption | (constructor <;> omega)) ?_) | (refine And.intro (fun hif => ?_) (fun hif => ?_) <;> try (first | contradiction | (exfalso; omega))) | ((first | refine xT fun K hK => ?_ | refine xU fun K hK => ?_ | refine yB (fun K hK => ?_) (fun K hK => ?_) | refine xV ?_ | refine yA ?_ | refine xW ?_ | refine xX ?_ | refine xY ?_ | refine xZ ?_) <;> simp only [↓awpOps, ↓awpKeep, ↓awpKeepF, ↓aop, ↓aopQ, ↓abin, ↓aun, ↓onSome_some, ↓Kont_at, ↓KM_at, ↓KV_at, ↓KU_at, refId_row, Frame.ev, Frame.evs, Frame.evOr, Frame.put, Frame.keep, get_nil, get_cons, argFrame, resOf, fillA, Vals.len, Vals.get, Vals.set, Vals.app, Vals.sub, Vals.take, Vals.ofAgg_cons, Vals.ofList, Vals.toInts, Vals.toBools, Vals.toSls, Vals.toStrs, Vals.zeros, Nat.reduceBEq, Nat.reduceAdd, Nat.reduceEqDiff, cond_true, cond_false, Option.map_some, Option.map_none, List.length_cons, List.length_nil, List.replicate, List.set_cons_zero, List.set_cons_succ, Nat.reduceLT, Bool.not_true, Bool.not_false, Int.toNat_natCast, inR, Nat.zero_add, Int.toNat_zero, reduceCtorEq, IntKind.bits, List.nil_append, List.cons_append, Nat.add_zero, Nat.sub_zero, noughts_len, List.map_cons, List.map_nil, zp, zu]) | refine And.intro ?_ (fun hif => (hif trivial).elim) | (intro hif; try (first | contradiction | (exfalso; omega))))
  · refine awp_loop ?_
    have hlt : k < net.length := by omega
    refine ALoop.by [0, 3, 4, 5] (fun a : Nat × SV × Heap => [(0, .one (.sl ⟨ref, off, net.length⟩)), (3, .one (.sl a.2.1)), (4, .one (.int .i64 k)), (5, .one (.int .i64 a.1))]) (fun a => a.2.2) (fun a => a.1 ≤ net.length ∧ k < a.1 ∧ m <+: a.2.2 ∧ a.2.2.wf ∧ IsWires m.length a.2.2 a.2.1 (wiresTo net k ++ wiresIn net k a.1)) (fun a => net.length - a.1) (k + 1, t, m1) rfl rfl ⟨by simp only; omega, by simp only; omega, hm1, hw1, by rw [wiresIn_nil net k _ (Nat.le_refl _), List.append_nil]; exact hT⟩ ?_
    rintro ⟨j, t2, m2⟩ ⟨hj, hkj, hm2, hw2, hT2⟩ K2 hK2
    simp only at hj hkj hm2 hw2 hT2
    have hs2 := hs.pre hm2
    have hl1 := wiresTo_len net h6 k
    have hl2 := wiresIn_len net k j
    have hl0 : m.length ≤ m2.length := hm2.length_le
    have hbl : (wiresTo net k ++ wiresIn net k j).length < 1000000 := by rw [List.length_append]; omega
    repeat' (first | refine xA ?_ | refine xB ?_ | refine xC ?_ | refine xD ?_ | refine xE ?_ | refine xF ?_ | refine xG ?_ | refine xH ?_ | refine xI rfl ?_ | refine xJ ?_ | refine xK ?_ | refine xL ?_ | refine xM rfl ?_ | refine xN rfl ?_ | refine xO rfl ?_ | (first | refine xP rfl (fun hif => ?_) (fun hif => ?_) | refine xQ rfl (fun hif => ?_) (fun hif => ?_) | refine xR rfl (fun hif => ?_) (fun hif => ?_) | refine xS rfl (fun hif => ?_) (fun hif => ?_)) <;> try (first | contradiction | (exfalso; omega)) | (refine hK _ _ ?_; clear hK K) | refine onSome_of (hs2.2 _ (by omega)) ?_ | refine AQuiet.call (impl_hasPlace _ j (hok.low k hlt) (by have := hok.high k hlt; omega) (by omega) _) trivial ?_ | refine app_wires hl0 hw2 hT2 hbl fun s' m' hp3 hw3 hT3 => ?_ | (refine And.intro (by first | omega | assumption | (constructor <;> omega)) ?_) | (refine And.intro (fun hif => ?_) (fun hif => ?_) <;> try (first | contradiction | (exfalso; omega))) | ((first | refine xT fun K hK => ?_ | refine xU fun K hK => ?_ | refine yB (fun K hK => ?_) (fun K hK => ?_) | refine xV ?_ | refine yA ?_ | refine xW ?_ | refine xX ?_ | refine xY ?_ | refine xZ ?_) <;> simp only [↓awpOps, ↓awpKeep, ↓awpKeepF, ↓aop, ↓aopQ, ↓abin, ↓aun, ↓onSome_some, ↓Kont_at, ↓KM_at, ↓KV_at, ↓KU_at, refId_row, Frame.ev, Frame.evs, Frame.evOr, Frame.put, Frame.keep, get_nil, get_cons, argFrame, resOf, fillA, Vals.len, Vals.get, Vals.set, Vals.app, Vals.sub, Vals.take, Vals.ofAgg_cons, Vals.ofList, Vals.toInts, Vals.toBools, Vals.toSls, Vals.toStrs, Vals.zeros, Nat.reduceBEq, Nat.reduceAdd, Nat.reduceEqDiff, cond_true, cond_false, Option.map_some, Option.map_none, List.length_cons, List.length_nil, List.replicate, List.set_cons_zero, List.set_cons_succ, Nat.reduceLT, Bool.not_true, Bool.not_false, Int.toNat_natCast, inR, Nat.zero_add, Int.toNat_zero, reduceCtorEq, IntKind.bits, List.nil_append, List.cons_append, Nat.add_zero, Nat.sub_zero, noughts_len, List.map_cons, List.map_nil, zp, zu]) | refine And.intro ?_ (fun hif => (hif trivial).elim) | (intro hif; try (first | contradiction | (exfalso; omega))))
    · refine hK2 (j + 1, s', m') _ _ rfl rfl ⟨by simp only; omega, by simp only; omega, hm2.trans hp3, hw3, ?_⟩ (by simp only; omega)
      simp only [wiresIn]
      rw [if_pos ⟨hkj, hif⟩, ← List.append_assoc]
      exact hT3
    · refine hK2 (j + 1, t2, m2) _ _ rfl rfl ⟨by simp only; omega, by simp only; omega, hm2, hw2, ?_⟩ (by simp only; omega)
      simp only [wiresIn]
      rw [if_neg fun h => by rw [h.2] at hif; exact Bool.noConfusion hif]
      exact hT2
    · refine hK1 (k + 1, t2, m2) _ _ rfl rfl ⟨by simp only; omega, hm2, hw2, ?_⟩ (by simp only; omega)
      obtain rfl : j = net.length := by omega
      exact hT2
  · obtain rfl : k = net.length := by omega
    exact hK t m1 hm1 hw1 hT

theorem spec_l1Wires {s : SV} {net : List Int} {m : Heap} {K : XV → Heap → Prop} (hs : IsInts .i64 m s net) (hok : NetOk net)
    (hK : ∀ (s' : SV) (m' : Heap), m <+: m' → m'.wf → IsWires m.length m' s' (wires net) → K (.one (.sl s')) m') : ACalls Try.prog F.spec_l1Wires [.one (.sl s)] m K := by
  obtain ⟨ref, off, len⟩ := s
  obtain rfl : len = net.length := hs.1
  refine ACalls.wf fun hwf => ?_
  refine afn T.spec_l1Wires (by rfl) ?_
  have h6 := hok.six
  have hp6 := pow_le6 h6
  repeat' (first | refine xA ?_ | refine xB ?_ | refine xC ?_ | refine xD ?_ | refine xE ?_ | refine xF ?_ | refine xG ?_ | refine xH ?_ | refine xI rfl ?_ | refine xJ ?_ | refine xK ?_ | refine xL ?_ | refine xM rfl ?_ | refine xN rfl ?_ | refine xO rfl ?_ | (first | refine xP rfl (fun hif => ?_) (fun hif => ?_) | refine xQ rfl (fun hif => ?_) (fun hif => ?_) | refine xR rfl (fun hif => ?_) (fun hif => ?_) | refine xS rfl (fun hif => ?_) (fun hif => ?_)) <;> try (first | contradiction | (exfalso; omega)) | (refine hK _ _ ?_; clear hK K) | (refine And.intro (by first | omega | assumption | (constructor <;> omega)) ?_) | (refine And.intro (fun hif => ?_) (fun hif => ?_) <;> try (first | contradiction | (exfalso; omega))) | ((first | refine xT fun K hK => ?_ | refine xU fun K hK => ?_ | refine yB (fun K hK => ?_) (fun K hK => ?_) | refine xV ?_ | refine yA ?_ | refine xW ?_ | refine xX ?_ | refine xY ?_ | refine xZ ?_) <;> simp only [↓awpOps, ↓awpKeep, ↓awpKeepF, ↓aop, ↓aopQ, ↓abin, ↓aun, ↓onSome_some, ↓Kont_at, ↓KM_at, ↓KV_at, ↓KU_at, refId_row, Frame.ev, Frame.evs, Frame.evOr, Frame.put, Frame.keep, get_nil, get_cons, argFrame, resOf, fillA, Vals.len, Vals.get, Vals.set, Vals.app, Vals.sub, Vals.take, Vals.ofAgg_cons, Vals.ofList, Vals.toInts, Vals.toBools, Vals.toSls, Vals.toStrs, Vals.zeros, Nat.reduceBEq, Nat.reduceAdd, Nat.reduceEqDiff, cond_true, cond_false, Option.map_some, Option.map_none, List.length_cons, List.length_nil, List.replicate, List.set_cons_zero, List.set_cons_succ, Nat.reduceLT, Bool.not_true, Bool.not_false, Int.toNat_natCast, inR, Nat.zero_add, Int.toNat_zero, reduceCtorEq, IntKind.bits, List.nil_append, List.cons_append, Nat.add_zero, Nat.sub_zero, noughts_len, List.map_cons, List.map_nil, zp, zu]) | refine And.intro ?_ (fun hif => (hif trivial).elim) | (intro hif; try (first | contradiction | (exfalso; omega))))
  refine awp_loop ?_
  have hW0 : IsWires m.length (m ++ [⟨Ty.Sl_int, m.length, true, .sls []⟩]) ⟨.row m.length, 0, 0⟩ (wiresTo net 0) := ⟨⟨[], owns_new hwf _ _, rfl, fun i hi => absurd hi (Nat.not_lt_zero _)⟩⟩
  refine ALoop.by [0, 3, 4] (fun a : Nat × SV × Heap => [(0, .one (.sl ⟨ref, off, net.length⟩)), (3, .one (.sl a.2.1)), (4, .one (.int .i64 a.1))]) (fun a => a.2.2) (fun a => a.1 ≤ net.length ∧ m <+: a.2.2 ∧ a.2.2.wf ∧ IsWires m.length a.2.2 a.2.1 (wiresTo net a.1)) (fun a => net.length - a.1) (0, ⟨.row m.length, 0, 0⟩, m ++ [⟨Ty.Sl_int, m.length, true, .sls []⟩]) rfl rfl ⟨Nat.zero_le _, prefix_push _ _, wf_push hwf (Nat.le_refl _), hW0⟩ ?_
  rintro ⟨k, t, m1⟩ ⟨hk, hm1, hw1, hT⟩ K1 hK1
  simp only at hk hm1 hw1 hT
  repeat' (first | refine xA ?_ | refine xB ?_ | refine xC ?_ | refine xD ?_ | refine xE ?_ | refine xF ?_ | refine xG ?_ | refine xH ?_ | refine xI rfl ?_ | refine xJ ?_ | refine xK ?_ | refine xL ?_ | refine xM rfl ?_ | refine xN rfl ?_ | refine xO rfl ?_ | (first | refine xP rfl (fun hif => ?_) (fun hif => ?_) | refine xQ rfl (fun hif => ?_) (fun hif => ?_) | refine xR rfl (fun hif => ?_) (fun hif => ?_) | refine xS rfl (fun hif => ?_) (fun hif => ?_)) <;> try (first | contradiction | (exfalso; omega)) | (refine hK _ _ ?_; clear hK K) | (refine And.intro (by first | omega | assumption | (constructor <;> omega)) ?_) | (refine And.intro (fun hif => ?_) (fun hif => ?_) <;> try (first | contradiction | (exfalso; omega))) | ((first | refine xT fun K hK => ?_ | refine xU fun K hK => ?_ | refine yB (fun K hK => ?_) (fun K hK => ?_) | refine xV ?_ | refine yA ?_ | refine xW ?_ | refine xX ?_ | refine xY ?_ | refine xZ ?_) <;> simp only [↓awpOps, ↓awpKeep, ↓awpKeepF, ↓aop, ↓aopQ, ↓abin, ↓aun, ↓onSome_some, ↓Kont_at, ↓KM_at, ↓KV_at, ↓KU_at, refId_row, Frame.ev, Frame.evs, Frame.evOr, Frame.put, Frame.keep, get_nil, get_cons, argFrame, resOf, fillA, Vals.len, Vals.get, Vals.set, Vals.app, Vals.sub, Vals.take, Vals.ofAgg_cons, Vals.ofList, Vals.toInts, Vals.toBools, Vals.toSls, Vals.toStrs, Vals.zeros, Nat.reduceBEq, Nat.reduceAdd, Nat.reduceEqDiff, cond_true, cond_false, Option.map_some, Option.map_none, List.length_cons, List.length_nil, List.replicate, List.set_cons_zero, List.set_cons_succ, Nat.reduceLT, Bool.not_true, Bool.not_false, Int.toNat_natCast, inR, Nat.zero_add, Int.toNat_zero, reduceCtorEq, IntKind.bits, List.nil_append, List.cons_append, Nat.add_zero, Nat.sub_zero, noughts_len, List.map_cons, List.map_nil, zp, zu]) | refine And.intro ?_ (fun hif => (hif trivial).elim) | (intro hif; try (first | contradiction | (exfalso; omega))))
  · refine awp_loop ?_
    have hlt : k < net.length := by omega
    refine ALoop.by [0, 3, 4, 5] (fun a : Nat × SV × Heap => [(0, .one (.sl ⟨ref, off, net.length⟩)), (3, .one (.sl a.2.1)), (4, .one (.int .i64 k)), (5, .one (.int .i64 a.1))]) (fun a => a.2.2) (fun a => a.1 ≤ net.length ∧ k < a.1 ∧ m <+: a.2.2 ∧ a.2.2.wf ∧ IsWires m.length a.2.2 a.2.1 (wiresTo net k ++ wiresIn net k a.1)) (fun a => net.length - a.1) (k + 1, t, m1) rfl rfl ⟨by simp only; omega, by simp only; omega, hm1, hw1, by rw [wiresIn_nil net k _ (Nat.le_refl _), List.append_nil]; exact hT⟩ ?_
    rintro ⟨j, t2, m2⟩ ⟨hj, hkj, hm2, hw2, hT2⟩ K2 hK2
    simp only at hj hkj hm2 hw2 hT2
    have hs2 := hs.pre hm2
    have hl1 := wiresTo_len net h6 k
    have hl2 := wiresIn_len net k j
    have hl0 : m.length ≤ m2.length := hm2.length_le
    have hbl : (wiresTo net k ++ wiresIn net k j).length < 1000000 := by rw [List.length_append]; omega
    have hd1 : 0 ≤ (net.getD k 0) / 2 ^ j := Int.ediv_nonneg (hok.low k hlt) (Int.le_of_lt (Int.pow_pos (by decide)))
    have hsh := shr_bit (j := j) (hok.low k hlt)
    repeat' (first | refine xA ?_ | refine xB ?_ | refine xC ?_ | refine xD ?_ | refine xE ?_ | refine xF ?_ | refine xG ?_ | refine xH ?_ | refine xI rfl ?_ | refine xJ ?_ | refine xK ?_ | refine xL ?_ | refine xM rfl ?_ | refine xN rfl ?_ | refine xO rfl ?_ | (first | refine xP rfl (fun hif => ?_) (fun hif => ?_) | refine xQ rfl (fun hif => ?_) (fun hif => ?_) | refine xR rfl (fun hif => ?_) (fun hif => ?_) | refine xS rfl (fun hif => ?_) (fun hif => ?_)) <;> try (first | contradiction | (exfalso; omega)) | (refine hK _ _ ?_; clear hK K) | refine onSome_of (hs2.2 _ (by omega)) ?_ | refine app_wires hl0 hw2 hT2 hbl fun s' m' hp3 hw3 hT3 => ?_ | (refine And.intro (by first | omega | assumption | (constructor <;> omega)) ?_) | (refine And.intro (fun hif => ?_) (fun hif => ?_) <;> try (first | contradiction | (exfalso; omega))) | ((first | refine xT fun K hK => ?_ | refine xU fun K hK => ?_ | refine yB (fun K hK => ?_) (fun K hK => ?_) | refine xV ?_ | refine yA ?_ | refine xW ?_ | refine xX ?_ | refine xY ?_ | refine xZ ?_) <;> simp only [↓awpOps, ↓awpKeep, ↓awpKeepF, ↓aop, ↓aopQ, ↓abin, ↓aun, ↓onSome_some, ↓Kont_at, ↓KM_at, ↓KV_at, ↓KU_at, refId_row, Frame.ev, Frame.evs, Frame.evOr, Frame.put, Frame.keep, get_nil, get_cons, argFrame, resOf, fillA, Vals.len, Vals.get, Vals.set, Vals.app, Vals.sub, Vals.take, Vals.ofAgg_cons, Vals.ofList, Vals.toInts, Vals.toBools, Vals.toSls, Vals.toStrs, Vals.zeros, Nat.reduceBEq, Nat.reduceAdd, Nat.reduceEqDiff, cond_true, cond_false, Option.map_some, Option.map_none, List.length_cons, List.length_nil, List.replicate, List.set_cons_zero, List.set_cons_succ, Nat.reduceLT, Bool.not_true, Bool.not_false, Int.toNat_natCast, inR, Nat.zero_add, Int.toNat_zero, reduceCtorEq, IntKind.bits, List.nil_append, List.cons_append, Nat.add_zero, Nat.sub_zero, noughts_len, List.map_cons, List.map_nil, zp, zu]) | refine And.intro ?_ (fun hif => (hif trivial).elim) | (intro hif; try (first | contradiction | (exfalso; omega))))
    · refine hK2 (j + 1, s', m') _ _ rfl rfl ⟨by simp only; omega, by simp only; omega, hm2.trans hp3, hw3, ?_⟩ (by simp only; omega)
      simp only [wiresIn]
      have hif' : bit ((net.getD k 0)) j = true := by
        cases hb : bit ((net.getD k 0)) j with
        | true => rfl
        | false => rw [hb, if_neg (by decide)] at hsh; omega
      rw [if_pos ⟨hkj, hif'⟩, ← List.append_assoc]
      exact hT3
    · refine hK2 (j + 1, t2, m2) _ _ rfl rfl ⟨by simp only; omega, by simp only; omega, hm2, hw2, ?_⟩ (by simp only; omega)
      simp only [wiresIn]
      rw [if_neg fun h => hif (by rw [hsh, if_pos h.2])]
      exact hT2
    · refine hK1 (k + 1, t2, m2) _ _ rfl rfl ⟨by simp only; omega, hm2, hw2, ?_⟩ (by simp only; omega)
      obtain rfl : j = net.length := by omega
      exact hT2
  · obtain rfl : k = net.length := by omega
    exact hK t m1 hm1 hw1 hT

def wiresOf (net : List Int) : Int := if NetOk net then (wires net).length else -1

theorem impl_WiresOf (s : SV) (net : List Int) (m : Heap) (hs : IsInts .i64 m s net) : AQuiet Try.prog F.impl_WiresOf [.one (.sl s)] m (.one (.int .i64 (wiresOf net))) := by
  refine aqn T.impl_WiresOf (by rfl) ?_
  repeat' (first | refine xA ?_ | refine xB ?_ | refine xC ?_ | refine xD ?_ | refine xE ?_ | refine xF ?_ | refine xG ?_ | refine xH ?_ | refine xI rfl ?_ | refine xJ ?_ | refine xK ?_ | refine xL ?_ | refine xM rfl ?_ | refine xN rfl ?_ | refine xO rfl ?_ | (first | refine xP rfl (fun hif => ?_) (fun hif => ?_) | refine xQ rfl (fun hif => ?_) (fun hif => ?_) | refine xR rfl (fun hif => ?_) (fun hif => ?_) | refine xS rfl (fun hif => ?_) (fun hif => ?_)) <;> try (first | contradiction | (exfalso; omega)) | (refine hK _ _ ?_; clear hK K) | refine AQuiet.call (impl_NetOk _ net _ hs) trivial ?_ | (refine And.intro (by first | omega | assumption | (constructor <;> omega)) ?_) | (refine And.intro (fun hif => ?_) (fun hif => ?_) <;> try (first | contradiction | (exfalso; omega))) | ((first | refine xT fun K hK => ?_ | refine xU fun K hK => ?_ | refine yB (fun K hK => ?_) (fun K hK => ?_) | refine xV ?_ | refine yA ?_ | refine xW ?_ | refine xX ?_ | refine xY ?_ | refine xZ ?_) <;> simp only [↓awpOps, ↓awpKeep, ↓awpKeepF, ↓aop, ↓aopQ, ↓abin, ↓aun, ↓onSome_some, ↓Kont_at, ↓KM_at, ↓KV_at, ↓KU_at, refId_row, Frame.ev, Frame.evs, Frame.evOr, Frame.put, Frame.keep, get_nil, get_cons, argFrame, resOf, fillA, Vals.len, Vals.get, Vals.set, Vals.app, Vals.sub, Vals.take, Vals.ofAgg_cons, Vals.ofList, Vals.toInts, Vals.toBools, Vals.toSls, Vals.toStrs, Vals.zeros, Nat.reduceBEq, Nat.reduceAdd, Nat.reduceEqDiff, cond_true, cond_false, Option.map_some, Option.map_none, List.length_cons, List.length_nil, List.replicate, List.set_cons_zero, List.set_cons_succ, Nat.reduceLT, Bool.not_true, Bool.not_false, Int.toNat_natCast, inR, Nat.zero_add, Int.toNat_zero, reduceCtorEq, IntKind.bits, List.nil_append, List.cons_append, Nat.add_zero, Nat.sub_zero, noughts_len, List.map_cons, List.map_nil, zp, zu]) | refine And.intro ?_ (fun hif => (hif trivial).elim) | (intro hif; try (first | contradiction | (exfalso; omega))))
  · refine ⟨?_, List.prefix_rfl⟩
    rw [wiresOf, if_neg hif]
  · have hN : NetOk net := by first | exact hif | exact Decidable.not_not.1 hif
    repeat' (first | refine xA ?_ | refine xB ?_ | refine xC ?_ | refine xD ?_ | refine xE ?_ | refine xF ?_ | refine xG ?_ | refine xH ?_ | refine xI rfl ?_ | refine xJ ?_ | refine xK ?_ | refine xL ?_ | refine xM rfl ?_ | refine xN rfl ?_ | refine xO rfl ?_ | (first | refine xP rfl (fun hif => ?_) (fun hif => ?_) | refine xQ rfl (fun hif => ?_) (fun hif => ?_) | refine xR rfl (fun hif => ?_) (fun hif => ?_) | refine xS rfl (fun hif => ?_) (fun hif => ?_)) <;> try (first | contradiction | (exfalso; omega)) | (refine hK _ _ ?_; clear hK K) | refine impl_WireList hs hN fun s' m' hp hw hW => ?_ | (refine And.intro (by first | omega | assumption | (constructor <;> omega)) ?_) | (refine And.intro (fun hif => ?_) (fun hif => ?_) <;> try (first | contradiction | (exfalso; omega))) | ((first | refine xT fun K hK => ?_ | refine xU fun K hK => ?_ | refine yB (fun K hK => ?_) (fun K hK => ?_) | refine xV ?_ | refine yA ?_ | refine xW ?_ | refine xX ?_ | refine xY ?_ | refine xZ ?_) <;> simp only [↓awpOps, ↓awpKeep, ↓awpKeepF, ↓aop, ↓aopQ, ↓abin, ↓aun, ↓onSome_some, ↓Kont_at, ↓KM_at, ↓KV_at, ↓KU_at, refId_row, Frame.ev, Frame.evs, Frame.evOr, Frame.put, Frame.keep, get_nil, get_cons, argFrame, resOf, fillA, Vals.len, Vals.get, Vals.set, Vals.app, Vals.sub, Vals.take, Vals.ofAgg_cons, Vals.ofList, Vals.toInts, Vals.toBools, Vals.toSls, Vals.toStrs, Vals.zeros, Nat.reduceBEq, Nat.reduceAdd, Nat.reduceEqDiff, cond_true, cond_false, Option.map_some, Option.map_none, List.length_cons, List.length_nil, List.replicate, List.set_cons_zero, List.set_cons_succ, Nat.reduceLT, Bool.not_true, Bool.not_false, Int.toNat_natCast, inR, Nat.zero_add, Int.toNat_zero, reduceCtorEq, IntKind.bits, List.nil_append, List.cons_append, Nat.add_zero, Nat.sub_zero, noughts_len, List.map_cons, List.map_nil, zp, zu]) | refine And.intro ?_ (fun hif => (hif trivial).elim) | (intro hif; try (first | contradiction | (exfalso; omega))))
    refine ⟨?_, hp⟩
    rw [wiresOf, if_pos hN, hW.len]

end Go.Abs

/- The wires in their order; lists that are the same. Own work; no condition. -/
set_option maxRecDepth 100000
set_option linter.unusedSimpArgs false
set_option linter.unusedVariables false
namespace Go.Abs
open Go.Proofs
attribute [local irreducible] awp awpOps awpKeep KeepK awpKeepF KeepF aloop ALoop ACalls ACallq AQuiet retPost retPostA AExit.thn AExit.blk aApp aSt aStA

theorem mem_in {net : List Int} {k : Nat} {x : List Int} : ∀ {j : Nat}, x ∈ wiresIn net k j → ∃ b : Nat, x = [(k : Int), (b : Int)] ∧ k < b ∧ b < j ∧ bit ((net.getD k 0)) b = true
  | 0, h => by simp [wiresIn] at h
  | j + 1, h => by
    rw [wiresIn] at h
    by_cases hc : k < j ∧ bit ((net.getD k 0)) j = true
    · rw [if_pos hc] at h
      rcases List.mem_append.1 h with h | h
      · obtain ⟨b, h1, h2, h3, h4⟩ := mem_in h
        exact ⟨b, h1, h2, by omega, h4⟩
      · exact ⟨j, by simpa using h, hc.1, by omega, hc.2⟩
    · rw [if_neg hc] at h
      obtain ⟨b, h1, h2, h3, h4⟩ := mem_in h
      exact ⟨b, h1, h2, by omega, h4⟩

theorem mem_to {net : List Int} {x : List Int} : ∀ {k : Nat}, x ∈ wiresTo net k → ∃ a b : Nat, x = [(a : Int), (b : Int)] ∧ a < k ∧ a < b ∧ b < net.length ∧ bit ((net.getD a 0)) b = true
  | 0, h => by simp [wiresTo] at h
  | k + 1, h => by
    rw [wiresTo] at h
    rcases List.mem_append.1 h with h | h
    · obtain ⟨a, b, h1, h2, h3⟩ := mem_to h
      exact ⟨a, b, h1, by omega, h3⟩
    · obtain ⟨b, h1, h2, h3, h4⟩ := mem_in h
      exact ⟨k, b, h1, by omega, h2, h3, h4⟩

/-- One wire stands ahead of another. -/
def Ahead (x y : List Int) : Prop := ∃ a b c d : Nat, x = [(a : Int), (b : Int)] ∧ y = [(c : Int), (d : Int)] ∧ (a < c ∨ a = c ∧ b < d)

theorem in_order (net : List Int) (k : Nat) : ∀ j, (wiresIn net k j).Pairwise Ahead
  | 0 => by simp [wiresIn]
  | j + 1 => by
    rw [wiresIn]
    by_cases hc : k < j ∧ bit ((net.getD k 0)) j = true
    · rw [if_pos hc, List.pairwise_append]
      refine ⟨in_order net k j, by simp, fun x hx y hy => ?_⟩
      obtain ⟨b, rfl, _, h3, _⟩ := mem_in hx
      obtain rfl : y = [(k : Int), (j : Int)] := by simpa using hy
      exact ⟨k, b, k, j, rfl, rfl, .inr ⟨rfl, h3⟩⟩
    · rw [if_neg hc]
      exact in_order net k j
theorem to_order (net : List Int) : ∀ k, (wiresTo net k).Pairwise Ahead
  | 0 => by simp [wiresTo]
  | k + 1 => by
    rw [wiresTo, List.pairwise_append]
    refine ⟨to_order net k, in_order net k _, fun x hx y hy => ?_⟩
    obtain ⟨a, b, rfl, h2, _⟩ := mem_to hx
    obtain ⟨d, rfl, _⟩ := mem_in hy
    exact ⟨a, b, k, d, rfl, rfl, .inl h2⟩

theorem wire_at {net : List Int} {i : Nat} (hi : i < (wires net).length) : ∃ a b : Nat, (wires net).getD i [] = [(a : Int), (b : Int)] ∧ a < net.length ∧ a < b ∧ b < net.length ∧ bit ((net.getD a 0)) b = true := by
  rw [List.getD_eq_getElem?_getD, List.getElem?_eq_getElem hi]
  exact mem_to (List.getElem_mem hi)
theorem wire_next {net : List Int} {i : Nat} (hi : i + 1 < (wires net).length) : Ahead ((wires net).getD i []) ((wires net).getD (i + 1) []) := by
  rw [List.getD_eq_getElem?_getD, List.getD_eq_getElem?_getD, List.getElem?_eq_getElem hi, List.getElem?_eq_getElem (by omega)]
  have h2 : i + 1 < (wiresTo net net.length).length := hi
  exact List.pairwise_iff_getElem.1 (to_order net net.length) i (i + 1) (by omega) h2 (by omega)

def wireList (net : List Int) : List (List Int) := if NetOk net then wires net else []

theorem impl_WireList_all {s : SV} {net : List Int} {m : Heap} {K : XV → Heap → Prop} (hs : IsInts .i64 m s net)
    (hK : ∀ (s' : SV) (m' : Heap), m <+: m' → m'.wf → IsWires m.length m' s' (wireList net) → K (.one (.sl s')) m') : ACalls Try.prog F.impl_WireList [.one (.sl s)] m K := by
  by_cases hN : NetOk net
  · exact impl_WireList hs hN fun s' m' h1 h2 h3 => hK s' m' h1 h2 (by rw [wireList, if_pos hN]; exact h3)
  · refine ACalls.wf fun hwf => ?_
    refine afn T.impl_WireList (by rfl) ?_
    repeat' (first | refine xA ?_ | refine xB ?_ | refine xC ?_ | refine xD ?_ | refine xE ?_ | refine xF ?_ | refine xG ?_ | refine xH ?_ | refine xI rfl ?_ | refine xJ ?_ | refine xK ?_ | refine xL ?_ | refine xM rfl ?_ | refine xN rfl ?_ | refine xO rfl ?_ | (first | refine xP rfl (fun hif => ?_) (fun hif => ?_) | refine xQ rfl (fun hif => ?_) (fun hif => ?_) | refine xR rfl (fun hif => ?_) (fun hif => ?_) | refine xS rfl (fun hif => ?_) (fun hif => ?_)) <;> try (first | contradiction | (exfalso; omega)) | (refine hK _ _ ?_; clear hK K) | refine AQuiet.call (impl_NetOk_b false hs (decide_eq_false hN)) trivial ?_ | (refine And.intro (by first | omega | assumption | (constructor <;> omega)) ?_) | (refine And.intro (fun hif => ?_) (fun hif => ?_) <;> try (first | contradiction | (exfalso; omega))) | ((first | refine xT fun K hK => ?_ | refine xU fun K hK => ?_ | refine yB (fun K hK => ?_) (fun K hK => ?_) | refine xV ?_ | refine yA ?_ | refine xW ?_ | refine xX ?_ | refine xY ?_ | refine xZ ?_) <;> simp only [↓awpOps, ↓awpKeep, ↓awpKeepF, ↓aop, ↓aopQ, ↓abin, ↓aun, ↓onSome_some, ↓Kont_at, ↓KM_at, ↓KV_at, ↓KU_at, refId_row, Frame.ev, Frame.evs, Frame.evOr, Frame.put, Frame.keep, get_nil, get_cons, argFrame, resOf, fillA, Vals.len, Vals.get, Vals.set, Vals.app, Vals.sub, Vals.take, Vals.ofAgg_cons, Vals.ofList, Vals.toInts, Vals.toBools, Vals.toSls, Vals.toStrs, Vals.zeros, Nat.reduceBEq, Nat.reduceAdd, Nat.reduceEqDiff, cond_true, cond_false, Option.map_some, Option.map_none, List.length_cons, List.length_nil, List.replicate, List.set_cons_zero, List.set_cons_succ, Nat.reduceLT, Bool.not_true, Bool.not_false, Int.toNat_natCast, inR, Nat.zero_add, Int.toNat_zero, reduceCtorEq, IntKind.bits, List.nil_append, List.cons_append, Nat.add_zero, Nat.sub_zero, noughts_len, List.map_cons, List.map_nil, zp, zu]) | refine And.intro ?_ (fun hif => (hif trivial).elim) | (intro hif; try (first | contradiction | (exfalso; omega))))
    exact hK _ _ List.prefix_rfl hwf (by rw [wireList, if_neg hN]; exact isWires_nil _ _)

theorem IsWires.rows {n0 : Nat} {m : Heap} {s : SV} {ll : List (List Int)} (h : IsWires n0 m s ll) : IsRows .i64 m s ll := by
  obtain ⟨svs, h1, h2, h3⟩ := h.own
  refine ⟨svs, h1.isSls, h2, fun i hi => ?_⟩
  obtain ⟨id, _, g2, g3⟩ := h3 i hi
  rw [g2]
  refine ⟨rfl, fun j hj => ?_⟩
  rw [Nat.zero_add]
  exact at_row g3 hj

theorem laws_sameInts (s t : SV) (l r : List Int) (m : Heap) (hs : IsInts .i64 m s l) (ht : IsInts .i64 m t r) (hl : l.length ≤ 1048576) : AQuiet Try.prog F.laws_sameInts [.one (.sl s), .one (.sl t)] m (.one (.bool (decide (l = r)))) := by
  obtain ⟨ref, off, len⟩ := s
  obtain rfl : len = l.length := hs.1
  obtain ⟨ref', off', len'⟩ := t
  obtain rfl : len' = r.length := ht.1
  refine aqn T.laws_sameInts (by rfl) ?_
  repeat' (first | refine xA ?_ | refine xB ?_ | refine xC ?_ | refine xD ?_ | refine xE ?_ | refine xF ?_ | refine xG ?_ | refine xH ?_ | refine xI rfl ?_ | refine xJ ?_ | refine xK ?_ | refine xL ?_ | refine xM rfl ?_ | refine xN rfl ?_ | refine xO rfl ?_ | (first | refine xP rfl (fun hif => ?_) (fun hif => ?_) | refine xQ rfl (fun hif => ?_) (fun hif => ?_) | refine xR rfl (fun hif => ?_) (fun hif => ?_) | refine xS rfl (fun hif => ?_) (fun hif => ?_)) <;> try (first | contradiction | (exfalso; omega)) | (refine hK _ _ ?_; clear hK K) | (refine And.intro (by first | omega | assumption | (constructor <;> omega)) ?_) | (refine And.intro (fun hif => ?_) (fun hif => ?_) <;> try (first | contradiction | (exfalso; omega))) | ((first | refine xT fun K hK => ?_ | refine xU fun K hK => ?_ | refine yB (fun K hK => ?_) (fun K hK => ?_) | refine xV ?_ | refine yA ?_ | refine xW ?_ | refine xX ?_ | refine xY ?_ | refine xZ ?_) <;> simp only [↓awpOps, ↓awpKeep, ↓awpKeepF, ↓aop, ↓aopQ, ↓abin, ↓aun, ↓onSome_some, ↓Kont_at, ↓KM_at, ↓KV_at, ↓KU_at, refId_row, Frame.ev, Frame.evs, Frame.evOr, Frame.put, Frame.keep, get_nil, get_cons, argFrame, resOf, fillA, Vals.len, Vals.get, Vals.set, Vals.app, Vals.sub, Vals.take, Vals.ofAgg_cons, Vals.ofList, Vals.toInts, Vals.toBools, Vals.toSls, Vals.toStrs, Vals.zeros, Nat.reduceBEq, Nat.reduceAdd, Nat.reduceEqDiff, cond_true, cond_false, Option.map_some, Option.map_none, List.length_cons, List.length_nil, List.replicate, List.set_cons_zero, List.set_cons_succ, Nat.reduceLT, Bool.not_true, Bool.not_false, Int.toNat_natCast, inR, Nat.zero_add, Int.toNat_zero, reduceCtorEq, IntKind.bits, List.nil_append, List.cons_append, Nat.add_zero, Nat.sub_zero, noughts_len, List.map_cons, List.map_nil, zp, zu]) | refine And.intro ?_ (fun hif => (hif trivial).elim) | (intro hif; try (first | contradiction | (exfalso; omega))))
  · refine ⟨?_, List.prefix_rfl⟩
    congr 2
    refine (decide_eq_false fun h => ?_).symm
    rw [h] at hif
    exact hif rfl
  · refine awp_loop ?_
    refine ALoop.by [0, 1, 5] (fun k : Nat => [(0, .one (.sl ⟨ref, off, l.length⟩)), (1, .one (.sl ⟨ref', off', r.length⟩)), (5, .one (.int .i64 k))]) (fun _ => m) (fun k => k ≤ l.length ∧ ∀ i, i < k → (l.getD i 0) = (r.getD i 0)) (fun k => l.length - k) 0 rfl rfl ⟨Nat.zero_le _, fun i hi => absurd hi (Nat.not_lt_zero _)⟩ ?_
    rintro k ⟨hk, hok⟩ K1 hK1
    have hlen : l.length = r.length := by omega
    repeat' (first | refine xA ?_ | refine xB ?_ | refine xC ?_ | refine xD ?_ | refine xE ?_ | refine xF ?_ | refine xG ?_ | refine xH ?_ | refine xI rfl ?_ | refine xJ ?_ | refine xK ?_ | refine xL ?_ | refine xM rfl ?_ | refine xN rfl ?_ | refine xO rfl ?_ | (first | refine xP rfl (fun hif => ?_) (fun hif => ?_) | refine xQ rfl (fun hif => ?_) (fun hif => ?_) | refine xR rfl (fun hif => ?_) (fun hif => ?_) | refine xS rfl (fun hif => ?_) (fun hif => ?_)) <;> try (first | contradiction | (exfalso; omega)) | (refine hK _ _ ?_; clear hK K) | refine onSome_of (hs.2 _ (by omega)) ?_ | refine onSome_of (ht.2 _ (by omega)) ?_ | (refine And.intro (by first | omega | assumption | (constructor <;> omega)) ?_) | (refine And.intro (fun hif => ?_) (fun hif => ?_) <;> try (first | contradiction | (exfalso; omega))) | ((first | refine xT fun K hK => ?_ | refine xU fun K hK => ?_ | refine yB (fun K hK => ?_) (fun K hK => ?_) | refine xV ?_ | refine yA ?_ | refine xW ?_ | refine xX ?_ | refine xY ?_ | refine xZ ?_) <;> simp only [↓awpOps, ↓awpKeep, ↓awpKeepF, ↓aop, ↓aopQ, ↓abin, ↓aun, ↓onSome_some, ↓Kont_at, ↓KM_at, ↓KV_at, ↓KU_at, refId_row, Frame.ev, Frame.evs, Frame.evOr, Frame.put, Frame.keep, get_nil, get_cons, argFrame, resOf, fillA, Vals.len, Vals.get, Vals.set, Vals.app, Vals.sub, Vals.take, Vals.ofAgg_cons, Vals.ofList, Vals.toInts, Vals.toBools, Vals.toSls, Vals.toStrs, Vals.zeros, Nat.reduceBEq, Nat.reduceAdd, Nat.reduceEqDiff, cond_true, cond_false, Option.map_some, Option.map_none, List.length_cons, List.length_nil, List.replicate, List.set_cons_zero, List.set_cons_succ, Nat.reduceLT, Bool.not_true, Bool.not_false, Int.toNat_natCast, inR, Nat.zero_add, Int.toNat_zero, reduceCtorEq, IntKind.bits, List.nil_append, List.cons_append, Nat.add_zero, Nat.sub_zero, noughts_len, List.map_cons, List.map_nil, zp, zu]) | refine And.intro ?_ (fun hif => (hif trivial).elim) | (intro hif; try (first | contradiction | (exfalso; omega))))
    · refine ⟨?_, List.prefix_rfl⟩
      congr 2
      refine (decide_eq_false fun h => ?_).symm
      rw [h] at hif
      exact hif rfl
    · refine hK1 (k + 1) _ _ rfl rfl ⟨by omega, fun i hi => ?_⟩ (by omega)
      rcases Nat.lt_succ_iff_lt_or_eq.1 hi with h | rfl
      · exact hok i h
      · exact Decidable.not_not.1 hif
    · refine ⟨?_, List.prefix_rfl⟩
      congr 2
      refine (decide_eq_true ?_).symm
      apply List.ext_getElem hlen
      intro i h1 h2
      have := hok i (by omega)
      simpa [List.getD_eq_getElem?_getD, h1, h2] using this

theorem laws_sameInts_t (s t : SV) (l : List Int) (m : Heap) (hs : IsInts .i64 m s l) (ht : IsInts .i64 m t l) (hl : l.length ≤ 1048576) : AQuiet Try.prog F.laws_sameInts [.one (.sl s), .one (.sl t)] m (.one (.bool true)) :=
  (laws_sameInts s t l l m hs ht hl).eq (by rw [decide_eq_true rfl])

end Go.Abs

/- A net less a wire. Own work; no condition. -/
set_option maxRecDepth 100000
set_option linter.unusedSimpArgs false
set_option linter.unusedVariables false
namespace Go.Abs
open Go.Proofs
attribute [local irreducible] awp awpOps awpKeep KeepK awpKeepF KeepF aloop ALoop ACalls ACallq AQuiet retPost retPostA AExit.thn AExit.blk aApp aSt aStA

theorem sub_bit : ∀ n, n < 64 → ∀ b, b < 6 → n.testBit b = true → (2 ^ b ≤ n ∧ ∀ j, j < 6 → (n - 2 ^ b).testBit j = (n.testBit j && !(j == b))) := by decide +kernel
theorem bit_sub {n : Int} {b : Nat} (h0 : 0 ≤ n ∧ n < 64) (hb : b < 6) (h : bit n b = true) : 2 ^ b ≤ n ∧ ∀ j, j < 6 → bit (n - 2 ^ b) j = (bit n j && !(j == b)) := by
  obtain ⟨x, rfl⟩ := Int.eq_ofNat_of_zero_le h0.1
  have h' : x.testBit b = true := by unfold bit at h; exact h
  obtain ⟨h1, h2⟩ := sub_bit x (by omega) b hb h'
  have e : ((x : Int) - 2 ^ b) = ((x - 2 ^ b : Nat) : Int) := by rw [pow_nat]; omega
  refine ⟨by rw [pow_nat]; omega, fun j hj => ?_⟩
  rw [e]
  unfold bit
  exact h2 j hj

theorem getI_set {l : List Int} {i k : Nat} {x : Int} (hi : i < l.length) : (l.set i x).getD k 0 = if i = k then x else l.getD k 0 := by
  simp only [List.getD_eq_getElem?_getD, List.getElem?_set]
  by_cases h : i = k
  · subst h; simp [hi]
  · simp [h]

/-- A net less one end of a wire, less both. -/
def less1 (net : List Int) (a b : Nat) : List Int := net.set a ((net.getD a 0) - 2 ^ b)
def less2 (net : List Int) (a b : Nat) : List Int := (less1 net a b).set b (((less1 net a b).getD b 0) - 2 ^ a)
theorem less1_len (net : List Int) (a b : Nat) : (less1 net a b).length = net.length := by simp [less1]
theorem less2_len (net : List Int) (a b : Nat) : (less2 net a b).length = net.length := by simp [less2, less1]

theorem less1_b {net : List Int} {a b : Nat} (_ : NetOk net) (ha : a < net.length) (_ : b < net.length) (hab : a ≠ b) (_ : bit ((net.getD a 0)) b = true) : ((less1 net a b).getD b 0) = (net.getD b 0) := by rw [less1, getI_set ha, if_neg hab]

section
variable {net : List Int} {a b : Nat} (h : NetOk net) (ha : a < net.length) (hb : b < net.length) (hab : a ≠ b) (hw : bit ((net.getD a 0)) b = true)
include h ha hb hab hw

theorem less2_get (k : Nat) : ((less2 net a b).getD k 0) = if k = b then (net.getD b 0) - 2 ^ a else if k = a then (net.getD a 0) - 2 ^ b else (net.getD k 0) := by
  rw [less2, getI_set (by rw [less1_len]; exact hb), less1_b h ha hb hab hw, less1, getI_set ha]
  by_cases e : k = b
  · simp only [if_pos e, if_pos e.symm]
  · simp only [if_neg e, if_neg fun c : b = k => e c.symm]
    by_cases e2 : k = a
    · simp only [if_pos e2, if_pos e2.symm]
    · simp only [if_neg e2, if_neg fun c : a = k => e2 c.symm]

theorem less1_no : ¬ NetOk (less1 net a b) := by
  intro c
  have h6 := h.six
  have s := c.sym (k := b) (j := a) (by rw [less1_len]; exact hb) (by rw [less1_len]; exact ha)
  rw [less1_b h ha hb hab hw, less1, getI_set ha, if_pos rfl] at s
  rw [h.sym hb ha, hw, (bit_sub (h.small ha) (by omega) hw).2 b (by omega)] at s
  simp at s

theorem less2_bit {k : Nat} (hk : k < net.length) {j : Nat} (hj : j < net.length) : bit (((less2 net a b).getD k 0)) j = (bit ((net.getD k 0)) j && !((k == a && j == b) || (k == b && j == a))) := by
  have h6 := h.six
  rw [less2_get h ha hb hab hw]
  by_cases e : k = b
  · subst e
    rw [if_pos rfl, (bit_sub (h.small hb) (by omega) (by rw [h.sym hb ha]; exact hw)).2 j (by omega)]
    have e1 : (k == a) = false := by simpa using Ne.symm hab
    rw [e1]; simp
  · rw [if_neg e]
    by_cases e2 : k = a
    · subst e2
      rw [if_pos rfl, (bit_sub (h.small ha) (by omega) hw).2 j (by omega)]
      have e1 : (k == b) = false := by simpa using e
      rw [e1]; simp
    · rw [if_neg e2]
      simp [e, e2]

theorem less2_yes : NetOk (less2 net a b) := by
  have h6 := h.six
  have hl := less2_len net a b
  have ga := bit_sub (h.small ha) (by omega : b < 6) hw
  have gb := bit_sub (h.small hb) (by omega : a < 6) (by rw [h.sym hb ha]; exact hw)
  have pa := (pow_bounds (p := a) (by omega)).1
  have pb := (pow_bounds (p := b) (by omega)).1
  have va := h.high a ha
  have vb := h.high b hb
  refine ⟨by rw [hl]; exact h.pos, by rw [hl]; exact h6, fun k hk => ?_, fun k hk => ?_, fun k hk => ?_, fun k hk j hj => ?_⟩
  · rw [hl] at hk
    have := h.low k hk
    rw [less2_get h ha hb hab hw]
    split
    · omega
    · split <;> omega
  · rw [hl] at hk ⊢
    have := h.high k hk
    rw [less2_get h ha hb hab hw]
    split
    · omega
    · split <;> omega
  · rw [hl] at hk
    rw [less2_bit h ha hb hab hw hk hk, h.own k hk]
    rfl
  · rw [hl] at hk
    rw [less2_bit h ha hb hab hw hk (by omega), less2_bit h ha hb hab hw (by omega) hk, h.both k hk j hj]
    congr 2
    rw [Bool.or_comm]
    congr 1 <;> rw [Bool.and_comm]
end

theorem push64_no {net : List Int} : ¬ NetOk (net ++ [64]) := by
  intro c
  have h6 := c.six
  have h1 := c.high net.length (by simp)
  have h2 := pow_le6 h6
  have e : (net ++ [64]).getD net.length 0 = 64 := by simp [List.getD_eq_getElem?_getD]
  rw [e] at h1
  omega

end Go.Abs

/- How many wires, by counting neighbours. Own work; no condition. -/
set_option maxRecDepth 100000
set_option linter.unusedSimpArgs false
set_option linter.unusedVariables false
namespace Go.Abs
open Go.Proofs
attribute [local irreducible] awp awpOps awpKeep KeepK awpKeepF KeepF aloop ALoop ACalls ACallq AQuiet retPost retPostA AExit.thn AExit.blk aApp aSt aStA

/-- One or nothing: is place j near place k? -/
def nb (net : List Int) (k j : Nat) : Nat := (bit ((net.getD k 0)) j).toNat

theorem pc_bits : ∀ n, n < 64 → pc n = (n.testBit 0).toNat + (n.testBit 1).toNat + (n.testBit 2).toNat + (n.testBit 3).toNat + (n.testBit 4).toNat + (n.testBit 5).toNat := by decide +kernel

theorem pc_nb {net : List Int} (h : NetOk net) {k : Nat} (hk : k < net.length) : pc ((net.getD k 0)).toNat = nb net k 0 + nb net k 1 + nb net k 2 + nb net k 3 + nb net k 4 + nb net k 5 := by
  have := h.small hk
  rw [pc_bits _ (by omega)]
  unfold nb bit
  rfl
theorem nb_one (net : List Int) (k j : Nat) : nb net k j ≤ 1 := by unfold nb; cases bit (net.getD k 0) j <;> simp
theorem nb_out {net : List Int} (h : NetOk net) {k j : Nat} (hk : k < net.length) (hj : net.length ≤ j) : nb net k j = 0 := by unfold nb; rw [bit_lt (h.low k hk) (h.high k hk) hj]; rfl
theorem nb_own {net : List Int} (h : NetOk net) {k : Nat} (hk : k < net.length) : nb net k k = 0 := by unfold nb; rw [h.own k hk]; rfl
theorem nb_sym {net : List Int} (h : NetOk net) {k j : Nat} (hk : k < net.length) (hj : j < net.length) : nb net k j = nb net j k := by unfold nb; rw [h.sym hk hj]

def sizes (net : List Int) : Nat → Nat
  | 0 => 0
  | k + 1 => sizes net k + pc ((net.getD k 0)).toNat

theorem in_zero (net : List Int) (k : Nat) : (wiresIn net k 0).length = 0 := rfl
theorem in_succ (net : List Int) (k j : Nat) : (wiresIn net k (j + 1)).length = (wiresIn net k j).length + if k < j then nb net k j else 0 := by
  rw [wiresIn]
  by_cases h : k < j
  · cases hb : bit (net.getD k 0) j with
    | true => rw [if_pos ⟨h, rfl⟩, if_pos h, List.length_append, nb, hb]; rfl
    | false => rw [if_neg (fun c => Bool.noConfusion c.2), if_pos h, nb, hb]; rfl
  · rw [if_neg (fun c => h c.1), if_neg h]; rfl
theorem to_succ (net : List Int) (k : Nat) : (wiresTo net (k + 1)).length = (wiresTo net k).length + (wiresIn net k net.length).length := by rw [wiresTo, List.length_append]

theorem count_wires {net : List Int} (h : NetOk net) : sizes net net.length = 2 * (wires net).length ∧ (wires net).length * 2 ≤ net.length * (net.length - 1) ∧ (∀ k, k < net.length → pc ((net.getD k 0)).toNat + 1 ≤ net.length) := by
  have h1 := h.pos
  have h6 := h.six
  have hc : net.length = 1 ∨ net.length = 2 ∨ net.length = 3 ∨ net.length = 4 ∨ net.length = 5 ∨ net.length = 6 := by omega
  have hp := fun k (hk : k < net.length) => pc_nb h hk
  have ho := fun k (hk : k < net.length) => nb_own h hk
  have hz := fun k j (hk : k < net.length) (hj : net.length ≤ j) => nb_out h hk hj
  have hs := fun k j (hk : k < net.length) (hj : j < net.length) => nb_sym h hk hj
  have hn := nb_one net
  clear h h1 h6
  rcases hc with e | e | e | e | e | e
  · have ew := congrArg List.length (show wires net = wiresTo net 1 by rw [wires, e])
    simp only [to_succ, e, in_succ, in_zero, Nat.reduceLT, Nat.reduceAdd, Nat.not_lt_zero, Nat.lt_irrefl, if_true, if_false, Nat.zero_add, Nat.add_zero, show (wiresTo net 0).length = 0 from rfl] at ew
    have p0 := hp 0 (by omega)
    have o0 := ho 0 (by omega)
    have z01 := hz 0 1 (by omega) (by omega)
    have z02 := hz 0 2 (by omega) (by omega)
    have z03 := hz 0 3 (by omega) (by omega)
    have z04 := hz 0 4 (by omega) (by omega)
    have z05 := hz 0 5 (by omega) (by omega)
    have es : sizes net net.length = pc ((net.getD 0 0)).toNat := by rw [e]; simp only [sizes, Nat.zero_add]
    clear hp ho hz hs hn
    refine ⟨by rw [es]; omega, by rw [e]; omega, fun k hk => ?_⟩
    have hk2 : k = 0 := by omega
    subst hk2; omega
  · have ew := congrArg List.length (show wires net = wiresTo net 2 by rw [wires, e])
    simp only [to_succ, e, in_succ, in_zero, Nat.reduceLT, Nat.reduceAdd, Nat.not_lt_zero, Nat.lt_irrefl, if_true, if_false, Nat.zero_add, Nat.add_zero, show (wiresTo net 0).length = 0 from rfl] at ew
    have p0 := hp 0 (by omega)
    have o0 := ho 0 (by omega)
    have z02 := hz 0 2 (by omega) (by omega)
    have z03 := hz 0 3 (by omega) (by omega)
    have z04 := hz 0 4 (by omega) (by omega)
    have z05 := hz 0 5 (by omega) (by omega)
    have p1 := hp 1 (by omega)
    have o1 := ho 1 (by omega)
    have s10 := hs 1 0 (by omega) (by omega)
    have n10 := hn 1 0
    have z12 := hz 1 2 (by omega) (by omega)
    have z13 := hz 1 3 (by omega) (by omega)
    have z14 := hz 1 4 (by omega) (by omega)
    have z15 := hz 1 5 (by omega) (by omega)
    have es : sizes net net.length = pc ((net.getD 0 0)).toNat + pc ((net.getD 1 0)).toNat := by rw [e]; simp only [sizes, Nat.zero_add]
    clear hp ho hz hs hn
    refine ⟨by rw [es]; omega, by rw [e]; omega, fun k hk => ?_⟩
    have hk2 : k = 0 ∨ k = 1 := by omega
    rcases hk2 with rfl | rfl <;> omega
  · have ew := congrArg List.length (show wires net = wiresTo net 3 by rw [wires, e])
    simp only [to_succ, e, in_succ, in_zero, Nat.reduceLT, Nat.reduceAdd, Nat.not_lt_zero, Nat.lt_irrefl, if_true, if_false, Nat.zero_add, Nat.add_zero, show (wiresTo net 0).length = 0 from rfl] at ew
    have p0 := hp 0 (by omega)
    have o0 := ho 0 (by omega)
    have z03 := hz 0 3 (by omega) (by omega)
    have z04 := hz 0 4 (by omega) (by omega)
    have z05 := hz 0 5 (by omega) (by omega)
    have p1 := hp 1 (by omega)
    have o1 := ho 1 (by omega)
    have s10 := hs 1 0 (by omega) (by omega)
    have n10 := hn 1 0
    have z13 := hz 1 3 (by omega) (by omega)
    have z14 := hz 1 4 (by omega) (by omega)
    have z15 := hz 1 5 (by omega) (by omega)
    have p2 := hp 2 (by omega)
    have o2 := ho 2 (by omega)
    have s20 := hs 2 0 (by omega) (by omega)
    have n20 := hn 2 0
    have s21 := hs 2 1 (by omega) (by omega)
    have n21 := hn 2 1
    have z23 := hz 2 3 (by omega) (by omega)
    have z24 := hz 2 4 (by omega) (by omega)
    have z25 := hz 2 5 (by omega) (by omega)
    have es : sizes net net.length = pc ((net.getD 0 0)).toNat + pc ((net.getD 1 0)).toNat + pc ((net.getD 2 0)).toNat := by rw [e]; simp only [sizes, Nat.zero_add]
    clear hp ho hz hs hn
    refine ⟨by rw [es]; omega, by rw [e]; omega, fun k hk => ?_⟩
    have hk2 : k = 0 ∨ k = 1 ∨ k = 2 := by omega
    rcases hk2 with rfl | rfl | rfl <;> omega
  · have ew := congrArg List.length (show wires net = wiresTo net 4 by rw [wires, e])
    simp only [to_succ, e, in_succ, in_zero, Nat.reduceLT, Nat.reduceAdd, Nat.not_lt_zero, Nat.lt_irrefl, if_true, if_false, Nat.zero_add, Nat.add_zero, show (wiresTo net 0).length = 0 from rfl] at ew
    have p0 := hp 0 (by omega)
    have o0 := ho 0 (by omega)
    have z04 := hz 0 4 (by omega) (by omega)
    have z05 := hz 0 5 (by omega) (by omega)
    have p1 := hp 1 (by omega)
    have o1 := ho 1 (by omega)
    have s10 := hs 1 0 (by omega) (by omega)
    have n10 := hn 1 0
    have z14 := hz 1 4 (by omega) (by omega)
    have z15 := hz 1 5 (by omega) (by omega)
    have p2 := hp 2 (by omega)
    have o2 := ho 2 (by omega)
    have s20 := hs 2 0 (by omega) (by omega)
    have n20 := hn 2 0
    have s21 := hs 2 1 (by omega) (by omega)
    have n21 := hn 2 1
    have z24 := hz 2 4 (by omega) (by omega)
    have z25 := hz 2 5 (by omega) (by omega)
    have p3 := hp 3 (by omega)
    have o3 := ho 3 (by omega)
    have s30 := hs 3 0 (by omega) (by omega)
    have n30 := hn 3 0
    have s31 := hs 3 1 (by omega) (by omega)
    have n31 := hn 3 1
    have s32 := hs 3 2 (by omega) (by omega)
    have n32 := hn 3 2
    have z34 := hz 3 4 (by omega) (by omega)
    have z35 := hz 3 5 (by omega) (by omega)
    have es : sizes net net.length = pc ((net.getD 0 0)).toNat + pc ((net.getD 1 0)).toNat + pc ((net.getD 2 0)).toNat + pc ((net.getD 3 0)).toNat := by rw [e]; simp only [sizes, Nat.zero_add]
    clear hp ho hz hs hn
    refine ⟨by rw [es]; omega, by rw [e]; omega, fun k hk => ?_⟩
    have hk2 : k = 0 ∨ k = 1 ∨ k = 2 ∨ k = 3 := by omega
    rcases hk2 with rfl | rfl | rfl | rfl <;> omega
  · have ew := congrArg List.length (show wires net = wiresTo net 5 by rw [wires, e])
    simp only [to_succ, e, in_succ, in_zero, Nat.reduceLT, Nat.reduceAdd, Nat.not_lt_zero, Nat.lt_irrefl, if_true, if_false, Nat.zero_add, Nat.add_zero, show (wiresTo net 0).length = 0 from rfl] at ew
    have p0 := hp 0 (by omega)
    have o0 := ho 0 (by omega)
    have z05 := hz 0 5 (by omega) (by omega)
    have p1 := hp 1 (by omega)
    have o1 := ho 1 (by omega)
    have s10 := hs 1 0 (by omega) (by omega)
    have n10 := hn 1 0
    have z15 := hz 1 5 (by omega) (by omega)
    have p2 := hp 2 (by omega)
    have o2 := ho 2 (by omega)
    have s20 := hs 2 0 (by omega) (by omega)
    have n20 := hn 2 0
    have s21 := hs 2 1 (by omega) (by omega)
    have n21 := hn 2 1
    have z25 := hz 2 5 (by omega) (by omega)
    have p3 := hp 3 (by omega)
    have o3 := ho 3 (by omega)
    have s30 := hs 3 0 (by omega) (by omega)
    have n30 := hn 3 0
    have s31 := hs 3 1 (by omega) (by omega)
    have n31 := hn 3 1
    have s32 := hs 3 2 (by omega) (by omega)
    have n32 := hn 3 2
    have z35 := hz 3 5 (by omega) (by omega)
    have p4 := hp 4 (by omega)
    have o4 := ho 4 (by omega)
    have s40 := hs 4 0 (by omega) (by omega)
    have n40 := hn 4 0
    have s41 := hs 4 1 (by omega) (by omega)
    have n41 := hn 4 1
    have s42 := hs 4 2 (by omega) (by omega)
    have n42 := hn 4 2
    have s43 := hs 4 3 (by omega) (by omega)
    have n43 := hn 4 3
    have z45 := hz 4 5 (by omega) (by omega)
    have es : sizes net net.length = pc ((net.getD 0 0)).toNat + pc ((net.getD 1 0)).toNat + pc ((net.getD 2 0)).toNat + pc ((net.getD 3 0)).toNat + pc ((net.getD 4 0)).toNat := by rw [e]; simp only [sizes, Nat.zero_add]
    clear hp ho hz hs hn
    refine ⟨by rw [es]; omega, by rw [e]; omega, fun k hk => ?_⟩
    have hk2 : k = 0 ∨ k = 1 ∨ k = 2 ∨ k = 3 ∨ k = 4 := by omega
    rcases hk2 with rfl | rfl | rfl | rfl | rfl <;> omega
  · have ew := congrArg List.length (show wires net = wiresTo net 6 by rw [wires, e])
    simp only [to_succ, e, in_succ, in_zero, Nat.reduceLT, Nat.reduceAdd, Nat.not_lt_zero, Nat.lt_irrefl, if_true, if_false, Nat.zero_add, Nat.add_zero, show (wiresTo net 0).length = 0 from rfl] at ew
    have p0 := hp 0 (by omega)
    have o0 := ho 0 (by omega)
    have p1 := hp 1 (by omega)
    have o1 := ho 1 (by omega)
    have s10 := hs 1 0 (by omega) (by omega)
    have n10 := hn 1 0
    have p2 := hp 2 (by omega)
    have o2 := ho 2 (by omega)
    have s20 := hs 2 0 (by omega) (by omega)
    have n20 := hn 2 0
    have s21 := hs 2 1 (by omega) (by omega)
    have n21 := hn 2 1
    have p3 := hp 3 (by omega)
    have o3 := ho 3 (by omega)
    have s30 := hs 3 0 (by omega) (by omega)
    have n30 := hn 3 0
    have s31 := hs 3 1 (by omega) (by omega)
    have n31 := hn 3 1
    have s32 := hs 3 2 (by omega) (by omega)
    have n32 := hn 3 2
    have p4 := hp 4 (by omega)
    have o4 := ho 4 (by omega)
    have s40 := hs 4 0 (by omega) (by omega)
    have n40 := hn 4 0
    have s41 := hs 4 1 (by omega) (by omega)
    have n41 := hn 4 1
    have s42 := hs 4 2 (by omega) (by omega)
    have n42 := hn 4 2
    have s43 := hs 4 3 (by omega) (by omega)
    have n43 := hn 4 3
    have p5 := hp 5 (by omega)
    have o5 := ho 5 (by omega)
    have s50 := hs 5 0 (by omega) (by omega)
    have n50 := hn 5 0
    have s51 := hs 5 1 (by omega) (by omega)
    have n51 := hn 5 1
    have s52 := hs 5 2 (by omega) (by omega)
    have n52 := hn 5 2
    have s53 := hs 5 3 (by omega) (by omega)
    have n53 := hn 5 3
    have s54 := hs 5 4 (by omega) (by omega)
    have n54 := hn 5 4
    have es : sizes net net.length = pc ((net.getD 0 0)).toNat + pc ((net.getD 1 0)).toNat + pc ((net.getD 2 0)).toNat + pc ((net.getD 3 0)).toNat + pc ((net.getD 4 0)).toNat + pc ((net.getD 5 0)).toNat := by rw [e]; simp only [sizes, Nat.zero_add]
    clear hp ho hz hs hn
    refine ⟨by rw [es]; omega, by rw [e]; omega, fun k hk => ?_⟩
    have hk2 : k = 0 ∨ k = 1 ∨ k = 2 ∨ k = 3 ∨ k = 4 ∨ k = 5 := by omega
    rcases hk2 with rfl | rfl | rfl | rfl | rfl | rfl <;> omega

theorem most_le (net : List Int) (c : Int) (hc : 0 ≤ c) : ∀ k, (∀ i, i < k → (pc ((net.getD i 0)).toNat : Int) ≤ c) → most net k ≤ c
  | 0, _ => hc
  | k + 1, h => by
    have h1 := most_le net c hc k fun i hi => h i (by omega)
    have h2 := h k (by omega)
    unfold most
    omega
theorem le_most (net : List Int) : ∀ k i, i < k → (pc ((net.getD i 0)).toNat : Int) ≤ most net k
  | 0, _, h => absurd h (Nat.not_lt_zero _)
  | k + 1, i, h => by
    unfold most
    rcases Nat.lt_succ_iff_lt_or_eq.1 h with h | rfl
    · have := le_most net k i h; omega
    · omega
theorem most_succ (net : List Int) (k : Nat) : most net (k + 1) = max (most net k) (pc ((net.getD k 0)).toNat) := rfl
theorem sizes_most (net : List Int) : ∀ k, (sizes net k : Int) ≤ most net k * k ∧ (sizes net k = 0 → most net k = 0)
  | 0 => ⟨by simp [sizes], fun _ => rfl⟩
  | k + 1 => by
    have h1 := sizes_most net k
    have h2 := most_pos net k
    have h3 : most net k * k ≤ most net (k + 1) * k := Int.mul_le_mul_of_nonneg_right (by rw [most_succ]; omega) (by omega)
    have h4 : (pc ((net.getD k 0)).toNat : Int) ≤ most net (k + 1) := le_most net (k + 1) k (by omega)
    refine ⟨?_, fun h0 => ?_⟩
    · have e : most net (k + 1) * ((k + 1 : Nat) : Int) = most net (k + 1) * k + most net (k + 1) := by rw [Int.natCast_add, Int.mul_add]; simp
      rw [e]
      unfold sizes
      omega
    · unfold sizes at h0
      have := h1.2 (by omega)
      rw [most_succ]
      omega

end Go.Abs

/- Sums over places and over wires. Own work; no condition. -/
namespace Go.Abs

/-- The sum of f over the numbers below n. -/
def sig : Nat → (Nat → Int) → Int
  | 0, _ => 0
  | n + 1, f => sig n f + f n
theorem sig_succ (n : Nat) (f : Nat → Int) : sig (n + 1) f = sig n f + f n := rfl
theorem sig_zero (f : Nat → Int) : sig 0 f = 0 := rfl
theorem sig_congr {f g : Nat → Int} : ∀ {n : Nat}, (∀ i, i < n → f i = g i) → sig n f = sig n g
  | 0, _ => rfl
  | n + 1, h => by rw [sig_succ, sig_succ, sig_congr fun i hi => h i (by omega), h n (by omega)]
theorem sig_add (f g : Nat → Int) : ∀ n, sig n (fun i => f i + g i) = sig n f + sig n g
  | 0 => rfl
  | n + 1 => by rw [sig_succ, sig_succ, sig_succ, sig_add f g n]; omega
theorem sig_mul (c : Int) (f : Nat → Int) : ∀ n, sig n (fun i => c * f i) = c * sig n f
  | 0 => by simp [sig_zero]
  | n + 1 => by rw [sig_succ, sig_succ, sig_mul c f n, Int.mul_add]
theorem sig_none : ∀ n, sig n (fun _ => 0) = 0
  | 0 => rfl
  | n + 1 => by rw [sig_succ, sig_none n]; rfl
theorem sig_swap (f : Nat → Nat → Int) : ∀ n m, (sig n fun i => sig m fun j => f i j) = sig m fun j => sig n fun i => f i j
  | 0, m => by simp only [sig_zero, sig_none]
  | n + 1, m => by simp only [sig_succ]; rw [sig_swap f n m, sig_add]
theorem sig_nonneg {f : Nat → Int} : ∀ {n : Nat}, (∀ i, i < n → 0 ≤ f i) → 0 ≤ sig n f
  | 0, _ => Int.le_refl _
  | n + 1, h => by have := sig_nonneg (n := n) fun i hi => h i (by omega); have := h n (by omega); rw [sig_succ]; omega
theorem sig_le {f g : Nat → Int} : ∀ {n : Nat}, (∀ i, i < n → f i ≤ g i) → sig n f ≤ sig n g
  | 0, _ => Int.le_refl _
  | n + 1, h => by have := sig_le (n := n) fun i hi => h i (by omega); have := h n (by omega); rw [sig_succ, sig_succ]; omega
/-- What is nought from n on. -/
theorem sig_ext {f : Nat → Int} {n : Nat} : ∀ {m : Nat}, n ≤ m → (∀ i, n ≤ i → i < m → f i = 0) → sig m f = sig n f
  | 0, h, _ => by rw [Nat.le_zero.1 h]
  | m + 1, h, hz => by
    by_cases e : n = m + 1
    · rw [e]
    · rw [sig_succ, hz m (by omega) (by omega), sig_ext (m := m) (by omega) fun i h1 h2 => hz i h1 (by omega)]; omega

/-- The sum over all pairs is that over pairs in order, both ways. -/
theorem sig_pairs (A : Nat → Nat → Int) (n : Nat) (hd : ∀ i, i < n → A i i = 0) : (sig n fun i => sig n fun j => A i j) = sig n fun i => sig n fun j => if i < j then A i j + A j i else 0 := by
  have h1 : (sig n fun i => sig n fun j => A i j) = (sig n fun i => sig n fun j => if i < j then A i j else 0) + sig n fun i => sig n fun j => if j < i then A i j else 0 := by
    rw [← sig_add]
    refine sig_congr fun i hi => ?_
    rw [← sig_add]
    refine sig_congr fun j _ => ?_
    rcases Nat.lt_trichotomy i j with h | rfl | h
    · rw [if_pos h, if_neg (by omega)]; omega
    · rw [if_neg (by omega), hd i hi]; rfl
    · rw [if_neg (by omega), if_pos h]; omega
  rw [h1, sig_swap (fun i j => if j < i then A i j else 0), ← sig_add]
  refine sig_congr fun i _ => ?_
  rw [← sig_add]
  refine sig_congr fun j _ => ?_
  by_cases h : i < j
  · rw [if_pos h, if_pos h, if_pos h]
  · rw [if_neg h, if_neg h, if_neg h]; rfl

theorem in_sum (net : List Int) (F : List Int → Int) (k : Nat) : ∀ j, ((wiresIn net k j).map F).sum = sig j fun j => if k < j ∧ bit ((net.getD k 0)) j = true then F [(k : Int), (j : Int)] else 0
  | 0 => rfl
  | j + 1 => by
    rw [sig_succ, ← in_sum net F k j, wiresIn]
    by_cases h : k < j ∧ bit ((net.getD k 0)) j = true
    · rw [if_pos h, if_pos h, List.map_append, List.sum_append]; simp
    · rw [if_neg h, if_neg h]; omega
theorem to_sum (net : List Int) (F : List Int → Int) : ∀ k, ((wiresTo net k).map F).sum = sig k fun k => sig net.length fun j => if k < j ∧ bit ((net.getD k 0)) j = true then F [(k : Int), (j : Int)] else 0
  | 0 => rfl
  | k + 1 => by rw [sig_succ, ← to_sum net F k, wiresTo, List.map_append, List.sum_append, in_sum]
theorem wires_sum (net : List Int) (F : List Int → Int) : ((wires net).map F).sum = sig net.length fun k => sig net.length fun j => if k < j ∧ bit ((net.getD k 0)) j = true then F [(k : Int), (j : Int)] else 0 := to_sum net F net.length

theorem pc_sig {net : List Int} (h : NetOk net) {k : Nat} (hk : k < net.length) : (pc ((net.getD k 0)).toNat : Int) = sig net.length fun j => (nb net k j : Int) := by
  rw [pc_nb h hk, ← sig_ext (m := 6) h.six fun i h1 _ => by rw [nb_out h hk h1]; rfl]
  simp only [sig]
  omega

/-- The sum of a list, from its head on. -/
def psum (l : List Int) (k : Nat) : Int := sig k fun i => (l.getD i 0)
theorem psum_sum : ∀ l : List Int, psum l l.length = l.sum := by
  intro l
  have key : ∀ (l : List Int) (k : Nat), k ≤ l.length → psum l k = (l.take k).sum := by
    intro l k
    induction k with
    | zero => intro _; rfl
    | succ k ih =>
      intro h
      rw [psum, sig_succ, List.take_succ_eq_append_getElem (by omega), List.sum_append, ← ih (by omega)]
      simp [psum, List.getD_eq_getElem?_getD, show k < l.length by omega]
  rw [key l l.length (Nat.le_refl _), List.take_length]

end Go.Abs

/- A net less a wire has one wire less. Own work; no condition. -/
set_option maxRecDepth 100000
set_option linter.unusedSimpArgs false
set_option linter.unusedVariables false
namespace Go.Abs
open Go.Proofs
attribute [local irreducible] awp awpOps awpKeep KeepK awpKeepF KeepF aloop ALoop ACalls ACallq AQuiet retPost retPostA AExit.thn AExit.blk aApp aSt aStA

theorem sizes_sig (net : List Int) : ∀ k, (sizes net k : Int) = sig k fun i => (pc ((net.getD i 0)).toNat : Int)
  | 0 => rfl
  | k + 1 => by rw [sig_succ, ← sizes_sig net k]; rfl

/-- A sum of which one part is less by one. -/
theorem sig_less {f g : Nat → Int} {a : Nat} : ∀ {n : Nat}, a < n → (∀ i, i ≠ a → g i = f i) → g a = f a - 1 → sig n g = sig n f - 1
  | 0, h, _, _ => absurd h (Nat.not_lt_zero _)
  | n + 1, h, h1, h2 => by
    rw [sig_succ, sig_succ]
    by_cases e : a = n
    · subst e
      rw [sig_congr (f := g) (g := f) fun i hi => h1 i (by omega), h2]; omega
    · rw [sig_less (n := n) (by omega) h1 h2, h1 n (by omega)]; omega

theorem pc_sub : ∀ n, n < 64 → ∀ b, b < 6 → n.testBit b = true → pc (n - 2 ^ b) + 1 = pc n := by decide +kernel
theorem pc_bit {n : Int} {b : Nat} (h0 : 0 ≤ n ∧ n < 64) (hb : b < 6) (h : bit n b = true) : pc (n - 2 ^ b).toNat + 1 = pc n.toNat := by
  obtain ⟨x, rfl⟩ := Int.eq_ofNat_of_zero_le h0.1
  have h1 := (bit_sub h0 hb h).1
  have h' : x.testBit b = true := by unfold bit at h; exact h
  have e : ((x : Int) - 2 ^ b).toNat = x - 2 ^ b := by rw [pow_nat] at h1 ⊢; omega
  rw [e]
  exact pc_sub x (by omega) b hb h'

theorem wires_less2 {net : List Int} {a b : Nat} (h : NetOk net) (ha : a < net.length) (hb : b < net.length) (hab : a ≠ b) (hw : bit ((net.getD a 0)) b = true) : (wires (less2 net a b)).length + 1 = (wires net).length := by
  have h6 := h.six
  have hY := less2_yes h ha hb hab hw
  have c1 := (count_wires h).1
  have c2 := (count_wires hY).1
  rw [less2_len] at c2
  have e1 := sizes_sig net net.length
  have e2 := sizes_sig (less2 net a b) net.length
  have hg := less2_get h ha hb hab hw
  have pa := pc_bit (h.small ha) (by omega : b < 6) hw
  have pb := pc_bit (h.small hb) (by omega : a < 6) (by rw [h.sym hb ha]; exact hw)
  have s1 := sig_less (f := fun i => (pc ((net.getD i 0)).toNat : Int)) (g := fun i => if i = a then (pc ((net.getD a 0) - 2 ^ b).toNat : Int) else (pc ((net.getD i 0)).toNat : Int)) ha (fun i hi => if_neg hi) (by simp only [if_true]; omega)
  have s2 := sig_less (f := fun i => if i = a then (pc ((net.getD a 0) - 2 ^ b).toNat : Int) else (pc ((net.getD i 0)).toNat : Int)) (g := fun i => (pc (((less2 net a b).getD i 0)).toNat : Int)) hb (fun i hi => by
    rw [hg, if_neg hi]
    by_cases e : i = a
    · rw [if_pos e, if_pos e]
    · rw [if_neg e, if_neg e]) (by
    rw [hg, if_pos rfl, if_neg (fun c => hab c.symm)]
    omega)
  rw [← e1] at s1
  omega

theorem bxor_bit : ∀ x, x < 64 → ∀ b, b < 6 → x.testBit b = true → bxorInt .i64 ((x : Nat) : Int) ((2 ^ b : Nat) : Int) = ((x - 2 ^ b : Nat) : Int) := by decide +kernel
theorem bxor_less {n : Int} {b : Nat} (h0 : 0 ≤ n ∧ n < 64) (hb : b < 6) (h : bit n b = true) : bxorInt .i64 n (2 ^ b) = n - 2 ^ b := by
  obtain ⟨x, rfl⟩ := Int.eq_ofNat_of_zero_le h0.1
  have h1 := (bit_sub h0 hb h).1
  have h' : x.testBit b = true := by unfold bit at h; exact h
  rw [pow_nat] at h1 ⊢
  rw [bxor_bit x (by omega) b hb h']
  omega

end Go.Abs
