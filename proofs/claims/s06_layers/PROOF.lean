import PyProof.Rows.All
import Wide.All
import OpenK.AllK
import Wide.FinOn
import Open.SpecLaws
import KE.OsGo
import HandS.Base
import HandS.Call
import HandS.List
import HandS.Comp
import HandS.Ends
import HandS.Spec
import HandS.Words
import HandS.Dict
import HandS.WordsDict
import PySem.Challenge.RW_towerwatch_s06_layers
set_option Elab.async false
set_option maxRecDepth 100000
set_option maxHeartbeats 2000000
/-! ## The mathematics: one rule, watched tower by tower -/
namespace TW
/-- what is looked at in a state: the flag of i down, the rule down and up -/
def liftAt (i r s : Nat) : Bool := !Kzk1.bit s i && !Kzk1.bit r s && Kzk1.bit r (s + 2 ^ i)
def lowAt (i r s : Nat) : Bool := !Kzk1.bit s i && Kzk1.bit r s && !Kzk1.bit r (s + 2 ^ i)
def liftN (i r k : Nat) : Nat := if (List.range k).any (liftAt i r) then 1 else 0
def lowN (i r k : Nat) : Nat := if (List.range k).any (lowAt i r) then 2 else 0
def watchN (n i r : Nat) : Nat := liftN i r (2 ^ n) + lowN i r (2 ^ n)
theorem kind_eq (n : Nat) (t : List Nat) (i j : Nat) : Kzk2.kind n t i j = watchN n i (t.getD j 0) := rfl
/-- a place's digit -/
def dig (a p : Nat) : Nat := a / 2 ^ p % 2
theorem dig_lt (a p : Nat) : dig a p < 2 := Nat.mod_lt _ (by omega)
theorem bit_eq (a p : Nat) : Kzk1.bit a p = (dig a p == 1) := rfl
theorem dig_two (a p : Nat) : dig a p = 0 ∨ dig a p = 1 := by
  have := dig_lt a p
  omega
theorem any_succ (k : Nat) (f : Nat → Bool) : (List.range (k + 1)).any f = ((List.range k).any f || f k) := by
  rw [List.range_succ, List.any_append]
  simp
theorem liftN_succ (i r k : Nat) : liftN i r (k + 1) = if liftAt i r k then 1 else liftN i r k := by
  unfold liftN
  rw [any_succ]
  cases (List.range k).any (liftAt i r) <;> cases liftAt i r k <;> rfl
theorem lowN_succ (i r k : Nat) : lowN i r (k + 1) = if lowAt i r k then 2 else lowN i r k := by
  unfold lowN
  rw [any_succ]
  cases (List.range k).any (lowAt i r) <;> cases lowAt i r k <;> rfl
theorem lift_up {i r k : Nat} (h : dig k i ≠ 0) : liftAt i r k = false := by
  unfold liftAt
  rw [bit_eq, (dig_two k i).resolve_left h]
  rfl
theorem low_up {i r k : Nat} (h : dig k i ≠ 0) : lowAt i r k = false := by
  unfold lowAt
  rw [bit_eq, (dig_two k i).resolve_left h]
  rfl
theorem lift_down {i r k : Nat} (h : dig k i = 0) : liftAt i r k = decide (dig r k < dig r (k + 2 ^ i)) := by
  unfold liftAt
  rw [bit_eq, bit_eq, bit_eq, h]
  rcases dig_two r k with e1 | e1 <;> rcases dig_two r (k + 2 ^ i) with e2 | e2 <;> rw [e1, e2] <;> rfl
theorem low_down {i r k : Nat} (h : dig k i = 0) : lowAt i r k = decide (dig r (k + 2 ^ i) < dig r k) := by
  unfold lowAt
  rw [bit_eq, bit_eq, bit_eq, h]
  rcases dig_two r k with e1 | e1 <;> rcases dig_two r (k + 2 ^ i) with e2 | e2 <;> rw [e1, e2] <;> rfl
/-- n and t as they are handed in -/
theorem ok_n {n : Nat} {t : List Nat} (h : n < 1 ∨ 4 < n) : Kzk1.okTowers n t = false := by
  unfold Kzk1.okTowers
  have : (decide (1 ≤ n) && decide (n ≤ 4)) = false := by
    rw [Bool.and_eq_false_iff, decide_eq_false_iff_not, decide_eq_false_iff_not]; omega
  rw [this]; rfl
theorem ok_len {n : Nat} {t : List Nat} (h : t.length ≠ n) : Kzk1.okTowers n t = false := by
  unfold Kzk1.okTowers
  rw [beq_eq_false_iff_ne.mpr h, Bool.and_false]; rfl
theorem ok_all {n : Nat} {t : List Nat} (h : ¬ (n < 1 ∨ 4 < n)) (hl : t.length = n) : Kzk1.okTowers n t = t.all fun r => decide (r < 2 ^ 2 ^ n) := by
  unfold Kzk1.okTowers
  have : (decide (1 ≤ n) && decide (n ≤ 4)) = true := by
    rw [Bool.and_eq_true, decide_eq_true_iff, decide_eq_true_iff]; omega
  rw [this, beq_iff_eq.mpr hl]; rfl
theorem ok_iff {n : Nat} {t : List Nat} (h : Kzk1.okTowers n t = true) : 1 ≤ n ∧ n ≤ 4 ∧ t.length = n := by
  unfold Kzk1.okTowers at h
  simp only [Bool.and_eq_true, beq_iff_eq, decide_eq_true_eq] at h
  exact ⟨h.1.1.1, h.1.1.2, h.1.2⟩
/-- whole numbers from nought -/
def up (l : List Nat) : List Int := l.map fun (x : Nat) => (x : Int)
theorem nats_of : ∀ {l : List Int}, (∀ x ∈ l, 0 ≤ x) → ∃ m : List Nat, l = up m
  | [], _ => ⟨[], rfl⟩
  | a :: r, h => by
    obtain ⟨m, e⟩ := nats_of (l := r) fun x hx => h x (List.mem_cons_of_mem _ hx)
    obtain ⟨k, hk⟩ := Int.eq_ofNat_of_zero_le (h a List.mem_cons_self)
    exact ⟨k :: m, by rw [e, hk]; rfl⟩
theorem natsOf_up (m : List Nat) : Kzk2Neutral.natsOf (up m) = m := by
  unfold Kzk2Neutral.natsOf up
  rw [List.map_map]
  have : (Int.toNat ∘ fun (x : Nat) => (x : Int)) = id := by funext x; rfl
  rw [this, List.map_id]
theorem all_range_lt (l : List Nat) (k : Nat) : (l.map fun (x : Nat) => decide ((x : Int) < (k : Int))).all id = l.all fun r => decide (r < k) := by
  rw [List.all_map]
  congr 1
  funext x
  exact decide_eq_decide.mpr (by omega)
theorem pow_le {a b : Nat} (h : a ≤ b) : 2 ^ a ≤ 2 ^ b := Nat.pow_le_pow_right (by omega) h
end TW
/-! ## What is due of ring, even, odd, layers, case by case -/
namespace TW
theorem ring_due (n : Nat) (t l : List Nat) : PyKzk2.ring (n : Int) (up t) (up l) = (Kzk2.answer (.ring n t l)).value :: Kzk2Neutral.ints (Kzk2.answer (.ring n t l)).nums := by
  have h : Kzk2Neutral.callOf [[2, (n : Int)], up t, up l] = some (Kzk2.Call.ring n (Kzk2Neutral.natsOf (up t)) (Kzk2Neutral.natsOf (up l))) := rfl
  rw [natsOf_up, natsOf_up] at h
  unfold PyKzk2.ring Kzk2Neutral.f
  rw [h]
theorem ring_22 {n : Nat} {t l : List Nat} (h : Kzk1.okTowers n t = false ∨ Kzk2.okRing n l = false) : PyKzk2.ring (n : Int) (up t) (up l) = [-22] := by
  rw [ring_due]
  unfold Kzk2.answer
  dsimp only
  rw [if_pos h]; rfl
theorem ring_6 {n : Nat} {t l : List Nat} (h : Kzk1.okTowers n t = true) (h2 : Kzk2.okRing n l = true) (h3 : (Kzk2.steps (Kzk2.kinds n t) l).contains 0 = true) : PyKzk2.ring (n : Int) (up t) (up l) = [-6] := by
  rw [ring_due]
  unfold Kzk2.answer
  dsimp only
  rw [if_neg (by rw [h, h2]; decide), if_pos h3]; rfl
theorem ring_ok {n : Nat} {t l : List Nat} (h : Kzk1.okTowers n t = true) (h2 : Kzk2.okRing n l = true) (h3 : (Kzk2.steps (Kzk2.kinds n t) l).contains 0 = false) :
    PyKzk2.ring (n : Int) (up t) (up l) = [(((if (Kzk2.parity (Kzk2.steps (Kzk2.kinds n t) l)).1 then 1 else 0) + (if (Kzk2.parity (Kzk2.steps (Kzk2.kinds n t) l)).2 then 2 else 0) : Nat) : Int)] := by
  rw [ring_due]
  unfold Kzk2.answer
  dsimp only
  rw [if_neg (by rw [h, h2]; decide), if_neg (by rw [h3]; decide)]; rfl
theorem even_due (n : Nat) (t : List Nat) : PyKzk2.even (n : Int) (up t) = (Kzk2.answer (.even n t)).value :: Kzk2Neutral.ints (Kzk2.answer (.even n t)).nums := by
  have h : Kzk2Neutral.callOf [[3, (n : Int)], up t] = some (Kzk2.Call.even n (Kzk2Neutral.natsOf (up t))) := rfl
  rw [natsOf_up] at h
  unfold PyKzk2.even Kzk2Neutral.f
  rw [h]
theorem even_22 {n : Nat} {t : List Nat} (h : Kzk1.okTowers n t = false) : PyKzk2.even (n : Int) (up t) = [-22] := by
  rw [even_due]
  unfold Kzk2.answer
  dsimp only
  rw [if_pos h]; rfl
theorem even_none {n : Nat} {t : List Nat} (h : Kzk1.okTowers n t = true) (h2 : Kzk2.even n t = none) : PyKzk2.even (n : Int) (up t) = [-33] := by
  rw [even_due]
  unfold Kzk2.answer
  dsimp only
  rw [if_neg (by rw [h]; decide), h2]; rfl
theorem even_some {n : Nat} {t l : List Nat} (h : Kzk1.okTowers n t = true) (h2 : Kzk2.even n t = some l) : PyKzk2.even (n : Int) (up t) = ((l.length : Nat) : Int) :: up l := by
  rw [even_due]
  unfold Kzk2.answer
  dsimp only
  rw [if_neg (by rw [h]; decide), h2]; rfl
theorem odd_due (n : Nat) (t : List Nat) : PyKzk2.odd (n : Int) (up t) = (Kzk2.answer (.odd n t)).value :: Kzk2Neutral.ints (Kzk2.answer (.odd n t)).nums := by
  have h : Kzk2Neutral.callOf [[4, (n : Int)], up t] = some (Kzk2.Call.odd n (Kzk2Neutral.natsOf (up t))) := rfl
  rw [natsOf_up] at h
  unfold PyKzk2.odd Kzk2Neutral.f
  rw [h]
theorem odd_22 {n : Nat} {t : List Nat} (h : Kzk1.okTowers n t = false) : PyKzk2.odd (n : Int) (up t) = [-22] := by
  rw [odd_due]
  unfold Kzk2.answer
  dsimp only
  rw [if_pos h]; rfl
theorem odd_none {n : Nat} {t : List Nat} (h : Kzk1.okTowers n t = true) (h2 : Kzk2.odd n t = none) : PyKzk2.odd (n : Int) (up t) = [-33] := by
  rw [odd_due]
  unfold Kzk2.answer
  dsimp only
  rw [if_neg (by rw [h]; decide), h2]; rfl
theorem odd_some {n : Nat} {t l : List Nat} (h : Kzk1.okTowers n t = true) (h2 : Kzk2.odd n t = some l) : PyKzk2.odd (n : Int) (up t) = ((l.length : Nat) : Int) :: up l := by
  rw [odd_due]
  unfold Kzk2.answer
  dsimp only
  rw [if_neg (by rw [h]; decide), h2]; rfl
theorem layers_due (n : Nat) (t : List Nat) : PyKzk2.layers (n : Int) (up t) = (Kzk2.answer (.layers n t)).value :: Kzk2Neutral.ints (Kzk2.answer (.layers n t)).nums := by
  have h : Kzk2Neutral.callOf [[5, (n : Int)], up t] = some (Kzk2.Call.layers n (Kzk2Neutral.natsOf (up t))) := rfl
  rw [natsOf_up] at h
  unfold PyKzk2.layers Kzk2Neutral.f
  rw [h]
theorem layers_22 {n : Nat} {t : List Nat} (h : Kzk1.okTowers n t = false) : PyKzk2.layers (n : Int) (up t) = [-22] := by
  rw [layers_due]
  unfold Kzk2.answer
  dsimp only
  rw [if_pos h]; rfl
theorem layers_33 {n : Nat} {t : List Nat} (h : Kzk1.okTowers n t = true) (h2 : Kzk2.hasRing n t = true) : PyKzk2.layers (n : Int) (up t) = [-33] := by
  rw [layers_due]
  unfold Kzk2.answer
  dsimp only
  rw [if_neg (by rw [h]; decide), if_pos h2]; rfl
theorem layers_ok {n : Nat} {t : List Nat} (h : Kzk1.okTowers n t = true) (h2 : Kzk2.hasRing n t = false) : PyKzk2.layers (n : Int) (up t) = ((Kzk2.most (Kzk2.layers n t) + 1 : Nat) : Int) :: up (Kzk2.layers n t) := by
  rw [layers_due]
  unfold Kzk2.answer
  dsimp only
  rw [if_neg (by rw [h]; decide), if_neg (by rw [h2]; decide)]; rfl
/-- how tower j watches tower i, off the whole table -/
theorem at_kinds {n i j : Nat} (t : List Nat) (hi : i < n) (hj : j < n) : Kzk2.at_ (Kzk2.kinds n t) i j = watchN n i (t.getD j 0) := by
  unfold Kzk2.at_ Kzk2.kinds
  rw [List.getD_eq_getElem?_getD, List.getD_eq_getElem?_getD, List.getElem?_map, List.getElem?_range hj]
  show (((List.range n).map fun i => Kzk2.kind n t i j)[i]?).getD 0 = _
  rw [List.getElem?_map, List.getElem?_range hi]
  rfl
end TW
/-! ## A ring's watchings, and what it can be -/
namespace TW
/-- how each is watched by the next, off the rules -/
def roundN (n : Nat) (t l : List Nat) : List Nat := (List.range l.length).map fun a => watchN n (l.getD a 0) (t.getD (l.getD ((a + 1) % l.length) 0) 0)
theorem getD_lt {l : List Nat} {n a : Nat} (h : ∀ x ∈ l, x < n) (ha : a < l.length) : l.getD a 0 < n := by
  rw [List.getD_eq_getElem?_getD, List.getElem?_eq_getElem ha]
  exact h _ (List.getElem_mem ha)
theorem steps_eq {n : Nat} (t : List Nat) {l : List Nat} (h : ∀ x ∈ l, x < n) : Kzk2.steps (Kzk2.kinds n t) l = roundN n t l := by
  unfold Kzk2.steps roundN
  apply List.map_congr_left
  intro a ha
  have ha' := List.mem_range.mp ha
  exact at_kinds t (getD_lt h ha') (getD_lt h (Nat.mod_lt _ (by omega)))
theorem lift_le (i r k : Nat) : liftN i r k ≤ 1 := by
  unfold liftN
  split <;> omega
theorem low_le (i r k : Nat) : lowN i r k = 0 ∨ lowN i r k = 2 := by
  unfold lowN
  split
  · exact .inr rfl
  · exact .inl rfl
theorem watch_le (n i r : Nat) : watchN n i r ≤ 3 := by
  unfold watchN
  have h1 := lift_le i r (2 ^ n)
  have h2 := low_le i r (2 ^ n)
  omega
theorem round_le (n : Nat) (t l : List Nat) : ∀ x ∈ roundN n t l, x ≤ 3 := by
  intro x hx
  obtain ⟨a, _, rfl⟩ := List.mem_map.mp hx
  exact watch_le _ _ _
theorem round_len (n : Nat) (t l : List Nat) : (roundN n t l).length = l.length := by
  unfold roundN
  rw [List.length_map, List.length_range]
/-- what can be: 1 even, 2 odd, 3 both -/
def canN (v : List Nat) : Nat := if v.contains 3 then 3 else if v.count 2 % 2 = 0 then 1 else 2
/-- the parity's step, and the same from any start -/
def pstep (p : Bool × Bool) (w : Nat) : Bool × Bool := ((p.1 && w % 2 == 1) || (p.2 && decide (2 ≤ w)), (p.2 && w % 2 == 1) || (p.1 && decide (2 ≤ w)))
theorem parity_eq (v : List Nat) : Kzk2.parity v = v.foldl pstep (true, false) := rfl
theorem fold_both : ∀ v : List Nat, (∀ x ∈ v, x ≠ 0 ∧ x ≤ 3) → v.foldl pstep (true, true) = (true, true)
  | [], _ => rfl
  | w :: v, h => by
    have ih := fold_both v fun x hx => h x (List.mem_cons_of_mem _ hx)
    have hw := h w List.mem_cons_self
    have : w = 1 ∨ w = 2 ∨ w = 3 := by omega
    rcases this with rfl | rfl | rfl <;> exact ih
theorem fold_one : ∀ (v : List Nat) (b : Bool), (∀ x ∈ v, x ≠ 0 ∧ x ≤ 3) →
    v.foldl pstep (b, !b) = if v.contains 3 then (true, true) else if v.count 2 % 2 = 0 then (b, !b) else (!b, b)
  | [], b, _ => by cases b <;> rfl
  | w :: v, b, h => by
    have hv := fun x hx => h x (List.mem_cons_of_mem _ hx)
    have ih := fun b => fold_one v b hv
    have hw := h w List.mem_cons_self
    have : w = 1 ∨ w = 2 ∨ w = 3 := by omega
    rcases this with rfl | rfl | rfl
    · have e : (1 :: v).foldl pstep (b, !b) = v.foldl pstep (b, !b) := by cases b <;> rfl
      have ec : (1 :: v).contains 3 = v.contains 3 := rfl
      have en : (1 :: v).count 2 = v.count 2 := List.count_cons_of_ne (by decide)
      rw [e, ih, ec, en]
    · have e : (2 :: v).foldl pstep (b, !b) = v.foldl pstep (!b, !!b) := by cases b <;> rfl
      have ec : (2 :: v).contains 3 = v.contains 3 := rfl
      have en : (2 :: v).count 2 = v.count 2 + 1 := List.count_cons_self
      rw [e, ih, ec, en]
      cases v.contains 3
      · show (if v.count 2 % 2 = 0 then (!b, !!b) else (!!b, !b)) = if (v.count 2 + 1) % 2 = 0 then (b, !b) else (!b, b)
        by_cases z : v.count 2 % 2 = 0
        · rw [if_pos z, if_neg (by omega), Bool.not_not]
        · rw [if_neg z, if_pos (by omega), Bool.not_not]
      · rfl
    · have e : (3 :: v).foldl pstep (b, !b) = v.foldl pstep (true, true) := by cases b <;> rfl
      rw [e, fold_both v hv]
      rfl
theorem can_eq {v : List Nat} (h : ∀ x ∈ v, x ≤ 3) (h0 : v.contains 0 = false) :
    Kzk2.parity v = if v.contains 3 then (true, true) else if v.count 2 % 2 = 0 then (true, false) else (false, true) := by
  rw [parity_eq]
  refine fold_one v true fun x hx => ⟨fun e => ?_, h x hx⟩
  subst e
  rw [List.contains_eq_mem, decide_eq_false_iff_not] at h0
  exact h0 hx
theorem can_ring {v : List Nat} (h : ∀ x ∈ v, x ≤ 3) (h0 : v.contains 0 = false) :
    (if (Kzk2.parity v).1 then 1 else 0) + (if (Kzk2.parity v).2 then 2 else 0) = canN v := by
  rw [can_eq h h0]
  unfold canN
  cases v.contains 3
  · show (if (if v.count 2 % 2 = 0 then (true, false) else (false, true)).1 = true then 1 else 0) + (if (if v.count 2 % 2 = 0 then (true, false) else (false, true)).2 = true then 2 else 0) = if v.count 2 % 2 = 0 then 1 else 2
    by_cases z : v.count 2 % 2 = 0
    · rw [if_pos z, if_pos z]; rfl
    · rw [if_neg z, if_neg z]; rfl
  · rfl
/-- different towers, as the program looks -/
def diffN (n : Nat) (l : List Nat) : Bool := !l.isEmpty && l.all fun i => decide (i < n) && decide (l.count i = 1)
theorem nodup_iff (l : List Nat) : ((List.range l.length).all fun a => (List.range l.length).all fun b => a == b || l.getD a 0 != l.getD b 0) = true ↔ l.Nodup := by
  rw [List.nodup_iff_pairwise_ne, List.pairwise_iff_getElem]
  simp only [List.all_eq_true, List.mem_range, Bool.or_eq_true, beq_iff_eq, bne_iff_ne]
  constructor
  · intro h i j hi hj hij
    rcases h i hi j hj with e | e
    · omega
    · rw [List.getD_eq_getElem?_getD, List.getD_eq_getElem?_getD, List.getElem?_eq_getElem hi, List.getElem?_eq_getElem hj] at e
      exact e
  · intro h i hi j hj
    rw [List.getD_eq_getElem?_getD, List.getD_eq_getElem?_getD, List.getElem?_eq_getElem hi, List.getElem?_eq_getElem hj]
    show i = j ∨ l[i] ≠ l[j]
    rcases Nat.lt_trichotomy i j with e | e | e
    · exact .inr (h i j hi hj e)
    · exact .inl e
    · exact .inr fun z => h j i hj hi e z.symm
theorem diff_eq (n : Nat) (l : List Nat) : diffN n l = Kzk2.okRing n l := by
  rw [Bool.eq_iff_iff]
  unfold diffN Kzk2.okRing
  rw [Bool.and_eq_true, Bool.and_eq_true, Bool.and_eq_true, nodup_iff]
  simp only [List.all_eq_true, Bool.and_eq_true, decide_eq_true_eq]
  constructor
  · rintro ⟨h1, h2⟩
    refine ⟨⟨h1, fun x hx => (h2 x hx).1⟩, ?_⟩
    rw [List.nodup_iff_count]
    intro x
    by_cases hx : x ∈ l
    · exact Nat.le_of_eq (h2 x hx).2
    · rw [List.count_eq_zero_of_not_mem hx]; omega
  · rintro ⟨⟨h1, h2⟩, h3⟩
    refine ⟨h1, fun x hx => ⟨h2 x hx, ?_⟩⟩
    have a := List.nodup_iff_count.mp h3 x
    have b := List.count_pos_iff.mpr hx
    omega
theorem okRing_iff {n : Nat} {l : List Nat} (h : Kzk2.okRing n l = true) : ∀ x ∈ l, x < n := by
  unfold Kzk2.okRing at h
  rw [Bool.and_eq_true, Bool.and_eq_true] at h
  intro x hx
  exact of_decide_eq_true (List.all_eq_true.mp h.1.2 x hx)
end TW
/-! ## The choices of towers, level by level, and the first that can be -/
namespace TW
/-- what comes behind a choice: one greater tower more -/
def longer (n : Nat) (l : List Nat) : List (List Nat) := ((List.range (n - (l.headD 0 + 1))).filter fun k => !l.contains (l.headD 0 + 1 + k)).map fun k => l ++ [l.headD 0 + 1 + k]
def lev (n : Nat) : Nat → List (List Nat)
  | 0 => (List.range n).map fun k => [k]
  | m + 1 => (lev n m).flatMap (longer n)
/-- the same off the specification: choices of towers from the least on -/
theorem lev_rows {n m : Nat} (h : n ≤ 4) (hm : m < n) : (Kzk2.rowsOn n (m + 1) []).filter (fun l => l.all fun i => decide (l.headD 0 ≤ i)) = lev n m := by
  have : (List.range 5).all (fun n => (List.range n).all fun m => (Kzk2.rowsOn n (m + 1) []).filter (fun l => l.all fun i => decide (l.headD 0 ≤ i)) == lev n m) = true := by decide +kernel
  exact eq_of_beq (List.all_eq_true.mp (List.all_eq_true.mp this n (List.mem_range.mpr (by omega))) m (List.mem_range.mpr hm))
theorem lev_facts {n m : Nat} (h : n ≤ 4) (hm : m < n) : (lev n m ≠ [] ∧ (lev n m).length ≤ 100) ∧ ∀ l ∈ lev n m, (l ≠ [] ∧ l.length ≤ 4) ∧ ∀ x ∈ l, x < n := by
  have : (List.range 5).all (fun n => (List.range n).all fun m => (!(lev n m).isEmpty && decide ((lev n m).length ≤ 100)) && (lev n m).all fun l => (!l.isEmpty && decide (l.length ≤ 4)) && l.all fun x => decide (x < n)) = true := by decide +kernel
  have z := List.all_eq_true.mp (List.all_eq_true.mp this n (List.mem_range.mpr (by omega))) m (List.mem_range.mpr hm)
  simp only [Bool.and_eq_true, List.all_eq_true, decide_eq_true_eq, Bool.not_eq_true', List.isEmpty_eq_false_iff] at z
  exact z
theorem lev_end {n : Nat} (h : n ≤ 4) : lev n n = [] := by
  have : (List.range 5).all (fun n => (lev n n).isEmpty) = true := by decide +kernel
  exact List.isEmpty_iff.mp (List.all_eq_true.mp this n (List.mem_range.mpr (by omega)))
/-- all choices of the first levels -/
def pre (n m : Nat) : List (List Nat) := (List.range m).flatMap (lev n)
theorem pre_succ (n m : Nat) : pre n (m + 1) = pre n m ++ lev n m := by
  unfold pre
  rw [List.range_succ, List.flatMap_append]
  simp
theorem pre_more (n : Nat) {m k : Nat} (h : m ≤ k) : ∃ r, pre n k = pre n m ++ r := by
  induction k with
  | zero => exact ⟨[], by rw [show m = 0 by omega, List.append_nil]⟩
  | succ k ih =>
    by_cases e : m ≤ k
    · obtain ⟨r, hr⟩ := ih e
      exact ⟨r ++ lev n k, by rw [pre_succ, hr, List.append_assoc]⟩
    · exact ⟨[], by rw [show m = k + 1 by omega, List.append_nil]⟩
/-- a choice is a ring that can be so -/
def canBe (n : Nat) (t l : List Nat) (w : Nat) : Bool := if (roundN n t l).contains 0 then false else decide (canN (roundN n t l) = w ∨ canN (roundN n t l) = 3)
theorem canBe_even {n : Nat} {t l : List Nat} (h : ∀ x ∈ l, x < n) : canBe n t l 1 = (((Kzk2.steps (Kzk2.kinds n t) l).all fun w => w != 0) && (Kzk2.parity (Kzk2.steps (Kzk2.kinds n t) l)).1) := by
  rw [steps_eq t h]
  unfold canBe
  have e : ((roundN n t l).all fun w => w != 0) = !(roundN n t l).contains 0 := by
    rw [List.contains_eq_any_beq, List.not_any_eq_all_not]
    congr 1
    funext x
    rw [bne_comm]
    rfl
  rw [e]
  cases z : (roundN n t l).contains 0
  · rw [can_eq (round_le n t l) z]
    unfold canN
    cases (roundN n t l).contains 3
    · by_cases y : (roundN n t l).count 2 % 2 = 0
      · simp [y]
      · simp [y]
    · rfl
  · rfl
theorem canBe_odd {n : Nat} {t l : List Nat} (h : ∀ x ∈ l, x < n) : canBe n t l 2 = (((Kzk2.steps (Kzk2.kinds n t) l).all fun w => w != 0) && (Kzk2.parity (Kzk2.steps (Kzk2.kinds n t) l)).2) := by
  rw [steps_eq t h]
  unfold canBe
  have e : ((roundN n t l).all fun w => w != 0) = !(roundN n t l).contains 0 := by
    rw [List.contains_eq_any_beq, List.not_any_eq_all_not]
    congr 1
    funext x
    rw [bne_comm]
    rfl
  rw [e]
  cases z : (roundN n t l).contains 0
  · rw [can_eq (round_le n t l) z]
    unfold canN
    cases (roundN n t l).contains 3
    · by_cases y : (roundN n t l).count 2 % 2 = 0
      · simp [y]
      · simp [y]
    · rfl
  · rfl
theorem find_congr {α : Type} {p q : α → Bool} : ∀ {l : List α}, (∀ x ∈ l, p x = q x) → l.find? p = l.find? q
  | [], _ => rfl
  | a :: l, h => by
    have e := h a List.mem_cons_self
    have ih := find_congr (l := l) fun x hx => h x (List.mem_cons_of_mem _ hx)
    rw [List.find?_cons, List.find?_cons, e, ih]
theorem flatMap_filter {α β : Type} (f : α → List β) (p : β → Bool) : ∀ l : List α, (l.flatMap f).filter p = l.flatMap fun x => (f x).filter p
  | [] => rfl
  | a :: l => by
    rw [List.flatMap_cons, List.flatMap_cons, List.filter_append, flatMap_filter f p l]
theorem all_eq {n : Nat} (k : List (List Nat)) (h : n ≤ 4) : Kzk2.all n k = (pre n n).filter fun l => (Kzk2.steps k l).all fun w => w != 0 := by
  unfold Kzk2.all pre
  rw [flatMap_filter]
  rw [List.flatMap_def, List.flatMap_def]
  congr 1
  apply List.map_congr_left
  intro m hm
  unfold Kzk2.rings
  rw [← lev_rows h (List.mem_range.mp hm), List.filter_filter]
  congr 1
  funext l
  rw [Bool.and_comm]
theorem pre_lt {n : Nat} (h : n ≤ 4) : ∀ l ∈ pre n n, ∀ x ∈ l, x < n := by
  intro l hl
  unfold pre at hl
  obtain ⟨m, hm, hl⟩ := List.mem_flatMap.mp hl
  exact ((lev_facts h (List.mem_range.mp hm)).2 l hl).2
theorem decide_and_eq (a b : Bool) : decide (a = true ∧ b = true) = (a && b) := by cases a <;> cases b <;> rfl
theorem even_find {n : Nat} (t : List Nat) (h : n ≤ 4) : Kzk2.even n t = (pre n n).find? fun l => canBe n t l 1 := by
  unfold Kzk2.even
  dsimp only
  rw [all_eq _ h, List.find?_filter]
  exact find_congr fun l hl => (by rw [canBe_even (pre_lt h l hl)]; exact decide_and_eq _ _)
theorem odd_find {n : Nat} (t : List Nat) (h : n ≤ 4) : Kzk2.odd n t = (pre n n).find? fun l => canBe n t l 2 := by
  unfold Kzk2.odd
  dsimp only
  rw [all_eq _ h, List.find?_filter]
  exact find_congr fun l hl => (by rw [canBe_odd (pre_lt h l hl)]; exact decide_and_eq _ _)
/-- what is told of what was found -/
def tellN (o : Option (List Nat)) : List Int := match o with
  | none => [-33]
  | some l => ((l.length : Nat) : Int) :: up l
theorem even_told {n : Nat} {t : List Nat} (h : Kzk1.okTowers n t = true) : PyKzk2.even (n : Int) (up t) = tellN ((pre n n).find? fun l => canBe n t l 1) := by
  rw [← even_find t (ok_iff h).2.1]
  cases e : Kzk2.even n t with
  | none => exact even_none h e
  | some l => exact even_some h e
theorem odd_told {n : Nat} {t : List Nat} (h : Kzk1.okTowers n t = true) : PyKzk2.odd (n : Int) (up t) = tellN ((pre n n).find? fun l => canBe n t l 2) := by
  rw [← odd_find t (ok_iff h).2.1]
  cases e : Kzk2.odd n t with
  | none => exact odd_none h e
  | some l => exact odd_some h e
/-- the search, turn by turn -/
theorem found_at {n m i : Nat} {p : List Nat → Bool} {l : List Nat} (hm : m < n) (h0 : (pre n m).find? p = none) (h1 : ((lev n m).take i).find? p = none) (hi : (lev n m)[i]? = some l) (hp : p l = true) : (pre n n).find? p = some l := by
  obtain ⟨r, hr⟩ := pre_more n (m := m + 1) (k := n) hm
  rw [hr, pre_succ, List.find?_append, List.find?_append, h0]
  have : (lev n m).find? p = some l := by
    have e : lev n m = (lev n m).take i ++ (lev n m).drop i := (List.take_append_drop i _).symm
    obtain ⟨hi', el⟩ := List.getElem?_eq_some_iff.mp hi
    rw [e, List.find?_append, h1, List.drop_eq_getElem_cons hi', el, List.find?_cons, hp]
    rfl
  rw [this]
  rfl
theorem none_more {p : List Nat → Bool} {L : List (List Nat)} {i : Nat} {l : List Nat} (h : (L.take i).find? p = none) (hi : L[i]? = some l) (hp : p l = false) : (L.take (i + 1)).find? p = none := by
  rw [List.take_add_one, hi, List.find?_append, h]
  show (List.find? p [l]) = none
  rw [List.find?_cons, hp]
  rfl
end TW
/-! ## Rings and layers, apart from any program -/
namespace TW
/-- tower j watches tower i -/
def wat (n : Nat) (t : List Nat) (i j : Nat) : Bool := watchN n i (t.getD j 0) != 0
theorem has_eq {n : Nat} (t : List Nat) (h : n ≤ 4) : Kzk2.hasRing n t = (pre n n).any fun l => (roundN n t l).all fun w => w != 0 := by
  unfold Kzk2.hasRing
  rw [all_eq _ h, Bool.eq_iff_iff, List.any_eq_true, Bool.not_eq_true', List.isEmpty_eq_false_iff]
  constructor
  · intro ne
    obtain ⟨l, hl⟩ := List.exists_mem_of_ne_nil _ ne
    obtain ⟨h1, h2⟩ := List.mem_filter.mp hl
    rw [steps_eq t (pre_lt h l h1)] at h2
    exact ⟨l, h1, h2⟩
  · rintro ⟨l, h1, h2⟩
    rw [← steps_eq t (pre_lt h l h1)] at h2
    exact List.ne_nil_of_mem (List.mem_filter.mpr ⟨h1, h2⟩)
theorem round_all {n : Nat} {t l : List Nat} : ((roundN n t l).all fun w => w != 0) = true ↔ ∀ a < l.length, wat n t (l.getD a 0) (l.getD ((a + 1) % l.length) 0) = true := by
  unfold roundN
  rw [List.all_map, List.all_eq_true]
  constructor
  · intro h a ha
    exact h a (List.mem_range.mpr ha)
  · intro h a ha
    exact h a (List.mem_range.mp ha)
/-- all functions of few towers to towers -/
def wordsN (n : Nat) : Nat → List (List Nat)
  | 0 => [[]]
  | m + 1 => (List.range n).flatMap fun x => (wordsN n m).map fun l => x :: l
theorem mem_words {n : Nat} : ∀ {m : Nat} {l : List Nat}, l.length = m → (∀ x ∈ l, x < n) → l ∈ wordsN n m
  | 0, [], _, _ => List.mem_singleton.mpr rfl
  | 0, _ :: _, h, _ => by cases h
  | m + 1, [], h, _ => by cases h
  | m + 1, x :: l, h, hx => by
    refine List.mem_flatMap.mpr ⟨x, List.mem_range.mpr (hx x List.mem_cons_self), List.mem_map.mpr ⟨l, mem_words (by simpa using h) fun y hy => hx y (List.mem_cons_of_mem _ hy), rfl⟩⟩
theorem next_all : (List.range 5).all (fun n => n == 0 || (wordsN n n).all fun F => (pre n n).any fun l => (List.range l.length).all fun a => F.getD (l.getD ((a + 1) % l.length) 0) 0 == l.getD a 0) = true := by decide +kernel
theorem ring_next {n : Nat} (h1 : 1 ≤ n) (h : n ≤ 4) (f : Nat → Nat) (hf : ∀ j < n, f j < n) : ∃ l ∈ pre n n, ∀ a < l.length, f (l.getD ((a + 1) % l.length) 0) = l.getD a 0 := by
  have z := List.all_eq_true.mp next_all n (List.mem_range.mpr (by omega))
  rw [Bool.or_eq_true, beq_iff_eq] at z
  have z := z.resolve_left (by omega)
  have z := List.all_eq_true.mp z ((List.range n).map f) (mem_words (by rw [List.length_map, List.length_range]) fun x hx => by
    obtain ⟨j, hj, rfl⟩ := List.mem_map.mp hx
    exact hf j (List.mem_range.mp hj))
  obtain ⟨l, hl, z⟩ := List.any_eq_true.mp z
  refine ⟨l, hl, fun a ha => ?_⟩
  have z := List.all_eq_true.mp z a (List.mem_range.mpr ha)
  rw [beq_iff_eq] at z
  rw [← z]
  have hb : l.getD ((a + 1) % l.length) 0 < n := getD_lt (pre_lt h l hl) (Nat.mod_lt _ (by omega))
  rw [List.getD_eq_getElem?_getD (l := (List.range n).map f), List.getElem?_map, List.getElem?_range hb]
  rfl
/-- towers of which each watches one of them: there is a ring -/
theorem ring_of_set {n : Nat} {t : List Nat} (h1 : 1 ≤ n) (h : n ≤ 4) (S : Nat → Bool) (h0 : ∃ s < n, S s = true) (hS : ∀ j < n, S j = true → ∃ i < n, S i = true ∧ wat n t i j = true) : Kzk2.hasRing n t = true := by
  obtain ⟨s, hs, hs1⟩ := h0
  have ex : ∃ f : Nat → Nat, ∀ j < n, f j < n ∧ S (f j) = true ∧ (S j = true → wat n t (f j) j = true) := by
    refine ⟨fun j => if z : j < n ∧ S j = true then Classical.choose (hS j z.1 z.2) else s, fun j hj => ?_⟩
    by_cases z : j < n ∧ S j = true
    · have c := Classical.choose_spec (hS j z.1 z.2)
      simp only [dif_pos z]
      exact ⟨c.1, c.2.1, fun _ => c.2.2⟩
    · simp only [dif_neg z]
      exact ⟨hs, hs1, fun y => absurd ⟨hj, y⟩ z⟩
  obtain ⟨f, hf⟩ := ex
  obtain ⟨l, hl, hn⟩ := ring_next h1 h f fun j hj => (hf j hj).1
  rw [has_eq t h]
  refine List.any_eq_true.mpr ⟨l, hl, round_all.mpr fun a ha => ?_⟩
  have lt := pre_lt h l hl
  have hp : 0 < l.length := by omega
  have hb : (a + 1) % l.length < l.length := Nat.mod_lt _ hp
  have hSb : S (l.getD ((a + 1) % l.length) 0) = true := by
    rw [← hn _ hb]
    exact (hf _ (getD_lt lt (Nat.mod_lt _ hp))).2.1
  rw [← hn a ha]
  exact (hf _ (getD_lt lt hb)).2.2 hSb
/-- a rank that rises with each watching: there is none -/
theorem none_of_rank {n : Nat} {t : List Nat} (h : n ≤ 4) (g : Nat → Nat) (hg : ∀ i < n, ∀ j < n, wat n t i j = true → g i < g j) : Kzk2.hasRing n t = false := by
  rw [has_eq t h, List.any_eq_false]
  intro l hl z
  have z := round_all.mp z
  have lt := pre_lt h l hl
  have hp : 0 < l.length := by
    unfold pre at hl
    obtain ⟨m, hm, hl⟩ := List.mem_flatMap.mp hl
    exact List.length_pos_iff.mpr ((lev_facts h (List.mem_range.mp hm)).2 l hl).1.1
  have up1 : ∀ a < l.length, g (l.getD 0 0) + a ≤ g (l.getD a 0) := by
    intro a
    induction a with
    | zero => intro _; omega
    | succ a ih =>
      intro ha
      have i1 := ih (by omega)
      have i2 := hg _ (getD_lt lt (show a < l.length by omega)) _ (getD_lt lt (Nat.mod_lt _ hp)) (z a (by omega))
      rw [Nat.mod_eq_of_lt ha] at i2
      omega
  have e1 := up1 (l.length - 1) (by omega)
  have e2 := hg _ (getD_lt lt (show l.length - 1 < l.length by omega)) _ (getD_lt lt (Nat.mod_lt _ hp)) (z (l.length - 1) (by omega))
  rw [show l.length - 1 + 1 = l.length by omega, Nat.mod_self] at e2
  omega
/-- the next layer behind the highest of those that are watched -/
def behind (n : Nat) (t : List Nat) (g : Nat → Nat) (j : Nat) : Nat := ((List.range n).map fun i => if wat n t i j then g i + 1 else 0).foldl max 0
theorem foldl_max_le : ∀ (l : List Nat) (b c : Nat), l.foldl max b ≤ c ↔ b ≤ c ∧ ∀ x ∈ l, x ≤ c
  | [], b, c => by simp
  | a :: l, b, c => by
    rw [List.foldl_cons, foldl_max_le l, Nat.max_le]
    simp only [List.mem_cons, forall_eq_or_imp]
    exact ⟨fun h => ⟨h.1.1, h.1.2, h.2⟩, fun h => ⟨⟨h.1, h.2.1⟩, h.2.2⟩⟩
theorem foldl_max_mem : ∀ (l : List Nat) (b : Nat), l.foldl max b = b ∨ l.foldl max b ∈ l
  | [], b => .inl rfl
  | a :: l, b => by
    rw [List.foldl_cons]
    rcases foldl_max_mem l (max b a) with h | h
    · rw [h]
      rcases Nat.le_total a b with e | e
      · exact .inl (Nat.max_eq_left e)
      · exact .inr (by rw [Nat.max_eq_right e]; exact List.mem_cons_self)
    · exact .inr (List.mem_cons_of_mem _ h)
theorem behind_le {n : Nat} {t : List Nat} {g : Nat → Nat} {j c : Nat} : behind n t g j ≤ c ↔ ∀ i < n, wat n t i j = true → g i + 1 ≤ c := by
  unfold behind
  rw [foldl_max_le]
  constructor
  · rintro ⟨_, h⟩ i hi hw
    have := h _ (List.mem_map.mpr ⟨i, List.mem_range.mpr hi, rfl⟩)
    rwa [if_pos hw] at this
  · intro h
    refine ⟨Nat.zero_le _, fun x hx => ?_⟩
    obtain ⟨i, hi, rfl⟩ := List.mem_map.mp hx
    by_cases e : wat n t i j = true
    · rw [if_pos e]
      exact h i (List.mem_range.mp hi) e
    · rw [if_neg e]
      exact Nat.zero_le _
theorem behind_lt {n : Nat} {t : List Nat} {g : Nat → Nat} {i j : Nat} (hi : i < n) (hw : wat n t i j = true) : g i < behind n t g j := behind_le.mp (Nat.le_refl _) i hi hw
theorem behind_at {n : Nat} {t : List Nat} {g : Nat → Nat} {j : Nat} (h : 0 < behind n t g j) : ∃ i < n, wat n t i j = true ∧ behind n t g j = g i + 1 := by
  rcases foldl_max_mem ((List.range n).map fun i => if wat n t i j then g i + 1 else 0) 0 with e | e
  · exact absurd e (by unfold behind at h; omega)
  · obtain ⟨i, hi, e2⟩ := List.mem_map.mp e
    by_cases hw : wat n t i j = true
    · rw [if_pos hw] at e2
      exact ⟨i, List.mem_range.mp hi, hw, e2.symm⟩
    · rw [if_neg hw] at e2
      unfold behind at h
      omega
theorem behind_congr {n : Nat} {t : List Nat} {g g' : Nat → Nat} {j : Nat} (h : ∀ i < n, wat n t i j = true → g i = g' i) : behind n t g j = behind n t g' j := by
  apply Nat.le_antisymm
  · exact behind_le.mpr fun i hi hw => by rw [h i hi hw]; exact behind_lt hi hw
  · exact behind_le.mpr fun i hi hw => by rw [← h i hi hw]; exact behind_lt hi hw
/-- the specification's layers, one round more -/
theorem layerOn_succ {n : Nat} (t : List Nat) (f : Nat) {j : Nat} (hj : j < n) : Kzk2.layerOn n (Kzk2.kinds n t) (f + 1) j = behind n t (Kzk2.layerOn n (Kzk2.kinds n t) f) j := by
  unfold Kzk2.layerOn behind
  congr 1
  apply List.map_congr_left
  intro i hi
  rw [at_kinds t (List.mem_range.mp hi) hj]
  unfold wat
  by_cases e : watchN n i (t.getD j 0) = 0
  · rw [if_pos e, e]; rfl
  · rw [if_neg e, if_pos (bne_iff_ne.mpr e)]
/-- layers: each as it must be -/
def Layered (n : Nat) (t : List Nat) (g : Nat → Nat) : Prop := ∀ j < n, g j = behind n t g j
theorem Layered.none {n : Nat} {t : List Nat} {g : Nat → Nat} (h : n ≤ 4) (hg : Layered n t g) : Kzk2.hasRing n t = false :=
  none_of_rank h g fun i hi j hj hw => by
    rw [hg j hj]
    exact behind_lt hi hw
theorem Layered.at {n : Nat} {t : List Nat} {g : Nat → Nat} (hg : Layered n t g) {f : Nat} : ∀ {j : Nat}, j < n → g j ≤ f → Kzk2.layerOn n (Kzk2.kinds n t) f j = g j := by
  induction f with
  | zero =>
    intro j _ hle
    unfold Kzk2.layerOn
    omega
  | succ f ih =>
    intro j hj hle
    rw [layerOn_succ t f hj, hg j hj]
    refine behind_congr fun i hi hw => ih hi ?_
    have := behind_lt (g := g) hi hw
    rw [← hg j hj] at this
    omega
theorem Layered.down {n : Nat} {t : List Nat} {g : Nat → Nat} (hg : Layered n t g) {v : Nat} : ∀ (d : Nat) {j : Nat}, j < n → g j = v + d → ∃ i < n, g i = v
  | 0, j, hj, e => ⟨j, hj, e⟩
  | d + 1, j, hj, e => by
    rw [hg j hj] at e
    obtain ⟨i, hi, _, e2⟩ := behind_at (t := t) (g := g) (j := j) (n := n) (by omega)
    exact Layered.down hg d hi (by omega)
theorem count_lt {n : Nat} (g : Nat → Nat) (v : Nat) (h : ∃ i < n, g i = v) : (List.range n).countP (fun i => decide (g i < v)) < (List.range n).countP fun i => decide (g i < v + 1) := by
  induction n with
  | zero => obtain ⟨i, hi, _⟩ := h; omega
  | succ n ih =>
    have mono : (List.range n).countP (fun i => decide (g i < v)) ≤ (List.range n).countP fun i => decide (g i < v + 1) := by
      apply List.countP_mono_left
      intro x _ hx
      have := of_decide_eq_true hx
      exact decide_eq_true (by omega)
    rw [List.range_succ, List.countP_append, List.countP_append, List.countP_singleton, List.countP_singleton]
    by_cases e : g n = v
    · rw [if_neg (by rw [decide_eq_true_iff]; omega), if_pos (decide_eq_true (by omega))]
      omega
    · obtain ⟨i, hi, ei⟩ := h
      have := ih ⟨i, by
        rcases Nat.lt_or_ge i n with z | z
        · exact z
        · exact absurd ei (by rw [show i = n by omega]; exact e), ei⟩
      by_cases e2 : g n < v
      · rw [if_pos (decide_eq_true e2), if_pos (decide_eq_true (by omega))]
        omega
      · rw [if_neg (by rw [decide_eq_true_iff]; exact e2), if_neg (by rw [decide_eq_true_iff]; omega)]
        omega
theorem Layered.lt {n : Nat} {t : List Nat} {g : Nat → Nat} (hg : Layered n t g) {j : Nat} (hj : j < n) : g j < n := by
  have low : ∀ v, v ≤ g j → v ≤ (List.range n).countP fun i => decide (g i < v) := by
    intro v
    induction v with
    | zero => intro _; exact Nat.zero_le _
    | succ v ih =>
      intro hv
      have i1 := ih (by omega)
      have i2 := count_lt g v (hg.down (v := v) (g j - v) hj (by omega))
      omega
  rcases Nat.lt_or_ge (g j) n with z | z
  · exact z
  · have e := low n z
    have hl := List.countP_le_length (p := fun i => decide (g i < n)) (l := List.range n)
    rw [List.length_range] at hl
    have all := List.countP_eq_length.mp (show (List.range n).countP (fun i => decide (g i < n)) = (List.range n).length by rw [List.length_range]; omega)
    have := of_decide_eq_true (all j (List.mem_range.mpr hj))
    omega
theorem Layered.layers {n : Nat} {t : List Nat} {g : Nat → Nat} (hg : Layered n t g) : Kzk2.layers n t = (List.range n).map g := by
  unfold Kzk2.layers
  apply List.map_congr_left
  intro j hj
  exact hg.at (List.mem_range.mp hj) (Nat.le_of_lt (hg.lt (List.mem_range.mp hj)))
/-- where there is no ring there are layers -/
theorem layered_of_none {n : Nat} {t : List Nat} (h1 : 1 ≤ n) (h : n ≤ 4) (hr : Kzk2.hasRing n t = false) : ∃ g, Layered n t g := by
  have step : ∀ m ≤ n, ∃ (P : Nat → Bool) (g : Nat → Nat), m ≤ (List.range n).countP P ∧ ∀ j < n, P j = true → (∀ i < n, wat n t i j = true → P i = true) ∧ g j = behind n t g j := by
    intro m
    induction m with
    | zero => exact fun _ => ⟨fun _ => false, fun _ => 0, Nat.zero_le _, fun j _ z => by cases z⟩
    | succ m ih =>
      intro hm
      obtain ⟨P, g, hc, hP⟩ := ih (by omega)
      by_cases full : m + 1 ≤ (List.range n).countP P
      · exact ⟨P, g, full, hP⟩
      have ex : ∃ j < n, P j = false ∧ ∀ i < n, wat n t i j = true → P i = true := by
        apply Classical.byContradiction
        intro no
        have : Kzk2.hasRing n t = true := by
          refine ring_of_set h1 h (fun j => !P j) ?_ ?_
          · apply Classical.byContradiction
            intro no2
            have : (List.range n).countP P = (List.range n).length := List.countP_eq_length.mpr fun a ha => by
              cases e : P a with
              | true => rfl
              | false => exact absurd ⟨a, List.mem_range.mp ha, by rw [e]; rfl⟩ no2
            rw [List.length_range] at this
            omega
          · intro j hj hjP
            apply Classical.byContradiction
            intro no3
            refine no ⟨j, hj, by simpa using hjP, fun i hi hw => ?_⟩
            cases e : P i with
            | true => rfl
            | false => exact absurd ⟨i, hi, by rw [e]; rfl, hw⟩ no3
        rw [hr] at this
        cases this
      obtain ⟨j, hj, hjP, hjw⟩ := ex
      refine ⟨fun i => P i || decide (i = j), fun i => if i = j then behind n t g j else g i, ?_, ?_⟩
      · have : ∀ k, (j < k → (List.range k).countP P + 1 ≤ (List.range k).countP fun i => P i || decide (i = j)) ∧ (List.range k).countP P ≤ (List.range k).countP fun i => P i || decide (i = j) := by
          intro k
          induction k with
          | zero => exact ⟨fun z => by omega, Nat.le_refl _⟩
          | succ k ih =>
            rw [List.range_succ, List.countP_append, List.countP_append, List.countP_singleton, List.countP_singleton]
            by_cases e : k = j
            · subst e
              rw [hjP, if_neg (by decide), if_pos (by simp)]
              exact ⟨fun _ => by omega, by omega⟩
            · have : (P k || decide (k = j)) = P k := by rw [decide_eq_false e, Bool.or_false]
              rw [this]
              exact ⟨fun z => by have := ih.1 (by omega); omega, by omega⟩
        have := (this n).1 hj
        omega
      · intro i hi hiP
        by_cases e : i = j
        · subst e
          refine ⟨fun x hx hw => by show (P x || decide (x = i)) = true; rw [hjw x hx hw]; rfl, ?_⟩
          show (if i = i then _ else _) = _
          rw [if_pos rfl]
          refine behind_congr fun x hx hw => ?_
          have : x ≠ i := fun z => by
            have := hjw x hx hw
            rw [z, hjP] at this
            cases this
          rw [if_neg this]
        · have hi2 : P i = true := by
            have hiP : (P i || decide (i = j)) = true := hiP
            rwa [decide_eq_false e, Bool.or_false] at hiP
          obtain ⟨h2, h3⟩ := hP i hi hi2
          refine ⟨fun x hx hw => by show (P x || decide (x = j)) = true; rw [h2 x hx hw]; rfl, ?_⟩
          show (if i = j then _ else _) = _
          rw [if_neg e, h3]
          refine behind_congr fun x hx hw => ?_
          have : x ≠ j := fun z => by
            have := h2 x hx hw
            rw [z, hjP] at this
            cases this
          rw [if_neg this]
  obtain ⟨P, g, hc, hP⟩ := step n (Nat.le_refl _)
  refine ⟨g, fun j hj => (hP j hj ?_).2⟩
  have hl := List.countP_le_length (p := P) (l := List.range n)
  rw [List.length_range] at hl
  exact List.countP_eq_length.mp (show (List.range n).countP P = (List.range n).length by rw [List.length_range]; omega) j (List.mem_range.mpr hj)
/-- what is told, off any layers that are as they must be -/
theorem layers_told {n : Nat} {t : List Nat} {g : Nat → Nat} (ok : Kzk1.okTowers n t = true) (hg : Layered n t g) : PyKzk2.layers (n : Int) (up t) = ((((List.range n).map g).foldl max 0 + 1 : Nat) : Int) :: up ((List.range n).map g) := by
  rw [layers_ok ok (hg.none (ok_iff ok).2.1), hg.layers]
  rfl
theorem find_any {α : Type} (p : α → Bool) : ∀ l : List α, (l.find? p).isSome = l.any p
  | [] => rfl
  | a :: l => by
    rw [List.find?_cons, List.any_cons]
    cases p a
    · exact find_any p l
    · rfl
theorem any_two {α : Type} (p q : α → Bool) : ∀ l : List α, (l.any p || l.any q) = l.any fun x => p x || q x
  | [] => rfl
  | a :: l => by
    rw [List.any_cons, List.any_cons, List.any_cons, ← any_two p q l]
    cases p a <;> cases q a <;> cases l.any p <;> rfl
/-- a ring, by what it can be -/
theorem has_find {n : Nat} (t : List Nat) (h : n ≤ 4) : Kzk2.hasRing n t = (((pre n n).find? fun l => canBe n t l 1).isSome || ((pre n n).find? fun l => canBe n t l 2).isSome) := by
  rw [has_eq t h, find_any, find_any, any_two]
  congr 1
  funext l
  unfold canBe
  have e : ((roundN n t l).all fun w => w != 0) = !(roundN n t l).contains 0 := by
    rw [List.contains_eq_any_beq, List.not_any_eq_all_not]
    congr 1
    funext x
    rw [bne_comm]
    rfl
  rw [e]
  cases (roundN n t l).contains 0
  · unfold canN
    cases (roundN n t l).contains 3
    · by_cases y : (roundN n t l).count 2 % 2 = 0
      · simp [y]
      · simp [y]
    · rfl
  · rfl
end TW
/-! ## Layers by peeling, apart from any program -/
namespace TW
/-- a rule that watches placed towers alone -/
def aloneN (n r : Nat) (P : Nat → Bool) : Bool := (List.range n).all fun i => P i || decide (watchN n i r = 0)
/-- the towers that aren't placed, and those of them that watch placed ones alone -/
def leftN (n : Nat) (P : Nat → Bool) : List Nat := (List.range n).filter fun j => !P j
def nextN (n : Nat) (t : List Nat) (P : Nat → Bool) : List Nat := (leftN n P).filter fun j => aloneN n (t.getD j 0) P
theorem mem_next {n : Nat} {t : List Nat} {P : Nat → Bool} {j : Nat} : j ∈ nextN n t P ↔ j < n ∧ P j = false ∧ ∀ i < n, wat n t i j = true → P i = true := by
  unfold nextN leftN
  rw [List.mem_filter, List.mem_filter, List.mem_range, Bool.not_eq_true', and_assoc]
  refine and_congr_right fun _ => and_congr_right fun _ => ?_
  unfold aloneN
  rw [List.all_eq_true]
  constructor
  · intro h i hi hw
    have z := h i (List.mem_range.mpr hi)
    rw [Bool.or_eq_true, decide_eq_true_iff] at z
    exact z.resolve_right (bne_iff_ne.mp hw)
  · intro h i hi
    rw [Bool.or_eq_true, decide_eq_true_iff]
    by_cases e : watchN n i (t.getD j 0) = 0
    · exact .inr e
    · exact .inl (h i (List.mem_range.mp hi) (bne_iff_ne.mpr e))
theorem next_nodup {n : Nat} {t : List Nat} {P : Nat → Bool} : (nextN n t P).Nodup := (List.nodup_range.filter _).filter _
theorem next_len {n : Nat} {t : List Nat} {P : Nat → Bool} : (nextN n t P).length ≤ n := by
  refine Nat.le_trans (List.length_filter_le _ _) (Nat.le_trans (List.length_filter_le _ _) ?_)
  rw [List.length_range]
  exact Nat.le_refl _
theorem left_congr {n : Nat} {P P' : Nat → Bool} (h : ∀ j < n, P j = P' j) : leftN n P = leftN n P' := by
  unfold leftN
  exact List.filter_congr fun j hj => by rw [h j (List.mem_range.mp hj)]
theorem alone_congr {n r : Nat} {P P' : Nat → Bool} (h : ∀ j < n, P j = P' j) : aloneN n r P = aloneN n r P' := by
  unfold aloneN
  rw [Bool.eq_iff_iff, List.all_eq_true, List.all_eq_true]
  exact forall_congr' fun i => forall_congr' fun hi => by rw [h i (List.mem_range.mp hi)]
theorem next_congr {n : Nat} {t : List Nat} {P P' : Nat → Bool} (h : ∀ j < n, P j = P' j) : nextN n t P = nextN n t P' := by
  unfold nextN
  rw [left_congr h]
  exact List.filter_congr fun j _ => alone_congr h
/-- c layers placed: P the placed ones, g their layers -/
structure Peel (n : Nat) (t : List Nat) (P : Nat → Bool) (g : Nat → Nat) (c : Nat) : Prop where
  lt : ∀ j < n, P j = true → g j < c
  cl : ∀ j < n, P j = true → ∀ i < n, wat n t i j = true → P i = true
  eq : ∀ j < n, P j = true → g j = behind n t g j
  out : ∀ j < n, P j = false → c = 0 ∨ ∃ i < n, wat n t i j = true ∧ (P i = true → g i + 1 = c)
  top : c = 0 ∨ ∃ j < n, P j = true ∧ g j + 1 = c
theorem Peel.start {n : Nat} {t : List Nat} {g : Nat → Nat} : Peel n t (fun _ => false) g 0 :=
  ⟨(fun _ _ z => nomatch z), (fun _ _ z => nomatch z), (fun _ _ z => nomatch z), fun _ _ _ => .inl rfl, .inl rfl⟩
/-- placed behind the towers L -/
def putP (P : Nat → Bool) (L : List Nat) (j : Nat) : Bool := P j || L.contains j
def putG (g : Nat → Nat) (L : List Nat) (c : Nat) (j : Nat) : Nat := if L.contains j then c else g j
theorem Peel.step {n : Nat} {t : List Nat} {P : Nat → Bool} {g : Nat → Nat} {c : Nat} (h : Peel n t P g c) (ne : nextN n t P ≠ []) : Peel n t (putP P (nextN n t P)) (putG g (nextN n t P) c) (c + 1) := by
  have old : ∀ {i}, P i = true → putG g (nextN n t P) c i = g i := fun {i} hi => by
    unfold putG
    rw [if_neg]
    intro z
    have := (mem_next.mp (List.contains_iff_mem.mp z)).2.1
    rw [hi] at this
    cases this
  have new : ∀ {i}, i ∈ nextN n t P → putG g (nextN n t P) c i = c := fun {i} hi => by
    unfold putG
    rw [if_pos (List.contains_iff_mem.mpr hi)]
  have inP : ∀ {i}, putP P (nextN n t P) i = true ↔ P i = true ∨ i ∈ nextN n t P := fun {i} => by
    unfold putP
    rw [Bool.or_eq_true, List.contains_iff_mem]
  refine ⟨fun j hj hP => ?_, fun j hj hP i hi hw => ?_, fun j hj hP => ?_, fun j hj hP => .inr ?_, .inr ?_⟩
  · rcases inP.mp hP with z | z
    · rw [old z]
      exact Nat.lt_succ_of_lt (h.lt j hj z)
    · rw [new z]
      exact Nat.lt_succ_self c
  · rcases inP.mp hP with z | z
    · exact inP.mpr (.inl (h.cl j hj z i hi hw))
    · exact inP.mpr (.inl ((mem_next.mp z).2.2 i hi hw))
  · rcases inP.mp hP with z | z
    · rw [old z, h.eq j hj z]
      exact behind_congr fun i hi hw => (old (h.cl j hj z i hi hw)).symm
    · obtain ⟨_, z2, z3⟩ := mem_next.mp z
      rw [new z, behind_congr (g' := g) fun i hi hw => old (z3 i hi hw)]
      apply Nat.le_antisymm
      · rcases h.out j hj z2 with e | ⟨i, hi, hw, e⟩
        · rw [e]
          exact Nat.zero_le _
        · rw [← e (z3 i hi hw)]
          exact behind_lt hi hw
      · exact behind_le.mpr fun i hi hw => h.lt i hi (z3 i hi hw)
  · have nP : P j = false := by
      cases e : P j with
      | false => rfl
      | true => rw [inP.mpr (.inl e)] at hP; cases hP
    have ex : ∃ i < n, wat n t i j = true ∧ P i = false := by
      apply Classical.byContradiction
      intro no
      have : j ∈ nextN n t P := mem_next.mpr ⟨hj, nP, fun i hi hw => by
        cases e : P i with
        | true => rfl
        | false => exact absurd ⟨i, hi, hw, e⟩ no⟩
      rw [inP.mpr (.inr this)] at hP
      cases hP
    obtain ⟨i, hi, hw, e⟩ := ex
    refine ⟨i, hi, hw, fun z => ?_⟩
    rcases inP.mp z with y | y
    · rw [e] at y; cases y
    · rw [new y]
  · obtain ⟨j, hj⟩ := List.exists_mem_of_ne_nil _ ne
    exact ⟨j, (mem_next.mp hj).1, inP.mpr (.inr hj), by rw [new hj]⟩
/-- none to place, some left: a ring -/
theorem Peel.ring {n : Nat} {t : List Nat} {P : Nat → Bool} (h1 : 1 ≤ n) (h : n ≤ 4) (em : nextN n t P = []) (lf : ∃ j < n, P j = false) : Kzk2.hasRing n t = true := by
  obtain ⟨s, hs, hs2⟩ := lf
  refine ring_of_set h1 h (fun j => !P j) ⟨s, hs, by rw [hs2]; rfl⟩ fun j hj hP => ?_
  apply Classical.byContradiction
  intro no
  have : j ∈ nextN n t P := mem_next.mpr ⟨hj, by simpa using hP, fun i hi hw => by
    cases e : P i with
    | true => rfl
    | false => exact absurd ⟨i, hi, by rw [e]; rfl, hw⟩ no⟩
  rw [em] at this
  cases this
/-- all placed: the layers -/
theorem Peel.told {n : Nat} {t : List Nat} {P : Nat → Bool} {g : Nat → Nat} {c : Nat} (h : Peel n t P g c) (ok : Kzk1.okTowers n t = true) (h1 : 1 ≤ n) (all : ∀ j < n, P j = true) : PyKzk2.layers (n : Int) (up t) = (c : Int) :: up ((List.range n).map g) := by
  rw [layers_told ok fun j hj => h.eq j hj (all j hj)]
  congr 2
  rcases h.top with e | ⟨j, hj, _, e⟩
  · have := h.lt 0 h1 (all 0 h1)
    omega
  · have l1 : ((List.range n).map g).foldl max 0 ≤ c - 1 := (foldl_max_le _ _ _).mpr ⟨Nat.zero_le _, fun x hx => by
      obtain ⟨i, hi, rfl⟩ := List.mem_map.mp hx
      have := h.lt i (List.mem_range.mp hi) (all i (List.mem_range.mp hi))
      omega⟩
    have l2 := ((foldl_max_le ((List.range n).map g) 0 _).mp (Nat.le_refl _)).2 (g j) (List.mem_map.mpr ⟨j, List.mem_range.mpr hj, rfl⟩)
    omega
/-- how many are placed -/
def numP (n : Nat) (P : Nat → Bool) : Nat := (List.range n).countP P
theorem num_le {n : Nat} {P : Nat → Bool} : numP n P ≤ n := by
  have := List.countP_le_length (p := P) (l := List.range n)
  rwa [List.length_range] at this
theorem num_all {n : Nat} {P : Nat → Bool} (h : n ≤ numP n P) : ∀ j < n, P j = true := by
  intro j hj
  refine List.countP_eq_length.mp ?_ j (List.mem_range.mpr hj)
  rw [List.length_range]
  exact Nat.le_antisymm num_le h
theorem num_left {n : Nat} {P : Nat → Bool} (h : numP n P < n) : ∃ j < n, P j = false := by
  apply Classical.byContradiction
  intro no
  have : numP n P = (List.range n).length := List.countP_eq_length.mpr fun a ha => by
    cases e : P a with
    | true => rfl
    | false => exact absurd ⟨a, List.mem_range.mp ha, e⟩ no
  rw [List.length_range] at this
  omega
theorem num_one {P : Nat → Bool} {j : Nat} (hP : P j = false) : ∀ n : Nat, (List.range n).countP (fun i => P i || decide (i = j)) = (List.range n).countP P + if j < n then 1 else 0
  | 0 => rfl
  | n + 1 => by
    rw [List.range_succ, List.countP_append, List.countP_append, List.countP_singleton, List.countP_singleton, num_one hP n]
    by_cases e : n = j
    · subst e
      rw [hP, if_neg (Nat.lt_irrefl _), if_pos (by simp), if_neg (by decide), if_pos (Nat.lt_succ_self _)]
    · rw [decide_eq_false e, Bool.or_false]
      by_cases l : j < n
      · rw [if_pos l, if_pos (Nat.lt_succ_of_lt l)]
        omega
      · rw [if_neg l, if_neg (show ¬ j < n + 1 by omega)]
        omega
theorem num_congr {n : Nat} {P P' : Nat → Bool} (h : ∀ j < n, P j = P' j) : numP n P = numP n P' := by
  unfold numP
  apply Nat.le_antisymm
  · exact List.countP_mono_left fun x hx z => by rw [← h x (List.mem_range.mp hx)]; exact z
  · exact List.countP_mono_left fun x hx z => by rw [h x (List.mem_range.mp hx)]; exact z
theorem num_add {n : Nat} {P : Nat → Bool} {j : Nat} (hj : j < n) (hP : P j = false) : numP n (fun i => P i || decide (i = j)) = numP n P + 1 := by
  unfold numP
  rw [num_one hP n, if_pos hj]
/-- one more of the list -/
theorem putP_succ {P : Nat → Bool} {L : List Nat} {i x : Nat} (hx : L[i]? = some x) (j : Nat) : putP P (L.take (i + 1)) j = (putP P (L.take i) j || decide (j = x)) := by
  unfold putP
  rw [List.take_add_one, hx, Bool.eq_iff_iff]
  simp [or_assoc]
theorem putG_succ {g : Nat → Nat} {L : List Nat} {i x c : Nat} (hx : L[i]? = some x) (j : Nat) : putG g (L.take (i + 1)) c j = if j = x then c else putG g (L.take i) c j := by
  unfold putG
  rw [List.take_add_one, hx]
  by_cases e : j = x
  · rw [if_pos e, if_pos (by simp [e])]
  · rw [if_neg e]
    have : (L.take i ++ (some x).toList).contains j = (L.take i).contains j := by
      rw [Bool.eq_iff_iff]
      simp [e]
    rw [this]
theorem putP_fresh {n : Nat} {t : List Nat} {P : Nat → Bool} {i x : Nat} (hx : (nextN n t P)[i]? = some x) : putP P ((nextN n t P).take i) x = false := by
  have hm : x ∈ nextN n t P := List.mem_of_getElem? hx
  unfold putP
  rw [(mem_next.mp hm).2.1, Bool.false_or]
  rw [← Bool.not_eq_true, List.contains_iff_mem]
  intro z
  obtain ⟨hi, rfl⟩ := List.getElem?_eq_some_iff.mp hx
  obtain ⟨m, hmi, e⟩ := List.mem_take_iff_getElem.mp z
  exact List.pairwise_iff_getElem.mp (next_nodup (n := n) (t := t) (P := P)) m i (by omega) hi (by omega) e
theorem num_more {n : Nat} {t : List Nat} {P : Nat → Bool} (ne : nextN n t P ≠ []) : numP n P < numP n (putP P (nextN n t P)) := by
  obtain ⟨j, hj⟩ := List.exists_mem_of_ne_nil _ ne
  obtain ⟨h1, h2, _⟩ := mem_next.mp hj
  have e := num_add h1 h2
  have l : numP n (fun i => P i || decide (i = j)) ≤ numP n (putP P (nextN n t P)) := by
    unfold numP
    refine List.countP_mono_left fun x _ z => ?_
    unfold putP
    rw [Bool.or_eq_true, decide_eq_true_iff] at z
    rw [Bool.or_eq_true, List.contains_iff_mem]
    rcases z with z | z
    · exact .inl z
    · exact .inr (by rw [z]; exact hj)
  omega
end TW
/-! ## The defs: power_of_two, bit_at, fits, watching -/
namespace TW
open PySem PySem.Spec PyProof.Rows L2
open PySem.W (Codec)
def top (i : Nat) : Stmt := PySem.Challenge.pw_towerwatch_s06_layers.main.body.getD i (.Pass ⟨0, 0, 0, 0⟩)
abbrev sPow : Stmt := top 6
abbrev sBit : Stmt := top 7
abbrev sFits : Stmt := top 8
abbrev sWat : Stmt := top 9
theorem scP : FnScope ["exponent", "power", "step"] ["exponent"] (defScope sPow) := ⟨rfl, rfl, rfl, by decide +kernel, rfl, by decide +kernel, by decide +kernel⟩
theorem scB : FnScope ["number", "place"] ["number", "place"] (defScope sBit) := ⟨rfl, rfl, rfl, by decide +kernel, rfl, by decide +kernel, by decide +kernel⟩
theorem scF : FnScope ["n", "t", "limit", "rule"] ["n", "t"] (defScope sFits) := ⟨rfl, rfl, rfl, by decide +kernel, rfl, by decide +kernel, by decide +kernel⟩
theorem scW : FnScope ["n", "i", "rule", "lifted", "lowered", "state", "while_down", "while_up"] ["n", "i", "rule"] (defScope sWat) := ⟨rfl, rfl, rfl, by decide +kernel, rfl, by decide +kernel, by decide +kernel⟩
/-- a number, numbers, as the proof sees them -/
def nv (n : Nat) : V := .int (n : Int)
def spPow : Sp := fun vs H Q _ => ∃ e : Nat, vs = [nv e] ∧ e ≤ 1000 ∧ Q (nv (2 ^ e)) H
def spBit : Sp := fun vs H Q _ => ∃ a p : Nat, vs = [nv a, nv p] ∧ p < 30 ∧ Q (nv (dig a p)) H
def spFits (K : PySem.W.Frag) : Sp := fun vs H Q _ => ∃ (a : Addr) (n : Nat) (t : List Nat), vs = [nv n, .ref a] ∧ SqL K H a (t.map nv) ∧ t.length ≤ 10 ∧ ∀ H', Same H H' → Q (.bl (Kzk1.okTowers n t)) H'
def spWat : Sp := fun vs H Q _ => ∃ n i r : Nat, vs = [nv n, nv i, nv r] ∧ n ≤ 4 ∧ i < n ∧ Q (nv (watchN n i r)) H
theorem same_upd {H : Hp} {p : Addr} {o : HO} (h : H p = none) : Same H (upd H p o) := fun b x e => by
  rw [upd_ne (ne_of_none e h)]
  exact e
section
variable {P : Program} {w : World} {K : PySem.W.Frag} {mg : Str → Option Value} {base : Heap}
theorem ok_pow {f : Addr} {fd : FuncData} {k : Nat} (F : Fun K "power_of_two" "power_of_two" sPow f fd) (mr : mg "range" = none) : FnOk P w K mg base CX0 (k + 1) f fd ["exponent"] spPow := by
  refine F.ok scP (fun vs H Q E h => ?_) (fun cdv A outer s H vs Q E hr h => ?_)
  · obtain ⟨e, rfl, _⟩ := h
    rfl
  · obtain ⟨e, rfl, he, q⟩ := h
    refine ⟨_, pss_cons (ps_set (i := 1) scP.nd rfl (.inl rfl) pe_int)
      (pss_cons (ps_for PassesOwn.never rfl (pi_range1 (by rfl) mr (pa_cons (pv 0) pa_nil)) (pg_name (i := 2) scP.nd rfl (.inl rfl))
        (pss_one (ps_set (i := 1) scP.nd rfl (.inl rfl) (pe_op op_mul (pv 1) pe_int))))
      (pss_one (ps_ret (pv 1)))), ?_⟩
    refine ⟨_, rfl, (e : Int), rfl, by omega, by omega, for_range (lo := 0) (n := e) (fun i σ H' => ∃ y, σ = [some (nv e), some (nv (2 ^ i)), y] ∧ H' = H) ⟨none, rfl, rfl⟩ ?_ ?_⟩
    · rintro i σ H' hi ⟨y, rfl, rfl⟩
      refine ⟨_, rfl, _, _, rfl, rfl, .inr ⟨by decide, by decide⟩, some (.int (0 + i)), ?_, rfl⟩
      have e2 : nv (2 ^ (i + 1)) = .int (((2 ^ i : Nat) : Int) * 2) := by
        unfold nv
        rw [Nat.pow_succ]
        rfl
      rw [e2]
      rfl
    · rintro σ H' ⟨y, rfl, rfl⟩
      exact ⟨_, rfl, q⟩
theorem ok_bit {f fP : Addr} {fd fdP : FuncData} {k : Nat} (F : Fun K "bit_at" "bit_at" sBit f fd) (GP : FnOk P w K mg base CX0 (k + 1) fP fdP ["exponent"] spPow) (kP : PySem.W.keepIn K (.ref fP) = true) (bP : Binds K fdP ["exponent"] []) (gP : mg "power_of_two" = some (.ref fP)) :
    FnOk P w K mg base CX0 (k + 2) f fd ["number", "place"] spBit := by
  refine F.ok scB (fun vs H Q E h => ?_) (fun cdv A outer s H vs Q E hr h => ?_)
  · obtain ⟨a, p, rfl, _⟩ := h
    rfl
  · obtain ⟨a, p, rfl, hp, q⟩ := h
    refine ⟨_, pss_one (ps_ret (pe_op op_mod (pe_op op_fdiv (pv 0) (pe_call GP hr (by rfl) gP kP bP .nil pass0 (pa_cons (pv 1) pa_nil))) pe_int)), ?_⟩
    have h1 : 2 ^ p < 2 ^ 30 := Nat.pow_lt_pow_right (by omega) hp
    have h0 : 0 < 2 ^ p := Nat.pow_pos (by omega)
    refine ⟨_, rfl, _, rfl, p, rfl, by omega, (a : Int), ((2 ^ p : Nat) : Int), rfl, rfl, ⟨by omega, by omega⟩, ((a : Int) / ((2 ^ p : Nat) : Int)), 2, rfl, rfl, (by show (0 : Int) < 2; decide), ?_⟩
    have e : nv (dig a p) = .int ((a : Int) / ((2 ^ p : Nat) : Int) % 2) := rfl
    show Q (.int ((a : Int) / ((2 ^ p : Nat) : Int) % 2)) H
    rw [← e]
    exact q
theorem nv_map (t : List Nat) : (up t).map V.int = t.map nv := by
  unfold up
  rw [List.map_map]
  rfl
theorem get_nv {t : List Nat} {i : Nat} {x : V} (h : (t.map nv)[i]? = some x) : ∃ r, t[i]? = some r ∧ x = nv r := by
  rw [List.getElem?_map] at h
  cases e : t[i]? with
  | none => rw [e] at h; cases h
  | some r => rw [e] at h; exact ⟨r, rfl, (Option.some.inj h).symm⟩
theorem take_more {α β : Type} (g : α → β) {t : List α} {i : Nat} {r : α} (h : t[i]? = some r) : (t.take (i + 1)).map g = (t.take i).map g ++ [g r] := by
  rw [List.take_add_one, h, List.map_append]
  rfl
theorem ok_fits {f fP : Addr} {fd fdP : FuncData} {k : Nat} {tM : Tok} (F : Fun K "fits" "fits" sFits f fd) (GP : FnOk P w K mg base CX0 (k + 1) fP fdP ["exponent"] spPow) (kP : PySem.W.keepIn K (.ref fP) = true) (bP : Binds K fdP ["exponent"] []) (gP : mg "power_of_two" = some (.ref fP))
    (gM : mg "MOST_TOWERS" = some (.int 4 tM)) (ml : mg "len" = none) (ma : mg "all" = none) : FnOk P w K mg base CX0 (k + 2) f fd ["n", "t"] (spFits K) := by
  refine F.ok scF (fun vs H Q E h => ?_) (fun cdv A outer s H vs Q E hr h => ?_)
  · obtain ⟨a, n, t, rfl, _⟩ := h
    rfl
  · obtain ⟨a, n, t, rfl, hS, hl, q⟩ := h
    refine ⟨_, pss_cons (ps_if (PW.pt (pw_or (pt_cmpR op_lt (pv 0) pe_int (nomark _)) (pw_or1 (pt_cmpR op_gt (pv 0) (pe_glob (v := .int 4) (by rfl) gM ⟨_, rfl⟩) (nomark _))))) (pss_one (ps_ret pe_bl)) pss_nil)
      (pss_cons (ps_if (pt_cmpR op_ne (pe_callB call_len_seq (by rfl) ml PySem.boot_len (pa_cons (pv 1) pa_nil)) (pv 0) (nomark _)) (pss_one (ps_ret pe_bl)) pss_nil)
      (pss_cons (ps_set (i := 2) scF.nd rfl (Or.inr rfl) (pe_call GP hr (by rfl) gP kP bP .nil pass0 (pa_cons (pe_call GP hr (by rfl) gP kP bP .nil pass0 (pa_cons (pv 0) pa_nil)) pa_nil)))
      (pss_one (ps_ret (pe_callB (cr_all rfl) (by rfl) ma (by decide +kernel) (pa_cons (pe_lc (own := [("rule", 3)]) (g := gName 3) (tt := tYes) rfl scF.nd (pi_list (pv 1)) (blkOk_by (own := [("rule", 3)]) (N := ["n", "t", "limit", "rule"]) (sc := defScope sFits) (by decide +kernel)) (fun _ _ _ _ _ => pg_name (i := 3) scF.nd rfl (Or.inl rfl)) (fun _ _ _ _ _ => pts_nil) (fun _ _ _ _ _ => pe_cmpR op_lt (pv 3) (pv 2) (nomark _))) pa_nil)))))), ?_⟩
    have fin : ∀ {b : Bool} {H' : Hp}, Same H H' → Kzk1.okTowers n t = b → Q (.bl b) H' := fun s e => e ▸ q _ s
    refine ⟨_, rfl, _, _, rfl, rfl, _, rfl, ite2 (fun c => ?_) (fun c => ?_)⟩
    · have c1 : (n : Int) < 1 := of_decide_eq_true c
      exact fin (Same.refl H) (ok_n (by omega))
    · have c1 : ¬ (n : Int) < 1 := fun z => c (decide_eq_true z)
      refine ⟨_, rfl, _, _, rfl, rfl, _, rfl, ite2 (fun d => ?_) (fun d => ?_)⟩
      · have d1 : (4 : Int) < (n : Int) := of_decide_eq_true d
        exact fin (Same.refl H) (ok_n (by omega))
      · have d1 : ¬ (4 : Int) < (n : Int) := fun z => d (decide_eq_true z)
        refine ⟨.ref a, rfl, a, t.map nv, rfl, .inl hS, _, rfl, rfl, _, rfl, ?_⟩
        by_cases e : t.length = n
        · have hn : n ≤ 4 := by omega
          have h4 : 2 ^ n ≤ 2 ^ 4 := pow_le hn
          refine iteNS (by rw [List.length_map, e]; rfl) ?_
          refine ⟨_, rfl, n, rfl, by omega, 2 ^ n, rfl, by omega, ?_⟩
          refine ⟨.ref a, rfl, a, rfl, ⟨_, hS⟩, fun D hD => lc_list (K := K) (a := a) (xs := t.map nv)
            (fun i H' => Same H H' ∧ H' D = some (.lst ((t.take i).map fun (r : Nat) => V.bl (decide ((r : Int) < ((2 ^ 2 ^ n : Nat) : Int)))))) ⟨same_upd hD, upd_same⟩ (fun i H' _ h => h.1.seq hS) ?_ ?_⟩
          · rintro i x H' hx ⟨sm, hd⟩
            obtain ⟨r, hr1, rfl⟩ := get_nv hx
            refine ⟨rfl, _, rfl, _, rfl, _, _, rfl, rfl, _, hd, ?_, ?_, ?_⟩
            · rw [List.length_map, List.length_take]
              exact Nat.lt_of_le_of_lt (Nat.min_le_right _ _) (Nat.lt_of_le_of_lt hl (by decide))
            · intro b o eb
              rw [upd_ne (ne_of_none eb hD)]
              exact sm b o eb
            · rw [upd_same, take_more _ hr1]
          · rintro H' ⟨sm, hd⟩
            rw [List.length_map, List.take_length] at hd
            refine ⟨D, t.map fun (r : Nat) => decide ((r : Int) < ((2 ^ 2 ^ n : Nat) : Int)), rfl, SqL.of (hd.trans ?_), ?_⟩
            · rw [List.map_map]
              rfl
            · rw [all_range_lt]
              exact fin sm (ok_all (by omega) e)
        · rw [decide_eq_false (fun z => e (by
            rw [List.length_map] at z
            have z2 := V.int.inj z
            omega))]
          refine iteT ?_
          exact fin (Same.refl H) (ok_len e)
theorem ok_wat {f fP fB : Addr} {fd fdP fdB : FuncData} {k : Nat} {t1 t2 : Tok} (F : Fun K "watching" "watching" sWat f fd) (GP : FnOk P w K mg base CX0 (k + 1) fP fdP ["exponent"] spPow) (kP : PySem.W.keepIn K (.ref fP) = true) (bP : Binds K fdP ["exponent"] []) (gP : mg "power_of_two" = some (.ref fP))
    (GB : FnOk P w K mg base CX0 (k + 2) fB fdB ["number", "place"] spBit) (kB : PySem.W.keepIn K (.ref fB) = true) (bB : Binds K fdB ["number", "place"] []) (gB : mg "bit_at" = some (.ref fB))
    (g1 : mg "LIFTED" = some (.int 1 t1)) (g2 : mg "LOWERED" = some (.int 2 t2)) (mr : mg "range" = none) : FnOk P w K mg base CX0 (k + 3) f fd ["n", "i", "rule"] spWat := by
  refine F.ok scW (fun vs H Q E h => ?_) (fun cdv A outer s H vs Q E hr h => ?_)
  · obtain ⟨n, i, r, rfl, _⟩ := h
    rfl
  · obtain ⟨n, i, r, rfl, hn, hi, q⟩ := h
    have hrP : Room (k + 1) _ := hr.mono (by omega)
    refine ⟨_, pss_cons (ps_set (i := 3) scW.nd rfl (.inl rfl) pe_int)
      (pss_cons (ps_set (i := 4) scW.nd rfl (.inl rfl) pe_int)
      (pss_cons (ps_for PassesOwn.never rfl (pi_range1 (by rfl) mr (pa_cons (pe_call GP hrP (by rfl) gP kP bP .nil pass0 (pa_cons (pv 0) pa_nil)) pa_nil)) (pg_name (i := 5) scW.nd rfl (.inl rfl))
        (pss_one (ps_if (pt_cmpR op_eq (pe_call GB hr (by rfl) gB kB bB .nil pass0 (pa_cons (pv 5) (pa_cons (pv 1) pa_nil))) pe_int (nomark _))
          (pss_cons (ps_set (i := 6) scW.nd rfl (.inl rfl) (pe_call GB hr (by rfl) gB kB bB .nil pass0 (pa_cons (pv 2) (pa_cons (pv 5) pa_nil))))
          (pss_cons (ps_set (i := 7) scW.nd rfl (.inl rfl) (pe_call GB hr (by rfl) gB kB bB .nil pass0 (pa_cons (pv 2) (pa_cons (pe_op op_add (pv 5) (pe_call GP hrP (by rfl) gP kP bP .nil pass0 (pa_cons (pv 1) pa_nil))) pa_nil))))
          (pss_cons (ps_if (pt_cmpR op_lt (pv 6) (pv 7) (nomark _)) (pss_one (ps_set (i := 3) scW.nd rfl (.inl rfl) (pe_glob (v := .int 1) (by rfl) g1 ⟨_, rfl⟩))) pss_nil)
          (pss_one (ps_if (pt_cmpR op_gt (pv 6) (pv 7) (nomark _)) (pss_one (ps_set (i := 4) scW.nd rfl (.inl rfl) (pe_glob (v := .int 2) (by rfl) g2 ⟨_, rfl⟩))) pss_nil))))) pss_nil)))
      (pss_one (ps_ret (pe_op op_add (pv 3) (pv 4)))))), ?_⟩
    have h4 : 2 ^ n ≤ 2 ^ 4 := pow_le hn
    have h3 : 2 ^ i ≤ 2 ^ 3 := pow_le (by omega)
    have z0 : -(2 ^ 62) ≤ ((2 ^ n : Nat) : Int) := Int.le_trans (by decide) (Int.natCast_nonneg _)
    have z4 : ((2 ^ n : Nat) : Int) < 2 ^ 62 := Int.lt_of_le_of_lt (Int.ofNat_le.mpr h4) (by decide)
    refine ⟨_, rfl, n, rfl, by omega, ((2 ^ n : Nat) : Int), rfl, z0, z4, for_range (lo := 0) (n := 2 ^ n)
      (fun k σ H' => ∃ y5 y6 y7, σ = [some (nv n), some (nv i), some (nv r), some (nv (liftN i r k)), some (nv (lowN i r k)), y5, y6, y7] ∧ H' = H) ⟨none, none, none, rfl, rfl⟩ ?_ ?_⟩
    · rintro k σ H' hk ⟨y5, y6, y7, rfl, rfl⟩
      have ek : V.int (0 + (k : Int)) = nv k := by
        unfold nv
        rw [Int.zero_add]
      rw [ek]
      refine ⟨_, rfl, _, rfl, k, i, rfl, by omega, rfl, _, rfl, ite2 (fun c => ?_) (fun c => ?_)⟩
      · have c0 : dig k i = 0 := by
          have z := V.int.inj (of_decide_eq_true c)
          omega
        refine ⟨_, rfl, _, rfl, r, k, rfl, by omega, _, rfl, _, rfl, _, rfl, i, rfl, by omega, (k : Int), ((2 ^ i : Nat) : Int), rfl, rfl, r, k + 2 ^ i, rfl, by omega, ?_⟩
        have eL := liftN_succ i r k
        have eD := lowN_succ i r k
        rw [lift_down c0] at eL
        rw [low_down c0] at eD
        have hc : ∀ {a b : Nat}, (decide ((a : Int) < (b : Int)) = true) ↔ a < b := fun {a b} => by
          rw [decide_eq_true_iff]
          omega
        refine ⟨_, rfl, _, rfl, (dig r k : Int), (dig r (k + 2 ^ i) : Int), rfl, rfl, _, rfl, ite2 (fun c1 => ?_) (fun c1 => ?_)⟩
        · rw [if_pos (decide_eq_true (hc.mp c1))] at eL
          refine ⟨_, rfl, _, rfl, (dig r k : Int), (dig r (k + 2 ^ i) : Int), rfl, rfl, _, rfl, ite2 (fun c2 => ?_) (fun c2 => ?_)⟩
          · have l1 := hc.mp c1
            have l2 := hc.mp c2
            omega
          · rw [if_neg (fun z => c2 (hc.mpr (of_decide_eq_true z)))] at eD
            refine ⟨some (nv k), some (nv (dig r k)), some (nv (dig r (k + 2 ^ i))), ?_, rfl⟩
            rw [eL, eD]
            rfl
        · rw [if_neg (fun z => c1 (hc.mpr (of_decide_eq_true z)))] at eL
          refine ⟨_, rfl, _, rfl, (dig r k : Int), (dig r (k + 2 ^ i) : Int), rfl, rfl, _, rfl, ite2 (fun c2 => ?_) (fun c2 => ?_)⟩
          · rw [if_pos (decide_eq_true (hc.mp c2))] at eD
            refine ⟨some (nv k), some (nv (dig r k)), some (nv (dig r (k + 2 ^ i))), ?_, rfl⟩
            rw [eL, eD]
            rfl
          · rw [if_neg (fun z => c2 (hc.mpr (of_decide_eq_true z)))] at eD
            refine ⟨some (nv k), some (nv (dig r k)), some (nv (dig r (k + 2 ^ i))), ?_, rfl⟩
            rw [eL, eD]
            rfl
      · have c0 : dig k i ≠ 0 := fun z => c (decide_eq_true (by rw [z]; rfl))
        refine ⟨some (nv k), y6, y7, ?_, rfl⟩
        rw [liftN_succ, lowN_succ, lift_up c0, low_up c0]
        rfl
    · rintro σ H' ⟨y5, y6, y7, rfl, rfl⟩
      exact ⟨_, rfl, _, rfl, _, _, rfl, rfl, q⟩
end
end TW
/-! ## layers -/
namespace TW
open PySem PySem.Spec PyProof.Rows L2
open PySem.W (Codec)
abbrev sAl : Stmt := top 10
abbrev sNl : Stmt := top 11
abbrev sLay : Stmt := top 12
theorem scAl : FnScope ["n", "rule", "placed", "i"] ["n", "rule", "placed"] (defScope sAl) := ⟨rfl, rfl, rfl, by decide +kernel, rfl, by decide +kernel, by decide +kernel⟩
theorem scNl : FnScope ["n", "t", "placed", "unplaced", "tower"] ["n", "t", "placed"] (defScope sNl) := ⟨rfl, rfl, rfl, by decide +kernel, rfl, by decide +kernel, by decide +kernel⟩
theorem scLa : FnScope ["n", "t", "placed", "count", "towers", "tower"] ["n", "t"] (defScope sLay) := ⟨rfl, rfl, rfl, by decide +kernel, rfl, by decide +kernel, by decide +kernel⟩
/-- a tower as a dict's key -/
abbrev kN (j : Nat) : Key := Sum.inl (j : Int)
/-- the dict's keys are the placed ones -/
def InD (n : Nat) (kvs : List (Key × V)) (P : Nat → Bool) : Prop := ∀ j : Nat, j < n → (valV kvs (kN j)).isSome = P j
def spAl : Sp := fun vs H Q _ => ∃ (d : Addr) (n r : Nat) (kvs : List (Key × V)) (P : Nat → Bool), vs = [nv n, nv r, .ref d] ∧ H d = some (.dK kvs) ∧ InD n kvs P ∧ n ≤ 4 ∧
  ∀ (H' : Hp), Same H H' → Q (.bl (aloneN n r P)) H'
def spNl (K : PySem.W.Frag) : Sp := fun vs H Q _ => ∃ (a d : Addr) (n : Nat) (t : List Nat) (kvs : List (Key × V)) (P : Nat → Bool), vs = [nv n, .ref a, .ref d] ∧ SqL K H a (t.map nv) ∧ H d = some (.dK kvs) ∧ InD n kvs P ∧ n ≤ 4 ∧ t.length = n ∧
  ∀ (H' : Hp) (p : Addr), Same H H' → H' p = some (.lst ((nextN n t P).map nv)) → Q (.ref p) H'
def spLay (K : PySem.W.Frag) : Sp := fun vs H Q _ => ∃ (a : Addr) (n : Nat) (t : List Nat), vs = [nv n, .ref a] ∧ SqL K H a (t.map nv) ∧ t.length ≤ 10 ∧
  ∀ (H' : Hp) (p : Addr), H' p = some (.lst ((PyKzk2.layers (n : Int) (up t)).map V.int)) → Q (.ref p) H'
theorem ifT {b : Bool} {A B : Prop} (e : b = true) (h : A) : if b = true then A else B := by
  rw [if_pos e]; exact h
theorem ifF {b : Bool} {A B : Prop} (e : b = false) (h : B) : if b = true then A else B := by
  rw [if_neg (by rw [e]; decide)]; exact h
theorem tiny {n : Nat} (h : n ≤ 1000) : n < sizeLine := Nat.lt_of_le_of_lt h (by decide)
theorem at_nv {t : List Nat} {j : Nat} (hj : j < t.length) : atI (t.map nv) (j : Int) = some (nv (t.getD j 0)) := by
  refine atI_nat (j := j) ?_
  rw [List.getElem?_map, List.getD_eq_getElem?_getD, List.getElem?_eq_getElem hj]
  rfl
theorem same_put {H H' : Hp} {D : Addr} {o : HO} (hD : H D = none) (sm : Same H H') : Same H (upd H' D o) := fun b x e => by
  rw [upd_ne (ne_of_none e hD)]
  exact sm b x e
theorem nv_zero (i : Nat) : V.int (0 + (i : Int)) = nv i := by
  unfold nv
  rw [Int.zero_add]
theorem range_more {α : Type} (f : Nat → α) (i : Nat) : (List.range (i + 1)).map f = (List.range i).map f ++ [f i] := by
  rw [List.range_succ, List.map_append]
  rfl
section
variable {P : Program} {w : World} {K : PySem.W.Frag} {mg : Str → Option Value} {base : Heap}
theorem ok_al {f fW : Addr} {fd fdW : FuncData} {k : Nat} (F : Fun K "watches_placed_ones_alone" "watches_placed_ones_alone" sAl f fd)
    (GW : FnOk P w K mg base CX0 (k + 3) fW fdW ["n", "i", "rule"] spWat) (kW : PySem.W.keepIn K (.ref fW) = true) (bW : Binds K fdW ["n", "i", "rule"] []) (gW : mg "watching" = some (.ref fW))
    (mr : mg "range" = none) (ma : mg "all" = none) : FnOk P w K mg base CX0 (k + 4) f fd ["n", "rule", "placed"] spAl := by
  refine F.ok scAl (fun vs H Q E h => ?_) (fun cdv A outer s H vs Q E hr h => ?_)
  · obtain ⟨d, n, r, kvs, B, rfl, _⟩ := h
    rfl
  · obtain ⟨d, n, r, kvs, B, rfl, hd, hB, hn, q⟩ := h
    have hu := hu_of hr
    refine ⟨_, pss_one (ps_ret (pe_callB (cr_all rfl) (by rfl) ma (by decide +kernel) (pa_cons (pe_lc (own := [("i", 3)]) (g := gName 3) (tt := tYes) rfl scAl.nd (pi_range1 (by rfl) mr (pa_cons (pv 0) pa_nil)) (blkOk_by (own := [("i", 3)]) (N := ["n", "rule", "placed", "i"]) (sc := defScope sAl) (by decide +kernel)) (fun _ _ _ _ _ => pg_name (i := 3) scAl.nd rfl (Or.inl rfl)) (fun _ _ _ _ _ => pts_nil)
      (fun _ _ _ _ _ => pe_or (pe_cmp (pc_din hu (pv 3) (pv 2)) rfl) (pe_one (pe_cmpR op_eq (pe_call GW hr (by rfl) gW kW bW .nil pass0 (pa_cons (pv 0) (pa_cons (pv 3) (pa_cons (pv 1) pa_nil)))) pe_int (nomark _))))) pa_nil))), ?_⟩
    have hn62 : (n : Int) < 2 ^ 62 := Int.lt_of_le_of_lt (Int.ofNat_le.mpr hn) (by decide)
    refine ⟨_, rfl, (n : Int), rfl, Int.le_trans (by decide) (Int.natCast_nonneg _), hn62, fun D hD => lc_range (lo := 0) (n := n)
      (fun i H' => Same H H' ∧ H' D = some (.lst ((List.range i).map fun (j : Nat) => V.bl (B j || decide (watchN n j r = 0))))) ⟨same_upd hD, upd_same⟩ ?_ ?_⟩
    · rintro i H' hi ⟨sm, hl⟩
      rw [nv_zero]
      have nx : ∀ {b : Bool}, (B i || decide (watchN n i r = 0)) = b → ∃ acc, H' D = some (.lst acc) ∧ acc.length < sizeLine ∧ (Same H (upd H' D (.lst (acc ++ [V.bl b]))) ∧ upd H' D (.lst (acc ++ [V.bl b])) D = some (.lst ((List.range (i + 1)).map fun (j : Nat) => V.bl (B j || decide (watchN n j r = 0))))) := by
        intro b eb
        refine ⟨_, hl, ?_, same_put hD sm, ?_⟩
        · rw [List.length_map, List.length_range]
          exact tiny (by omega)
        · rw [upd_same, range_more, eb]
      refine ⟨rfl, _, rfl, _, rfl, d, _, rfl, DGet.k (k := kN i) (sm _ _ hd), _, rfl, ?_⟩
      cases eB : B i with
      | true =>
        refine ifT ((hB i hi).trans eB) (nx ?_)
        rw [eB]
        rfl
      | false =>
        refine ifF ((hB i hi).trans eB) ?_
        refine ⟨_, rfl, _, rfl, _, rfl, n, i, r, rfl, hn, hi, rfl, nx ?_⟩
        rw [eB, Bool.false_or]
        exact decide_eq_decide.mpr ⟨fun z => by rw [z]; rfl, fun z => by have z2 := V.int.inj z; omega⟩
    · rintro H' ⟨sm, hl⟩
      refine ⟨D, (List.range n).map fun (j : Nat) => (B j || decide (watchN n j r = 0)), rfl, SqL.of (hl.trans ?_), ?_⟩
      · rw [List.map_map]
        rfl
      · have e : aloneN n r B = ((List.range n).map fun (j : Nat) => (B j || decide (watchN n j r = 0))).all id := by
          unfold aloneN
          rw [List.all_map]
          rfl
        rw [← e]
        exact q _ sm
end
/-- the dict holds the placed ones' layers, and no more -/
def Dct (n : Nat) (kvs : List (Key × V)) (B : Nat → Bool) (g : Nat → Nat) : Prop := kvs.length = numP n B ∧ ∀ j : Nat, j < n → valV kvs (kN j) = if B j then some (nv (g j)) else none
theorem Dct.inD {n : Nat} {kvs : List (Key × V)} {B : Nat → Bool} {g : Nat → Nat} (h : Dct n kvs B g) : InD n kvs B := fun j hj => by
  rw [h.2 j hj]
  cases B j <;> rfl
theorem Dct.congr {n : Nat} {kvs : List (Key × V)} {B B' : Nat → Bool} {g g' : Nat → Nat} (h : Dct n kvs B g) (hB : ∀ j < n, B j = B' j) (hg : ∀ j < n, g j = g' j) : Dct n kvs B' g' :=
  ⟨h.1.trans (num_congr hB), fun j hj => by rw [← hB j hj, ← hg j hj]; exact h.2 j hj⟩
theorem Dct.put {n : Nat} {kvs : List (Key × V)} {B : Nat → Bool} {g : Nat → Nat} {j : Nat} (c : Nat) (h : Dct n kvs B g) (hj : j < n) (hB : B j = false) : Dct n (putK kvs (kN j) (nv c)) (fun i => B i || decide (i = j)) (fun i => if i = j then c else g i) := by
  have e0 : valV kvs (kN j) = none := by
    rw [h.2 j hj, hB]
    rfl
  refine ⟨?_, fun i hi => ?_⟩
  · rw [putK_new _ e0, List.length_append, h.1, num_add hj hB]
    rfl
  · rw [valV_put]
    show _ = if (B i || decide (i = j)) = true then some (nv (if i = j then c else g i)) else none
    by_cases e : i = j
    · rw [if_pos (by rw [e]), if_pos e, decide_eq_true e, Bool.or_true]
      rfl
    · rw [if_neg (fun z => e (by have z2 := Sum.inl.inj z; omega)), if_neg e, decide_eq_false e, Bool.or_false]
      exact h.2 i hi
theorem Dct.nil {n : Nat} {g : Nat → Nat} : Dct n [] (fun _ => false) g := by
  refine ⟨?_, fun j hj => rfl⟩
  unfold numP
  rw [List.countP_false]
  rfl
theorem filter_more (q : Nat → Bool) {L : List Nat} {i x : Nat} (hx : L[i]? = some x) : ((L.take (i + 1)).filter q) = (L.take i).filter q ++ if q x then [x] else [] := by
  rw [List.take_add_one, hx, List.filter_append]
  show _ ++ List.filter q [x] = _
  rw [List.filter_cons, List.filter_nil]
theorem filter_range (q : Nat → Bool) (i : Nat) : (List.range (i + 1)).filter q = (List.range i).filter q ++ if q i then [i] else [] := by
  rw [List.range_succ, List.filter_append, List.filter_cons, List.filter_nil]
section
variable {P : Program} {w : World} {K : PySem.W.Frag} {mg : Str → Option Value} {base : Heap}
theorem ok_nl {f fA : Addr} {fd fdA : FuncData} {k : Nat} (F : Fun K "next_layer" "next_layer" sNl f fd)
    (GA : FnOk P w K mg base CX0 (k + 4) fA fdA ["n", "rule", "placed"] spAl) (kA : PySem.W.keepIn K (.ref fA) = true) (bA : Binds K fdA ["n", "rule", "placed"] []) (gA : mg "watches_placed_ones_alone" = some (.ref fA))
    (mr : mg "range" = none) : FnOk P w K mg base CX0 (k + 5) f fd ["n", "t", "placed"] (spNl K) := by
  refine F.ok scNl (fun vs H Q E h => ?_) (fun cdv A outer s H vs Q E hr h => ?_)
  · obtain ⟨a, d, n, t, kvs, B, rfl, _⟩ := h
    rfl
  · obtain ⟨a, d, n, t, kvs, B, rfl, hS, hd, hB, hn, ht, q⟩ := h
    have hu := hu_of hr
    refine ⟨_, pss_cons (ps_setLc (i := 3) (own := [("tower", 4)]) (g := gName 4) rfl scNl.nd rfl rfl (sw_true rfl rfl rfl (by decide +kernel)) (pi_range1 (by rfl) mr (pa_cons (pv 0) pa_nil)) (blkOk_by (own := [("tower", 4)]) (N := ["n", "t", "placed", "unplaced", "tower"]) (sc := defScope sNl) (by decide +kernel)) (fun _ _ _ _ _ => pg_name (i := 4) scNl.nd rfl (Or.inl rfl)) (fun _ _ _ _ _ => pts_one (pt_cmp (pc_dnotin hu (pv 4) (pv 2)) rfl)) (fun _ _ _ _ _ => pv 4))
      (pss_one (ps_ret (pe_lc (own := [("tower", 4)]) (g := gName 4) (tt := tB (tCall spAl [] _ (tCons (tVar 0) (tCons (tOp (rIxL K) (tVar 1) (tVar 4)) (tCons (tVar 2) tNil))))) rfl scNl.nd (pi_list (pv 3)) (blkOk_by (own := [("tower", 4)]) (N := ["n", "t", "placed", "unplaced", "tower"]) (sc := defScope sNl) (by decide +kernel)) (fun _ _ _ _ _ => pg_name (i := 4) scNl.nd rfl (Or.inl rfl))
        (fun _ _ _ _ _ => pts_one (pt_val (pe_call GA hr (by rfl) gA kA bA .nil pass0 (pa_cons (pv 0) (pa_cons (pe_ix ix_list (pv 1) (pv 4) (fun _ _ => rfl)) (pa_cons (pv 2) pa_nil)))))) (fun _ _ _ _ _ => pv 4)))), ?_⟩
    have hn62 : (n : Int) < 2 ^ 62 := Int.lt_of_le_of_lt (Int.ofNat_le.mpr hn) (by decide)
    refine ⟨_, rfl, (n : Int), rfl, Int.le_trans (by decide) (Int.natCast_nonneg _), hn62, fun D hD => lc_range (lo := 0) (n := n)
      (fun i H' => Same H H' ∧ H' D = some (.lst (((List.range i).filter fun j => !B j).map nv))) ⟨same_upd hD, upd_same⟩ ?_ ?_⟩
    · rintro i H' hi ⟨sm, hl⟩
      rw [nv_zero]
      refine ⟨rfl, _, rfl, _, rfl, d, _, rfl, DGet.k (k := kN i) (sm _ _ hd), _, rfl, ?_⟩
      have es := filter_range (fun j => !B j) i
      cases eB : B i with
      | true =>
        rw [show (!B i) = false by rw [eB]; rfl, if_neg (by decide), List.append_nil] at es
        refine ifF (by rw [hB i hi, eB]; rfl) ⟨sm, ?_⟩
        rw [es]
        exact hl
      | false =>
        rw [show (!B i) = true by rw [eB]; rfl, if_pos rfl] at es
        refine ifT (by rw [hB i hi, eB]; rfl) ⟨_, rfl, _, hl, ?_, same_put hD sm, ?_⟩
        · rw [List.length_map]
          refine tiny (Nat.le_trans (List.length_filter_le _ _) ?_)
          rw [List.length_range]
          omega
        · rw [upd_same, es, List.map_append]
          rfl
    · rintro H1 ⟨s1, hl1⟩
      have hl1 : H1 D = some (.lst ((leftN n B).map nv)) := hl1
      refine ⟨_, rfl, D, rfl, ⟨_, SqL.of hl1⟩, fun D2 hD2 => lc_list (K := K) (a := D) (xs := (leftN n B).map nv)
        (fun i H' => Same H1 H' ∧ H' D2 = some (.lst ((((leftN n B).take i).filter fun j => aloneN n (t.getD j 0) B).map nv))) ⟨same_upd hD2, upd_same⟩ (fun i H' _ h => h.1.seq (SqL.of hl1)) ?_ ?_⟩
      · rintro i x H2 hx ⟨s2, hl2⟩
        obtain ⟨j, hj, rfl⟩ := get_nv hx
        have hjn : j < n := List.mem_range.mp (List.mem_filter.mp (List.mem_of_getElem? hj)).1
        refine ⟨rfl, _, rfl, _, rfl, _, rfl, a, t.map nv, (j : Int), nv (t.getD j 0), rfl, rfl, (s1.trans s2).seq hS, at_nv (by omega), _, rfl, d, n, t.getD j 0, kvs, B, rfl, (s1.trans s2) _ _ hd, hB, hn, fun H3 s3 => ⟨_, rfl, ?_⟩⟩
        have es := filter_more (fun j => aloneN n (t.getD j 0) B) hj
        cases eA : aloneN n (t.getD j 0) B with
        | true =>
          rw [show (aloneN n (t.getD j 0) B) = true from eA, if_pos rfl] at es
          refine iteT ⟨_, rfl, _, s3 _ _ hl2, ?_, same_put hD2 (s2.trans s3), ?_⟩
          · rw [List.length_map]
            refine tiny (Nat.le_trans (List.length_filter_le _ _) ?_)
            rw [List.length_take]
            refine Nat.le_trans (Nat.min_le_right _ _) (Nat.le_trans (List.length_filter_le _ _) ?_)
            rw [List.length_range]
            omega
          · rw [upd_same, es, List.map_append]
            rfl
        | false =>
          rw [show (aloneN n (t.getD j 0) B) = false from eA, if_neg (by decide), List.append_nil] at es
          refine iteF ⟨s2.trans s3, ?_⟩
          rw [es]
          exact s3 _ _ hl2
      · rintro H2 ⟨s2, hl2⟩
        rw [List.length_map, List.take_length] at hl2
        exact q _ _ (s1.trans s2) hl2
theorem ok_lay {f fF fN : Addr} {fd fdF fdN : FuncData} {k : Nat} {t1 t2 : Tok} (F : Fun K "layers" "layers" sLay f fd)
    (GF : FnOk P w K mg base CX0 (k + 2) fF fdF ["n", "t"] (spFits K)) (kF : PySem.W.keepIn K (.ref fF) = true) (bF : Binds K fdF ["n", "t"] []) (gF : mg "fits" = some (.ref fF))
    (GN : FnOk P w K mg base CX0 (k + 5) fN fdN ["n", "t", "placed"] (spNl K)) (kX : PySem.W.keepIn K (.ref fN) = true) (bN : Binds K fdN ["n", "t", "placed"] []) (gN : mg "next_layer" = some (.ref fN))
    (g1 : mg "DOES_NOT_FIT" = some (.int (-22) t1)) (g2 : mg "THERE_IS_A_RING" = some (.int (-33) t2)) (mr : mg "range" = none) (ml : mg "len" = none) : FnOk P w K mg base CX0 (k + 6) f fd ["n", "t"] (spLay K) := by
  refine F.ok scLa (fun vs H Q E h => ?_) (fun cdv A outer s H vs Q E hr h => ?_)
  · obtain ⟨a, n, t, rfl, _⟩ := h
    rfl
  · obtain ⟨a, n, t, rfl, hS, hl, q⟩ := h
    have hrF : Room (k + 2) _ := hr.mono (by omega)
    have hu := hu_of hr
    refine ⟨_, pss_cons (ps_if (pt_not (pt_val (pe_call GF hrF (by rfl) gF kF bF .nil pass0 (pa_cons (pv 0) (pa_cons (pv 1) pa_nil))))) (pss_one (ps_ret (pe_lst (pa_cons (pe_glob (v := .int (-22)) (by rfl) g1 ⟨_, rfl⟩) pa_nil)))) pss_nil)
      (pss_cons (ps_set (i := 2) scLa.nd rfl (.inr rfl) pe_dnewK)
      (pss_cons (ps_set (i := 3) scLa.nd rfl (.inl rfl) pe_int)
      (pss_cons (ps_while PassesOwn.never (pt_cmpR op_lt (pe_callB call_lenD (by rfl) ml PySem.boot_len (pa_cons (pv 2) pa_nil)) (pv 0) (nomark _))
        (pss_cons (ps_set (i := 4) scLa.nd rfl (.inl rfl) (pe_call GN hr (by rfl) gN kX bN .nil pass0 (pa_cons (pv 0) (pa_cons (pv 1) (pa_cons (pv 2) pa_nil)))))
        (pss_cons (ps_if (pt_cmpR op_eq (pe_callB call_len_seq (by rfl) ml PySem.boot_len (pa_cons (pv 4) pa_nil)) pe_int (nomark _)) (pss_one (ps_ret (pe_lst (pa_cons (pe_glob (v := .int (-33)) (by rfl) g2 ⟨_, rfl⟩) pa_nil)))) pss_nil)
        (pss_cons (ps_for PassesOwn.never rfl (pi_list (pv 4)) (pg_name (i := 5) scLa.nd rfl (.inl rfl)) (pss_one (ps_dput hu (pv 2) (pv 5) (pv 3) rfl)))
        (pss_one (ps_set (i := 3) scLa.nd rfl (.inl rfl) (pe_op op_add (pv 3) pe_int)))))))
      (pss_one (ps_ret (pe_op op_cat (pe_lst (pa_cons (pv 3) pa_nil)) (pe_lc (own := [("tower", 5)]) (g := gName 5) (tt := tYes) rfl scLa.nd (pi_range1 (by rfl) mr (pa_cons (pv 0) pa_nil)) (blkOk_by (own := [("tower", 5)]) (N := ["n", "t", "placed", "count", "towers", "tower"]) (sc := defScope sLay) (by decide +kernel)) (fun _ _ _ _ _ => pg_name (i := 5) scLa.nd rfl (Or.inl rfl)) (fun _ _ _ _ _ => pts_nil)
        (fun _ _ _ _ _ => pe_dget hu (pv 2) (pv 5) (fun _ _ => rfl))))))))), ?_⟩
    have fin : ∀ {l' : List V} {p : Addr} {H' : Hp}, (PyKzk2.layers (n : Int) (up t)).map V.int = l' → Q (.ref p) (upd H' p (.lst l')) := fun {l' p H'} e => q _ p (by rw [upd_same, e])
    refine ⟨_, rfl, _, rfl, a, n, t, rfl, hS, hl, fun H1 s1 => ⟨_, rfl, ?_⟩⟩
    cases ok : Kzk1.okTowers n t with
    | false =>
      refine iteT ?_
      exact ⟨(by show 1 ≤ sizeLine; decide), fun p _ => fin (by rw [layers_22 ok]; rfl)⟩
    | true =>
      refine iteF ?_
      obtain ⟨o1, o2, o3⟩ := ok_iff ok
      have hn62 : (n : Int) < 2 ^ 62 := Int.lt_of_le_of_lt (Int.ofNat_le.mpr o2) (by decide)
      refine fun d hd0 => ?_
      have hd1 : H d = none := s1.free hd0
      refine ⟨fun r σ H2 => ∃ (c : Nat) (kvs : List (Key × V)) (B : Nat → Bool) (g : Nat → Nat) (y4 y5 : Option V), r = n - numP n B ∧ σ = [some (nv n), some (.ref a), some (.ref d), some (nv c), y4, y5] ∧ Same H H2 ∧ H2 d = some (.dK kvs) ∧ Dct n kvs B g ∧ Peel n t B g c,
        ⟨_, 0, [], fun _ => false, fun _ => 0, none, none, rfl, rfl, same_put hd1 s1, upd_same, Dct.nil, Peel.start⟩, ?_⟩
      rintro r σ H2 ⟨c, kvs, B, g, y4, y5, rfl, rfl, sm2, hd2, hK, hP⟩
      refine ⟨_, rfl, d, kvs, rfl, hd2, _, rfl, (kvs.length : Int), (n : Int), rfl, rfl, _, rfl, ?_⟩
      by_cases e : numP n B < n
      · refine ifT (decide_eq_true (by rw [hK.1]; omega)) ?_
        refine ⟨fun σ H2 => ∃ (c : Nat) (kvs : List (Key × V)) (B' : Nat → Bool) (g : Nat → Nat) (y4 y5 : Option V), numP n B < numP n B' ∧ σ = [some (nv n), some (.ref a), some (.ref d), some (nv c), y4, y5] ∧ Same H H2 ∧ H2 d = some (.dK kvs) ∧ Dct n kvs B' g ∧ Peel n t B' g c,
          fun σ' H' ⟨c, kvs, B', g, y4, y5, lt, z⟩ => ⟨n - numP n B', by omega, c, kvs, B', g, y4, y5, rfl, z⟩, ?_⟩
        refine ⟨_, rfl, _, rfl, _, rfl, a, d, n, t, kvs, B, rfl, sm2.seq hS, hd2, hK.inD, o2, o3, fun H3 p s3 hp => ?_⟩
        refine ⟨_, rfl, p, _, rfl, .inl (SqL.of hp), rfl, _, rfl, ?_⟩
        by_cases ne : nextN n t B = []
        · refine ifT (decide_eq_true (by rw [ne]; rfl)) ?_
          exact ⟨(by show 1 ≤ sizeLine; decide), fun z _ => fin (by rw [layers_33 ok (Peel.ring o1 o2 ne (num_left e))]; rfl)⟩
        · refine ifF (decide_eq_false fun z => ne ?_) ?_
          · have z2 := V.int.inj z
            rw [List.length_map] at z2
            exact List.length_eq_zero_iff.mp (by omega)
          have hpd : p ≠ d := fun z => by
            rw [z, s3 _ _ hd2] at hp
            cases hp
          refine ⟨_, rfl, p, rfl, ⟨_, SqL.of hp⟩, for_list (K := K) (a := p) (xs := (nextN n t B).map nv)
            (fun i σ H' => ∃ (y5 : Option V) (kvs' : List (Key × V)), σ = [some (nv n), some (.ref a), some (.ref d), some (nv c), some (.ref p), y5] ∧ Same H H' ∧ H' p = some (.lst ((nextN n t B).map nv)) ∧ H' d = some (.dK kvs') ∧ Dct n kvs' (putP B ((nextN n t B).take i)) (putG g ((nextN n t B).take i) c))
            ⟨y5, kvs, rfl, sm2.trans s3, hp, s3 _ _ hd2, hK.congr (fun j _ => by simp [putP]) (fun j _ => by simp [putG])⟩ (fun i σ H' _ ⟨_, _, _, _, hp4, _⟩ => SqL.of hp4) ?_ ?_⟩
          · rintro i x σ H4 hx ⟨y5, kvs', rfl, sm4, hp4, hd4, hK4⟩
            obtain ⟨j, hj, rfl⟩ := get_nv hx
            have hjn : j < n := (mem_next.mp (List.mem_of_getElem? hj)).1
            refine ⟨_, rfl, _, rfl, _, rfl, d, _, rfl, DPut.k (k := kN j) hd4 (tiny (by rw [hK4.1]; exact Nat.le_trans num_le (by omega))), some (nv j), _, rfl, same_put hd1 sm4, by rw [upd_ne hpd]; exact hp4, upd_same, ?_⟩
            exact (hK4.put c hjn (putP_fresh hj)).congr (fun i _ => (putP_succ hj i).symm) (fun i _ => (putG_succ hj i).symm)
          · rintro σ H4 ⟨y5, kvs', rfl, sm4, hp4, hd4, hK4⟩
            rw [List.length_map, List.take_length] at hK4
            refine ⟨_, rfl, (c : Int), 1, rfl, rfl, c + 1, kvs', _, _, some (.ref p), y5, ?_, rfl, sm4, hd4, hK4, hP.step ne⟩
            exact num_more ne
      · refine ifF (decide_eq_false (by rw [hK.1]; omega)) ?_
        have all := num_all (P := B) (n := n) (by omega)
        refine ⟨_, rfl, (by show 1 ≤ sizeLine; decide), fun p hp => ?_⟩
        have s3 : Same H2 (upd H2 p (.lst [nv c])) := same_upd hp
        refine ⟨_, rfl, (n : Int), rfl, Int.le_trans (by decide) (Int.natCast_nonneg _), hn62, fun D hD => lc_range (lo := 0) (n := n)
          (fun i H' => Same (upd H2 p (.lst [nv c])) H' ∧ H' D = some (.lst ((List.range i).map fun (j : Nat) => nv (g j)))) ⟨same_upd hD, upd_same⟩ ?_ ?_⟩
        · rintro i H4 hi ⟨s4, hl4⟩
          rw [nv_zero]
          have dg := DGet.k (k := kN i) (s4 _ _ (s3 _ _ hd2))
          rw [hK.2 i hi, if_pos (all i hi)] at dg
          refine ⟨rfl, _, rfl, _, rfl, d, nv (g i), rfl, dg, _, hl4, ?_, same_put hD s4, ?_⟩
          · rw [List.length_map, List.length_range]
            exact tiny (by omega)
          · rw [upd_same, range_more]
        · rintro H4 ⟨s4, hl4⟩
          refine ⟨p, D, [nv c], _, rfl, rfl, s4 _ _ upd_same, hl4, ?_, fun z hz => fin ?_⟩
          · rw [List.length_map, List.length_range]
            exact Nat.le_of_lt (tiny (by show 1 + n ≤ 1000; omega))
          · rw [hP.told ok o1 all]
            show V.int (c : Int) :: (up ((List.range n).map g)).map V.int = V.int (c : Int) :: (List.range n).map fun j => nv (g j)
            rw [nv_map, List.map_map]
            rfl
end
end TW
/-! ## The end: what the top has written -/
namespace TW
open PySem PySem.Spec PyProof.Rows L2
open PySem.W (Codec)
theorem all_mk {P : Program} {w : World} {K : PySem.W.Frag} {h : Heap} {mg : Str → Option Value} {fa f0 f1 f2 f3 f4 f5 f6 : Addr} (X : K.In h) (G : h.Ns mainGlobals mg) (hfa : mg "layers" = some (.ref fa))
    {od0 an0 od1 an1 od2 an2 od3 an3 od4 an4 od5 an5 od6 an6 : Option Addr} {sl0 sl1 sl2 sl3 sl4 sl5 sl6 : Array (Option Value)} {oc0 kV0 dc0 pm0 cd0 ct0 oc1 kV1 dc1 pm1 cd1 ct1 oc2 kV2 dc2 pm2 cd2 ct2 oc3 kV3 dc3 pm3 cd3 ct3 oc4 kV4 dc4 pm4 cd4 ct4 oc5 kV5 dc5 pm5 cd5 ct5 oc6 kV6 dc6 pm6 cd6 ct6 : Value}
    {tk0 tk1 tk2 tk3 tk4 : Tok}
    (a0 : PySem.W.nsIn K mainGlobals "power_of_two" = some (some (.ref f0))) (l0 : K.lookup f0 = some ⟨oc0, od0, .func (PySem.W.fnOf "power_of_two" "power_of_two" (defArgs sPow) (defBody sPow) (defScope sPow) .none kV0 dc0 pm0 an0 cd0 ct0), sl0⟩) (c0 : PySem.W.codeIn K cd0 "power_of_two" = true) (k0 : PySem.W.keepIn K (.ref f0) = true)
    (a1 : PySem.W.nsIn K mainGlobals "bit_at" = some (some (.ref f1))) (l1 : K.lookup f1 = some ⟨oc1, od1, .func (PySem.W.fnOf "bit_at" "bit_at" (defArgs sBit) (defBody sBit) (defScope sBit) .none kV1 dc1 pm1 an1 cd1 ct1), sl1⟩) (c1 : PySem.W.codeIn K cd1 "bit_at" = true) (k1 : PySem.W.keepIn K (.ref f1) = true)
    (a2 : PySem.W.nsIn K mainGlobals "fits" = some (some (.ref f2))) (l2 : K.lookup f2 = some ⟨oc2, od2, .func (PySem.W.fnOf "fits" "fits" (defArgs sFits) (defBody sFits) (defScope sFits) .none kV2 dc2 pm2 an2 cd2 ct2), sl2⟩) (c2 : PySem.W.codeIn K cd2 "fits" = true) (k2 : PySem.W.keepIn K (.ref f2) = true)
    (a3 : PySem.W.nsIn K mainGlobals "watching" = some (some (.ref f3))) (l3 : K.lookup f3 = some ⟨oc3, od3, .func (PySem.W.fnOf "watching" "watching" (defArgs sWat) (defBody sWat) (defScope sWat) .none kV3 dc3 pm3 an3 cd3 ct3), sl3⟩) (c3 : PySem.W.codeIn K cd3 "watching" = true) (k3 : PySem.W.keepIn K (.ref f3) = true)
    (a4 : PySem.W.nsIn K mainGlobals "watches_placed_ones_alone" = some (some (.ref f4))) (l4 : K.lookup f4 = some ⟨oc4, od4, .func (PySem.W.fnOf "watches_placed_ones_alone" "watches_placed_ones_alone" (defArgs sAl) (defBody sAl) (defScope sAl) .none kV4 dc4 pm4 an4 cd4 ct4), sl4⟩) (c4 : PySem.W.codeIn K cd4 "watches_placed_ones_alone" = true) (k4 : PySem.W.keepIn K (.ref f4) = true)
    (a5 : PySem.W.nsIn K mainGlobals "next_layer" = some (some (.ref f5))) (l5 : K.lookup f5 = some ⟨oc5, od5, .func (PySem.W.fnOf "next_layer" "next_layer" (defArgs sNl) (defBody sNl) (defScope sNl) .none kV5 dc5 pm5 an5 cd5 ct5), sl5⟩) (c5 : PySem.W.codeIn K cd5 "next_layer" = true) (k5 : PySem.W.keepIn K (.ref f5) = true)
    (a6 : PySem.W.nsIn K mainGlobals "layers" = some (some (.ref f6))) (l6 : K.lookup f6 = some ⟨oc6, od6, .func (PySem.W.fnOf "layers" "layers" (defArgs sLay) (defBody sLay) (defScope sLay) .none kV6 dc6 pm6 an6 cd6 ct6), sl6⟩) (c6 : PySem.W.codeIn K cd6 "layers" = true) (k6 : PySem.W.keepIn K (.ref f6) = true)
    (gc0 : PySem.W.nsIn K mainGlobals "MOST_TOWERS" = some (some (.int (4) tk0)))
    (gc1 : PySem.W.nsIn K mainGlobals "LIFTED" = some (some (.int (1) tk1)))
    (gc2 : PySem.W.nsIn K mainGlobals "LOWERED" = some (some (.int (2) tk2)))
    (gc3 : PySem.W.nsIn K mainGlobals "DOES_NOT_FIT" = some (some (.int (-22) tk3)))
    (gc4 : PySem.W.nsIn K mainGlobals "THERE_IS_A_RING" = some (some (.int (-33) tk4)))
    (z0 : PySem.W.nsIn K mainGlobals "range" = some none)
    (z1 : PySem.W.nsIn K mainGlobals "len" = some none)
    (z2 : PySem.W.nsIn K mainGlobals "all" = some none)
    : ∃ fd : FuncData, (∀ (s : Shared) (us : List Value), us.length = (["n", "t"] : List Str).length → BindsTo s fd ⟨us, []⟩ ((["n", "t"] : List Str).zip us)) ∧ ∀ base : Heap, K.In base → base.Ns mainGlobals mg → FnOk P w K mg base CX0 6 fa fd ["n", "t"] (spLay K) := by
  have e := hfa.symm.trans (PySem.W.mg_of X G a6)
  cases e
  have F0 := fun_mk (st := sPow) l0 c0 k0
  have b0 := F0.binds (ps := ["exponent"]) fun _ _ _ _ _ _ us hl => match us, hl with | [_], _ => rfl
  have m0 := PySem.W.mg_of X G a0
  have F1 := fun_mk (st := sBit) l1 c1 k1
  have b1 := F1.binds (ps := ["number", "place"]) fun _ _ _ _ _ _ us hl => match us, hl with | [_, _], _ => rfl
  have m1 := PySem.W.mg_of X G a1
  have F2 := fun_mk (st := sFits) l2 c2 k2
  have b2 := F2.binds (ps := ["n", "t"]) fun _ _ _ _ _ _ us hl => match us, hl with | [_, _], _ => rfl
  have m2 := PySem.W.mg_of X G a2
  have F3 := fun_mk (st := sWat) l3 c3 k3
  have b3 := F3.binds (ps := ["n", "i", "rule"]) fun _ _ _ _ _ _ us hl => match us, hl with | [_, _, _], _ => rfl
  have m3 := PySem.W.mg_of X G a3
  have F4 := fun_mk (st := sAl) l4 c4 k4
  have b4 := F4.binds (ps := ["n", "rule", "placed"]) fun _ _ _ _ _ _ us hl => match us, hl with | [_, _, _], _ => rfl
  have m4 := PySem.W.mg_of X G a4
  have F5 := fun_mk (st := sNl) l5 c5 k5
  have b5 := F5.binds (ps := ["n", "t", "placed"]) fun _ _ _ _ _ _ us hl => match us, hl with | [_, _, _], _ => rfl
  have m5 := PySem.W.mg_of X G a5
  have F6 := fun_mk (st := sLay) l6 c6 k6
  have mc0 := PySem.W.mg_of X G gc0
  have mc1 := PySem.W.mg_of X G gc1
  have mc2 := PySem.W.mg_of X G gc2
  have mc3 := PySem.W.mg_of X G gc3
  have mc4 := PySem.W.mg_of X G gc4
  have mz0 := PySem.W.mg_none_of X G z0
  have mz1 := PySem.W.mg_none_of X G z1
  have mz2 := PySem.W.mg_none_of X G z2
  refine ⟨PySem.W.fnOf "layers" "layers" (defArgs sLay) (defBody sLay) (defScope sLay) .none kV6 dc6 pm6 an6 cd6 ct6, fun s us hu => match us, hu with | [_, _], _ => .of_eq rfl, fun base _ _ => ?_⟩
  have GP : FnOk P w K mg base CX0 1 _ _ ["exponent"] spPow := ok_pow F0 mz0
  have GB : FnOk P w K mg base CX0 2 _ _ ["number", "place"] spBit := ok_bit (k := 0) F1 GP k0 b0 m0
  have GF : FnOk P w K mg base CX0 2 _ _ ["n", "t"] (spFits K) := ok_fits (k := 0) F2 GP k0 b0 m0 mc0 mz1 mz2
  have GW : FnOk P w K mg base CX0 3 _ _ ["n", "i", "rule"] spWat := ok_wat (k := 0) F3 GP k0 b0 m0 GB k1 b1 m1 mc1 mc2 mz0
  have GA : FnOk P w K mg base CX0 4 _ _ ["n", "rule", "placed"] spAl := ok_al (k := 0) F4 GW k3 b3 m3 mz0 mz2
  have GN : FnOk P w K mg base CX0 5 _ _ ["n", "t", "placed"] (spNl K) := ok_nl (k := 0) F5 GA k4 b4 m4 mz0
  exact ok_lay (k := 0) F6 GF k2 b2 m2 GN k5 b5 m5 mc3 mc4 mz0 mz1
end TW
open PySem PySem.W PyProof.Rows
set_option maxRecDepth 100000 in
set_option maxHeartbeats 8000000 in
theorem PySem.Challenge.cw_towerwatch_s06_layers_holds : PySem.Challenge.rw_towerwatch_s06_layers.Holds := by
  w_on; k_headS; (case hw => exact ⟨[.int 0, .list []], by decide +kernel, by decide +kernel⟩)
  k_fillS
  refine L2.walk_specK (r := PySem.Challenge.rw_towerwatch_s06_layers) (k := 6) (CX := L2.CX0) (ps := ["n", "t"]) (sp := TW.spLay) (by decide +kernel) rfl rfl ⟨rfl, by decide, by decide⟩ (fun w h Y => PySem.W.kIn_of Y) ?F ?S (fun _ _ _ _ z => z)
  case F =>
    intro w mg fa h Y KX G hmg
    refine' TW.all_mk KX G hmg ?a0 ?l0 ?c0 ?k0 ?a1 ?l1 ?c1 ?k1 ?a2 ?l2 ?c2 ?k2 ?a3 ?l3 ?c3 ?k3 ?a4 ?l4 ?c4 ?k4 ?a5 ?l5 ?c5 ?k5 ?a6 ?l6 ?c6 ?k6 ?gc0 ?gc1 ?gc2 ?gc3 ?gc4 ?z0 ?z1 ?z2
    (case a0 => k_is)
    (case l0 => k_is)
    (case c0 => k_is)
    (case k0 => k_is)
    (case a1 => k_is)
    (case l1 => k_is)
    (case c1 => k_is)
    (case k1 => k_is)
    (case a2 => k_is)
    (case l2 => k_is)
    (case c2 => k_is)
    (case k2 => k_is)
    (case a3 => k_is)
    (case l3 => k_is)
    (case c3 => k_is)
    (case k3 => k_is)
    (case a4 => k_is)
    (case l4 => k_is)
    (case c4 => k_is)
    (case k4 => k_is)
    (case a5 => k_is)
    (case l5 => k_is)
    (case c5 => k_is)
    (case k5 => k_is)
    (case a6 => k_is)
    (case l6 => k_is)
    (case c6 => k_is)
    (case k6 => k_is)
    (case gc0 => k_is)
    (case gc1 => k_is)
    (case gc2 => k_is)
    (case gc3 => k_is)
    (case gc4 => k_is)
    (case z0 => k_is)
    (case z1 => k_is)
    (case z2 => k_is)
  case S =>
    intro K H xs a hO hwi hask hx
    obtain ⟨n, t, u⟩ := a
    cases hx with
    | cons h1 h2 =>
    cases h2 with
    | cons h2 h3 =>
    cases h3
    cases h1
    cases h2 with
    | lst hs ha =>
      have e := L2.ints_dw t _ ha
      subst e
      have q : (Codec.inInt 0 4294967295 n && ((Codec.inLen 0 10 t && t.all (Codec.inInt 0 65535)) && true)) = true := hwi
      simp only [Bool.and_eq_true] at q
      obtain ⟨q1, ⟨q4, q5⟩, _⟩ := q
      obtain ⟨n, rfl⟩ := Int.eq_ofNat_of_zero_le (Codec.inInt_iff.mp q1).1
      obtain ⟨t, rfl⟩ := TW.nats_of fun x hx => (Codec.inInt_iff.mp (List.all_eq_true.mp q5 x hx)).1
      rw [TW.nv_map] at hs
      have hl := (Codec.inNat_iff.mp q4).2
      rw [show (TW.up t).length = t.length from List.length_map ..] at hl
      exact ⟨_, n, t, rfl, hs, hl, fun H' p hp => .lst (L2.SqL.of hp) (L2.dw_ints _)⟩
#print axioms PySem.Challenge.cw_towerwatch_s06_layers_holds
