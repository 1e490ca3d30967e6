import PyProof.Rows.All
import Wide.All
import OpenK.AllK
import Wide.FinOn
import Open.SpecLaws
import KE.OsGo
import HandS.Base
import HandS.Call
import HandS.List
import HandS.Comp
import HandS.Ends
import HandS.Spec
import HandS.Words
import HandS.SetFor
import PySem.Challenge.RW_towerwatch_s05_odd
set_option Elab.async false
set_option maxRecDepth 100000
set_option maxHeartbeats 2000000
/-! ## The mathematics: one rule, watched tower by tower -/
namespace TW
/-- what is looked at in a state: the flag of i down, the rule down and up -/
def liftAt (i r s : Nat) : Bool := !Kzk1.bit s i && !Kzk1.bit r s && Kzk1.bit r (s + 2 ^ i)
def lowAt (i r s : Nat) : Bool := !Kzk1.bit s i && Kzk1.bit r s && !Kzk1.bit r (s + 2 ^ i)
def liftN (i r k : Nat) : Nat := if (List.range k).any (liftAt i r) then 1 else 0
def lowN (i r k : Nat) : Nat := if (List.range k).any (lowAt i r) then 2 else 0
def watchN (n i r : Nat) : Nat := liftN i r (2 ^ n) + lowN i r (2 ^ n)
theorem kind_eq (n : Nat) (t : List Nat) (i j : Nat) : Kzk2.kind n t i j = watchN n i (t.getD j 0) := rfl
/-- a place's digit -/
def dig (a p : Nat) : Nat := a / 2 ^ p % 2
theorem dig_lt (a p : Nat) : dig a p < 2 := Nat.mod_lt _ (by omega)
theorem bit_eq (a p : Nat) : Kzk1.bit a p = (dig a p == 1) := rfl
theorem dig_two (a p : Nat) : dig a p = 0 ∨ dig a p = 1 := by
  have := dig_lt a p
  omega
theorem any_succ (k : Nat) (f : Nat → Bool) : (List.range (k + 1)).any f = ((List.range k).any f || f k) := by
  rw [List.range_succ, List.any_append]
  simp
theorem liftN_succ (i r k : Nat) : liftN i r (k + 1) = if liftAt i r k then 1 else liftN i r k := by
  unfold liftN
  rw [any_succ]
  cases (List.range k).any (liftAt i r) <;> cases liftAt i r k <;> rfl
theorem lowN_succ (i r k : Nat) : lowN i r (k + 1) = if lowAt i r k then 2 else lowN i r k := by
  unfold lowN
  rw [any_succ]
  cases (List.range k).any (lowAt i r) <;> cases lowAt i r k <;> rfl
theorem lift_up {i r k : Nat} (h : dig k i ≠ 0) : liftAt i r k = false := by
  unfold liftAt
  rw [bit_eq, (dig_two k i).resolve_left h]
  rfl
theorem low_up {i r k : Nat} (h : dig k i ≠ 0) : lowAt i r k = false := by
  unfold lowAt
  rw [bit_eq, (dig_two k i).resolve_left h]
  rfl
theorem lift_down {i r k : Nat} (h : dig k i = 0) : liftAt i r k = decide (dig r k < dig r (k + 2 ^ i)) := by
  unfold liftAt
  rw [bit_eq, bit_eq, bit_eq, h]
  rcases dig_two r k with e1 | e1 <;> rcases dig_two r (k + 2 ^ i) with e2 | e2 <;> rw [e1, e2] <;> rfl
theorem low_down {i r k : Nat} (h : dig k i = 0) : lowAt i r k = decide (dig r (k + 2 ^ i) < dig r k) := by
  unfold lowAt
  rw [bit_eq, bit_eq, bit_eq, h]
  rcases dig_two r k with e1 | e1 <;> rcases dig_two r (k + 2 ^ i) with e2 | e2 <;> rw [e1, e2] <;> rfl
/-- n and t as they are handed in -/
theorem ok_n {n : Nat} {t : List Nat} (h : n < 1 ∨ 4 < n) : Kzk1.okTowers n t = false := by
  unfold Kzk1.okTowers
  have : (decide (1 ≤ n) && decide (n ≤ 4)) = false := by
    rw [Bool.and_eq_false_iff, decide_eq_false_iff_not, decide_eq_false_iff_not]; omega
  rw [this]; rfl
theorem ok_len {n : Nat} {t : List Nat} (h : t.length ≠ n) : Kzk1.okTowers n t = false := by
  unfold Kzk1.okTowers
  rw [beq_eq_false_iff_ne.mpr h, Bool.and_false]; rfl
theorem ok_all {n : Nat} {t : List Nat} (h : ¬ (n < 1 ∨ 4 < n)) (hl : t.length = n) : Kzk1.okTowers n t = t.all fun r => decide (r < 2 ^ 2 ^ n) := by
  unfold Kzk1.okTowers
  have : (decide (1 ≤ n) && decide (n ≤ 4)) = true := by
    rw [Bool.and_eq_true, decide_eq_true_iff, decide_eq_true_iff]; omega
  rw [this, beq_iff_eq.mpr hl]; rfl
theorem ok_iff {n : Nat} {t : List Nat} (h : Kzk1.okTowers n t = true) : 1 ≤ n ∧ n ≤ 4 ∧ t.length = n := by
  unfold Kzk1.okTowers at h
  simp only [Bool.and_eq_true, beq_iff_eq, decide_eq_true_eq] at h
  exact ⟨h.1.1.1, h.1.1.2, h.1.2⟩
/-- whole numbers from nought -/
def up (l : List Nat) : List Int := l.map fun (x : Nat) => (x : Int)
theorem nats_of : ∀ {l : List Int}, (∀ x ∈ l, 0 ≤ x) → ∃ m : List Nat, l = up m
  | [], _ => ⟨[], rfl⟩
  | a :: r, h => by
    obtain ⟨m, e⟩ := nats_of (l := r) fun x hx => h x (List.mem_cons_of_mem _ hx)
    obtain ⟨k, hk⟩ := Int.eq_ofNat_of_zero_le (h a List.mem_cons_self)
    exact ⟨k :: m, by rw [e, hk]; rfl⟩
theorem natsOf_up (m : List Nat) : Kzk2Neutral.natsOf (up m) = m := by
  unfold Kzk2Neutral.natsOf up
  rw [List.map_map]
  have : (Int.toNat ∘ fun (x : Nat) => (x : Int)) = id := by funext x; rfl
  rw [this, List.map_id]
theorem all_range_lt (l : List Nat) (k : Nat) : (l.map fun (x : Nat) => decide ((x : Int) < (k : Int))).all id = l.all fun r => decide (r < k) := by
  rw [List.all_map]
  congr 1
  funext x
  exact decide_eq_decide.mpr (by omega)
theorem pow_le {a b : Nat} (h : a ≤ b) : 2 ^ a ≤ 2 ^ b := Nat.pow_le_pow_right (by omega) h
end TW
/-! ## What is due of ring, even, odd, layers, case by case -/
namespace TW
theorem ring_due (n : Nat) (t l : List Nat) : PyKzk2.ring (n : Int) (up t) (up l) = (Kzk2.answer (.ring n t l)).value :: Kzk2Neutral.ints (Kzk2.answer (.ring n t l)).nums := by
  have h : Kzk2Neutral.callOf [[2, (n : Int)], up t, up l] = some (Kzk2.Call.ring n (Kzk2Neutral.natsOf (up t)) (Kzk2Neutral.natsOf (up l))) := rfl
  rw [natsOf_up, natsOf_up] at h
  unfold PyKzk2.ring Kzk2Neutral.f
  rw [h]
theorem ring_22 {n : Nat} {t l : List Nat} (h : Kzk1.okTowers n t = false ∨ Kzk2.okRing n l = false) : PyKzk2.ring (n : Int) (up t) (up l) = [-22] := by
  rw [ring_due]
  unfold Kzk2.answer
  dsimp only
  rw [if_pos h]; rfl
theorem ring_6 {n : Nat} {t l : List Nat} (h : Kzk1.okTowers n t = true) (h2 : Kzk2.okRing n l = true) (h3 : (Kzk2.steps (Kzk2.kinds n t) l).contains 0 = true) : PyKzk2.ring (n : Int) (up t) (up l) = [-6] := by
  rw [ring_due]
  unfold Kzk2.answer
  dsimp only
  rw [if_neg (by rw [h, h2]; decide), if_pos h3]; rfl
theorem ring_ok {n : Nat} {t l : List Nat} (h : Kzk1.okTowers n t = true) (h2 : Kzk2.okRing n l = true) (h3 : (Kzk2.steps (Kzk2.kinds n t) l).contains 0 = false) :
    PyKzk2.ring (n : Int) (up t) (up l) = [(((if (Kzk2.parity (Kzk2.steps (Kzk2.kinds n t) l)).1 then 1 else 0) + (if (Kzk2.parity (Kzk2.steps (Kzk2.kinds n t) l)).2 then 2 else 0) : Nat) : Int)] := by
  rw [ring_due]
  unfold Kzk2.answer
  dsimp only
  rw [if_neg (by rw [h, h2]; decide), if_neg (by rw [h3]; decide)]; rfl
theorem even_due (n : Nat) (t : List Nat) : PyKzk2.even (n : Int) (up t) = (Kzk2.answer (.even n t)).value :: Kzk2Neutral.ints (Kzk2.answer (.even n t)).nums := by
  have h : Kzk2Neutral.callOf [[3, (n : Int)], up t] = some (Kzk2.Call.even n (Kzk2Neutral.natsOf (up t))) := rfl
  rw [natsOf_up] at h
  unfold PyKzk2.even Kzk2Neutral.f
  rw [h]
theorem even_22 {n : Nat} {t : List Nat} (h : Kzk1.okTowers n t = false) : PyKzk2.even (n : Int) (up t) = [-22] := by
  rw [even_due]
  unfold Kzk2.answer
  dsimp only
  rw [if_pos h]; rfl
theorem even_none {n : Nat} {t : List Nat} (h : Kzk1.okTowers n t = true) (h2 : Kzk2.even n t = none) : PyKzk2.even (n : Int) (up t) = [-33] := by
  rw [even_due]
  unfold Kzk2.answer
  dsimp only
  rw [if_neg (by rw [h]; decide), h2]; rfl
theorem even_some {n : Nat} {t l : List Nat} (h : Kzk1.okTowers n t = true) (h2 : Kzk2.even n t = some l) : PyKzk2.even (n : Int) (up t) = ((l.length : Nat) : Int) :: up l := by
  rw [even_due]
  unfold Kzk2.answer
  dsimp only
  rw [if_neg (by rw [h]; decide), h2]; rfl
theorem odd_due (n : Nat) (t : List Nat) : PyKzk2.odd (n : Int) (up t) = (Kzk2.answer (.odd n t)).value :: Kzk2Neutral.ints (Kzk2.answer (.odd n t)).nums := by
  have h : Kzk2Neutral.callOf [[4, (n : Int)], up t] = some (Kzk2.Call.odd n (Kzk2Neutral.natsOf (up t))) := rfl
  rw [natsOf_up] at h
  unfold PyKzk2.odd Kzk2Neutral.f
  rw [h]
theorem odd_22 {n : Nat} {t : List Nat} (h : Kzk1.okTowers n t = false) : PyKzk2.odd (n : Int) (up t) = [-22] := by
  rw [odd_due]
  unfold Kzk2.answer
  dsimp only
  rw [if_pos h]; rfl
theorem odd_none {n : Nat} {t : List Nat} (h : Kzk1.okTowers n t = true) (h2 : Kzk2.odd n t = none) : PyKzk2.odd (n : Int) (up t) = [-33] := by
  rw [odd_due]
  unfold Kzk2.answer
  dsimp only
  rw [if_neg (by rw [h]; decide), h2]; rfl
theorem odd_some {n : Nat} {t l : List Nat} (h : Kzk1.okTowers n t = true) (h2 : Kzk2.odd n t = some l) : PyKzk2.odd (n : Int) (up t) = ((l.length : Nat) : Int) :: up l := by
  rw [odd_due]
  unfold Kzk2.answer
  dsimp only
  rw [if_neg (by rw [h]; decide), h2]; rfl
theorem layers_due (n : Nat) (t : List Nat) : PyKzk2.layers (n : Int) (up t) = (Kzk2.answer (.layers n t)).value :: Kzk2Neutral.ints (Kzk2.answer (.layers n t)).nums := by
  have h : Kzk2Neutral.callOf [[5, (n : Int)], up t] = some (Kzk2.Call.layers n (Kzk2Neutral.natsOf (up t))) := rfl
  rw [natsOf_up] at h
  unfold PyKzk2.layers Kzk2Neutral.f
  rw [h]
theorem layers_22 {n : Nat} {t : List Nat} (h : Kzk1.okTowers n t = false) : PyKzk2.layers (n : Int) (up t) = [-22] := by
  rw [layers_due]
  unfold Kzk2.answer
  dsimp only
  rw [if_pos h]; rfl
theorem layers_33 {n : Nat} {t : List Nat} (h : Kzk1.okTowers n t = true) (h2 : Kzk2.hasRing n t = true) : PyKzk2.layers (n : Int) (up t) = [-33] := by
  rw [layers_due]
  unfold Kzk2.answer
  dsimp only
  rw [if_neg (by rw [h]; decide), if_pos h2]; rfl
theorem layers_ok {n : Nat} {t : List Nat} (h : Kzk1.okTowers n t = true) (h2 : Kzk2.hasRing n t = false) : PyKzk2.layers (n : Int) (up t) = ((Kzk2.most (Kzk2.layers n t) + 1 : Nat) : Int) :: up (Kzk2.layers n t) := by
  rw [layers_due]
  unfold Kzk2.answer
  dsimp only
  rw [if_neg (by rw [h]; decide), if_neg (by rw [h2]; decide)]; rfl
/-- how tower j watches tower i, off the whole table -/
theorem at_kinds {n i j : Nat} (t : List Nat) (hi : i < n) (hj : j < n) : Kzk2.at_ (Kzk2.kinds n t) i j = watchN n i (t.getD j 0) := by
  unfold Kzk2.at_ Kzk2.kinds
  rw [List.getD_eq_getElem?_getD, List.getD_eq_getElem?_getD, List.getElem?_map, List.getElem?_range hj]
  show (((List.range n).map fun i => Kzk2.kind n t i j)[i]?).getD 0 = _
  rw [List.getElem?_map, List.getElem?_range hi]
  rfl
end TW
/-! ## A ring's watchings, and what it can be -/
namespace TW
/-- how each is watched by the next, off the rules -/
def roundN (n : Nat) (t l : List Nat) : List Nat := (List.range l.length).map fun a => watchN n (l.getD a 0) (t.getD (l.getD ((a + 1) % l.length) 0) 0)
theorem getD_lt {l : List Nat} {n a : Nat} (h : ∀ x ∈ l, x < n) (ha : a < l.length) : l.getD a 0 < n := by
  rw [List.getD_eq_getElem?_getD, List.getElem?_eq_getElem ha]
  exact h _ (List.getElem_mem ha)
theorem steps_eq {n : Nat} (t : List Nat) {l : List Nat} (h : ∀ x ∈ l, x < n) : Kzk2.steps (Kzk2.kinds n t) l = roundN n t l := by
  unfold Kzk2.steps roundN
  apply List.map_congr_left
  intro a ha
  have ha' := List.mem_range.mp ha
  exact at_kinds t (getD_lt h ha') (getD_lt h (Nat.mod_lt _ (by omega)))
theorem lift_le (i r k : Nat) : liftN i r k ≤ 1 := by
  unfold liftN
  split <;> omega
theorem low_le (i r k : Nat) : lowN i r k = 0 ∨ lowN i r k = 2 := by
  unfold lowN
  split
  · exact .inr rfl
  · exact .inl rfl
theorem watch_le (n i r : Nat) : watchN n i r ≤ 3 := by
  unfold watchN
  have h1 := lift_le i r (2 ^ n)
  have h2 := low_le i r (2 ^ n)
  omega
theorem round_le (n : Nat) (t l : List Nat) : ∀ x ∈ roundN n t l, x ≤ 3 := by
  intro x hx
  obtain ⟨a, _, rfl⟩ := List.mem_map.mp hx
  exact watch_le _ _ _
theorem round_len (n : Nat) (t l : List Nat) : (roundN n t l).length = l.length := by
  unfold roundN
  rw [List.length_map, List.length_range]
/-- what can be: 1 even, 2 odd, 3 both -/
def canN (v : List Nat) : Nat := if v.contains 3 then 3 else if v.count 2 % 2 = 0 then 1 else 2
/-- the parity's step, and the same from any start -/
def pstep (p : Bool × Bool) (w : Nat) : Bool × Bool := ((p.1 && w % 2 == 1) || (p.2 && decide (2 ≤ w)), (p.2 && w % 2 == 1) || (p.1 && decide (2 ≤ w)))
theorem parity_eq (v : List Nat) : Kzk2.parity v = v.foldl pstep (true, false) := rfl
theorem fold_both : ∀ v : List Nat, (∀ x ∈ v, x ≠ 0 ∧ x ≤ 3) → v.foldl pstep (true, true) = (true, true)
  | [], _ => rfl
  | w :: v, h => by
    have ih := fold_both v fun x hx => h x (List.mem_cons_of_mem _ hx)
    have hw := h w List.mem_cons_self
    have : w = 1 ∨ w = 2 ∨ w = 3 := by omega
    rcases this with rfl | rfl | rfl <;> exact ih
theorem fold_one : ∀ (v : List Nat) (b : Bool), (∀ x ∈ v, x ≠ 0 ∧ x ≤ 3) →
    v.foldl pstep (b, !b) = if v.contains 3 then (true, true) else if v.count 2 % 2 = 0 then (b, !b) else (!b, b)
  | [], b, _ => by cases b <;> rfl
  | w :: v, b, h => by
    have hv := fun x hx => h x (List.mem_cons_of_mem _ hx)
    have ih := fun b => fold_one v b hv
    have hw := h w List.mem_cons_self
    have : w = 1 ∨ w = 2 ∨ w = 3 := by omega
    rcases this with rfl | rfl | rfl
    · have e : (1 :: v).foldl pstep (b, !b) = v.foldl pstep (b, !b) := by cases b <;> rfl
      have ec : (1 :: v).contains 3 = v.contains 3 := rfl
      have en : (1 :: v).count 2 = v.count 2 := List.count_cons_of_ne (by decide)
      rw [e, ih, ec, en]
    · have e : (2 :: v).foldl pstep (b, !b) = v.foldl pstep (!b, !!b) := by cases b <;> rfl
      have ec : (2 :: v).contains 3 = v.contains 3 := rfl
      have en : (2 :: v).count 2 = v.count 2 + 1 := List.count_cons_self
      rw [e, ih, ec, en]
      cases v.contains 3
      · show (if v.count 2 % 2 = 0 then (!b, !!b) else (!!b, !b)) = if (v.count 2 + 1) % 2 = 0 then (b, !b) else (!b, b)
        by_cases z : v.count 2 % 2 = 0
        · rw [if_pos z, if_neg (by omega), Bool.not_not]
        · rw [if_neg z, if_pos (by omega), Bool.not_not]
      · rfl
    · have e : (3 :: v).foldl pstep (b, !b) = v.foldl pstep (true, true) := by cases b <;> rfl
      rw [e, fold_both v hv]
      rfl
theorem can_eq {v : List Nat} (h : ∀ x ∈ v, x ≤ 3) (h0 : v.contains 0 = false) :
    Kzk2.parity v = if v.contains 3 then (true, true) else if v.count 2 % 2 = 0 then (true, false) else (false, true) := by
  rw [parity_eq]
  refine fold_one v true fun x hx => ⟨fun e => ?_, h x hx⟩
  subst e
  rw [List.contains_eq_mem, decide_eq_false_iff_not] at h0
  exact h0 hx
theorem can_ring {v : List Nat} (h : ∀ x ∈ v, x ≤ 3) (h0 : v.contains 0 = false) :
    (if (Kzk2.parity v).1 then 1 else 0) + (if (Kzk2.parity v).2 then 2 else 0) = canN v := by
  rw [can_eq h h0]
  unfold canN
  cases v.contains 3
  · show (if (if v.count 2 % 2 = 0 then (true, false) else (false, true)).1 = true then 1 else 0) + (if (if v.count 2 % 2 = 0 then (true, false) else (false, true)).2 = true then 2 else 0) = if v.count 2 % 2 = 0 then 1 else 2
    by_cases z : v.count 2 % 2 = 0
    · rw [if_pos z, if_pos z]; rfl
    · rw [if_neg z, if_neg z]; rfl
  · rfl
/-- different towers, as the program looks -/
def diffN (n : Nat) (l : List Nat) : Bool := !l.isEmpty && l.all fun i => decide (i < n) && decide (l.count i = 1)
theorem nodup_iff (l : List Nat) : ((List.range l.length).all fun a => (List.range l.length).all fun b => a == b || l.getD a 0 != l.getD b 0) = true ↔ l.Nodup := by
  rw [List.nodup_iff_pairwise_ne, List.pairwise_iff_getElem]
  simp only [List.all_eq_true, List.mem_range, Bool.or_eq_true, beq_iff_eq, bne_iff_ne]
  constructor
  · intro h i j hi hj hij
    rcases h i hi j hj with e | e
    · omega
    · rw [List.getD_eq_getElem?_getD, List.getD_eq_getElem?_getD, List.getElem?_eq_getElem hi, List.getElem?_eq_getElem hj] at e
      exact e
  · intro h i hi j hj
    rw [List.getD_eq_getElem?_getD, List.getD_eq_getElem?_getD, List.getElem?_eq_getElem hi, List.getElem?_eq_getElem hj]
    show i = j ∨ l[i] ≠ l[j]
    rcases Nat.lt_trichotomy i j with e | e | e
    · exact .inr (h i j hi hj e)
    · exact .inl e
    · exact .inr fun z => h j i hj hi e z.symm
theorem diff_eq (n : Nat) (l : List Nat) : diffN n l = Kzk2.okRing n l := by
  rw [Bool.eq_iff_iff]
  unfold diffN Kzk2.okRing
  rw [Bool.and_eq_true, Bool.and_eq_true, Bool.and_eq_true, nodup_iff]
  simp only [List.all_eq_true, Bool.and_eq_true, decide_eq_true_eq]
  constructor
  · rintro ⟨h1, h2⟩
    refine ⟨⟨h1, fun x hx => (h2 x hx).1⟩, ?_⟩
    rw [List.nodup_iff_count]
    intro x
    by_cases hx : x ∈ l
    · exact Nat.le_of_eq (h2 x hx).2
    · rw [List.count_eq_zero_of_not_mem hx]; omega
  · rintro ⟨⟨h1, h2⟩, h3⟩
    refine ⟨h1, fun x hx => ⟨h2 x hx, ?_⟩⟩
    have a := List.nodup_iff_count.mp h3 x
    have b := List.count_pos_iff.mpr hx
    omega
theorem okRing_iff {n : Nat} {l : List Nat} (h : Kzk2.okRing n l = true) : ∀ x ∈ l, x < n := by
  unfold Kzk2.okRing at h
  rw [Bool.and_eq_true, Bool.and_eq_true] at h
  intro x hx
  exact of_decide_eq_true (List.all_eq_true.mp h.1.2 x hx)
end TW
/-! ## The choices of towers, level by level, and the first that can be -/
namespace TW
/-- what comes behind a choice: one greater tower more -/
def longer (n : Nat) (l : List Nat) : List (List Nat) := ((List.range (n - (l.headD 0 + 1))).filter fun k => !l.contains (l.headD 0 + 1 + k)).map fun k => l ++ [l.headD 0 + 1 + k]
def lev (n : Nat) : Nat → List (List Nat)
  | 0 => (List.range n).map fun k => [k]
  | m + 1 => (lev n m).flatMap (longer n)
/-- the same off the specification: choices of towers from the least on -/
theorem lev_rows {n m : Nat} (h : n ≤ 4) (hm : m < n) : (Kzk2.rowsOn n (m + 1) []).filter (fun l => l.all fun i => decide (l.headD 0 ≤ i)) = lev n m := by
  have : (List.range 5).all (fun n => (List.range n).all fun m => (Kzk2.rowsOn n (m + 1) []).filter (fun l => l.all fun i => decide (l.headD 0 ≤ i)) == lev n m) = true := by decide +kernel
  exact eq_of_beq (List.all_eq_true.mp (List.all_eq_true.mp this n (List.mem_range.mpr (by omega))) m (List.mem_range.mpr hm))
theorem lev_facts {n m : Nat} (h : n ≤ 4) (hm : m < n) : (lev n m ≠ [] ∧ (lev n m).length ≤ 100) ∧ ∀ l ∈ lev n m, (l ≠ [] ∧ l.length ≤ 4) ∧ ∀ x ∈ l, x < n := by
  have : (List.range 5).all (fun n => (List.range n).all fun m => (!(lev n m).isEmpty && decide ((lev n m).length ≤ 100)) && (lev n m).all fun l => (!l.isEmpty && decide (l.length ≤ 4)) && l.all fun x => decide (x < n)) = true := by decide +kernel
  have z := List.all_eq_true.mp (List.all_eq_true.mp this n (List.mem_range.mpr (by omega))) m (List.mem_range.mpr hm)
  simp only [Bool.and_eq_true, List.all_eq_true, decide_eq_true_eq, Bool.not_eq_true', List.isEmpty_eq_false_iff] at z
  exact z
theorem lev_end {n : Nat} (h : n ≤ 4) : lev n n = [] := by
  have : (List.range 5).all (fun n => (lev n n).isEmpty) = true := by decide +kernel
  exact List.isEmpty_iff.mp (List.all_eq_true.mp this n (List.mem_range.mpr (by omega)))
/-- all choices of the first levels -/
def pre (n m : Nat) : List (List Nat) := (List.range m).flatMap (lev n)
theorem pre_succ (n m : Nat) : pre n (m + 1) = pre n m ++ lev n m := by
  unfold pre
  rw [List.range_succ, List.flatMap_append]
  simp
theorem pre_more (n : Nat) {m k : Nat} (h : m ≤ k) : ∃ r, pre n k = pre n m ++ r := by
  induction k with
  | zero => exact ⟨[], by rw [show m = 0 by omega, List.append_nil]⟩
  | succ k ih =>
    by_cases e : m ≤ k
    · obtain ⟨r, hr⟩ := ih e
      exact ⟨r ++ lev n k, by rw [pre_succ, hr, List.append_assoc]⟩
    · exact ⟨[], by rw [show m = k + 1 by omega, List.append_nil]⟩
/-- a choice is a ring that can be so -/
def canBe (n : Nat) (t l : List Nat) (w : Nat) : Bool := if (roundN n t l).contains 0 then false else decide (canN (roundN n t l) = w ∨ canN (roundN n t l) = 3)
theorem canBe_even {n : Nat} {t l : List Nat} (h : ∀ x ∈ l, x < n) : canBe n t l 1 = (((Kzk2.steps (Kzk2.kinds n t) l).all fun w => w != 0) && (Kzk2.parity (Kzk2.steps (Kzk2.kinds n t) l)).1) := by
  rw [steps_eq t h]
  unfold canBe
  have e : ((roundN n t l).all fun w => w != 0) = !(roundN n t l).contains 0 := by
    rw [List.contains_eq_any_beq, List.not_any_eq_all_not]
    congr 1
    funext x
    rw [bne_comm]
    rfl
  rw [e]
  cases z : (roundN n t l).contains 0
  · rw [can_eq (round_le n t l) z]
    unfold canN
    cases (roundN n t l).contains 3
    · by_cases y : (roundN n t l).count 2 % 2 = 0
      · simp [y]
      · simp [y]
    · rfl
  · rfl
theorem canBe_odd {n : Nat} {t l : List Nat} (h : ∀ x ∈ l, x < n) : canBe n t l 2 = (((Kzk2.steps (Kzk2.kinds n t) l).all fun w => w != 0) && (Kzk2.parity (Kzk2.steps (Kzk2.kinds n t) l)).2) := by
  rw [steps_eq t h]
  unfold canBe
  have e : ((roundN n t l).all fun w => w != 0) = !(roundN n t l).contains 0 := by
    rw [List.contains_eq_any_beq, List.not_any_eq_all_not]
    congr 1
    funext x
    rw [bne_comm]
    rfl
  rw [e]
  cases z : (roundN n t l).contains 0
  · rw [can_eq (round_le n t l) z]
    unfold canN
    cases (roundN n t l).contains 3
    · by_cases y : (roundN n t l).count 2 % 2 = 0
      · simp [y]
      · simp [y]
    · rfl
  · rfl
theorem find_congr {α : Type} {p q : α → Bool} : ∀ {l : List α}, (∀ x ∈ l, p x = q x) → l.find? p = l.find? q
  | [], _ => rfl
  | a :: l, h => by
    have e := h a List.mem_cons_self
    have ih := find_congr (l := l) fun x hx => h x (List.mem_cons_of_mem _ hx)
    rw [List.find?_cons, List.find?_cons, e, ih]
theorem flatMap_filter {α β : Type} (f : α → List β) (p : β → Bool) : ∀ l : List α, (l.flatMap f).filter p = l.flatMap fun x => (f x).filter p
  | [] => rfl
  | a :: l => by
    rw [List.flatMap_cons, List.flatMap_cons, List.filter_append, flatMap_filter f p l]
theorem all_eq {n : Nat} (k : List (List Nat)) (h : n ≤ 4) : Kzk2.all n k = (pre n n).filter fun l => (Kzk2.steps k l).all fun w => w != 0 := by
  unfold Kzk2.all pre
  rw [flatMap_filter]
  rw [List.flatMap_def, List.flatMap_def]
  congr 1
  apply List.map_congr_left
  intro m hm
  unfold Kzk2.rings
  rw [← lev_rows h (List.mem_range.mp hm), List.filter_filter]
  congr 1
  funext l
  rw [Bool.and_comm]
theorem pre_lt {n : Nat} (h : n ≤ 4) : ∀ l ∈ pre n n, ∀ x ∈ l, x < n := by
  intro l hl
  unfold pre at hl
  obtain ⟨m, hm, hl⟩ := List.mem_flatMap.mp hl
  exact ((lev_facts h (List.mem_range.mp hm)).2 l hl).2
theorem decide_and_eq (a b : Bool) : decide (a = true ∧ b = true) = (a && b) := by cases a <;> cases b <;> rfl
theorem even_find {n : Nat} (t : List Nat) (h : n ≤ 4) : Kzk2.even n t = (pre n n).find? fun l => canBe n t l 1 := by
  unfold Kzk2.even
  dsimp only
  rw [all_eq _ h, List.find?_filter]
  exact find_congr fun l hl => (by rw [canBe_even (pre_lt h l hl)]; exact decide_and_eq _ _)
theorem odd_find {n : Nat} (t : List Nat) (h : n ≤ 4) : Kzk2.odd n t = (pre n n).find? fun l => canBe n t l 2 := by
  unfold Kzk2.odd
  dsimp only
  rw [all_eq _ h, List.find?_filter]
  exact find_congr fun l hl => (by rw [canBe_odd (pre_lt h l hl)]; exact decide_and_eq _ _)
/-- what is told of what was found -/
def tellN (o : Option (List Nat)) : List Int := match o with
  | none => [-33]
  | some l => ((l.length : Nat) : Int) :: up l
theorem even_told {n : Nat} {t : List Nat} (h : Kzk1.okTowers n t = true) : PyKzk2.even (n : Int) (up t) = tellN ((pre n n).find? fun l => canBe n t l 1) := by
  rw [← even_find t (ok_iff h).2.1]
  cases e : Kzk2.even n t with
  | none => exact even_none h e
  | some l => exact even_some h e
theorem odd_told {n : Nat} {t : List Nat} (h : Kzk1.okTowers n t = true) : PyKzk2.odd (n : Int) (up t) = tellN ((pre n n).find? fun l => canBe n t l 2) := by
  rw [← odd_find t (ok_iff h).2.1]
  cases e : Kzk2.odd n t with
  | none => exact odd_none h e
  | some l => exact odd_some h e
/-- the search, turn by turn -/
theorem found_at {n m i : Nat} {p : List Nat → Bool} {l : List Nat} (hm : m < n) (h0 : (pre n m).find? p = none) (h1 : ((lev n m).take i).find? p = none) (hi : (lev n m)[i]? = some l) (hp : p l = true) : (pre n n).find? p = some l := by
  obtain ⟨r, hr⟩ := pre_more n (m := m + 1) (k := n) hm
  rw [hr, pre_succ, List.find?_append, List.find?_append, h0]
  have : (lev n m).find? p = some l := by
    have e : lev n m = (lev n m).take i ++ (lev n m).drop i := (List.take_append_drop i _).symm
    obtain ⟨hi', el⟩ := List.getElem?_eq_some_iff.mp hi
    rw [e, List.find?_append, h1, List.drop_eq_getElem_cons hi', el, List.find?_cons, hp]
    rfl
  rw [this]
  rfl
theorem none_more {p : List Nat → Bool} {L : List (List Nat)} {i : Nat} {l : List Nat} (h : (L.take i).find? p = none) (hi : L[i]? = some l) (hp : p l = false) : (L.take (i + 1)).find? p = none := by
  rw [List.take_add_one, hi, List.find?_append, h]
  show (List.find? p [l]) = none
  rw [List.find?_cons, hp]
  rfl
end TW
/-! ## The defs: power_of_two, bit_at, fits, watching -/
namespace TW
open PySem PySem.Spec PyProof.Rows L2
open PySem.W (Codec)
def top (i : Nat) : Stmt := PySem.Challenge.pw_towerwatch_s05_odd.main.body.getD i (.Pass ⟨0, 0, 0, 0⟩)
abbrev sPow : Stmt := top 8
abbrev sBit : Stmt := top 9
abbrev sFits : Stmt := top 10
abbrev sWat : Stmt := top 11
theorem scP : FnScope ["exponent", "power", "step"] ["exponent"] (defScope sPow) := ⟨rfl, rfl, rfl, by decide +kernel, rfl, by decide +kernel, by decide +kernel⟩
theorem scB : FnScope ["number", "place"] ["number", "place"] (defScope sBit) := ⟨rfl, rfl, rfl, by decide +kernel, rfl, by decide +kernel, by decide +kernel⟩
theorem scF : FnScope ["n", "t", "limit", "rule"] ["n", "t"] (defScope sFits) := ⟨rfl, rfl, rfl, by decide +kernel, rfl, by decide +kernel, by decide +kernel⟩
theorem scW : FnScope ["n", "i", "rule", "lifted", "lowered", "state", "while_down", "while_up"] ["n", "i", "rule"] (defScope sWat) := ⟨rfl, rfl, rfl, by decide +kernel, rfl, by decide +kernel, by decide +kernel⟩
/-- a number, numbers, as the proof sees them -/
def nv (n : Nat) : V := .int (n : Int)
def spPow : Sp := fun vs H Q _ => ∃ e : Nat, vs = [nv e] ∧ e ≤ 1000 ∧ Q (nv (2 ^ e)) H
def spBit : Sp := fun vs H Q _ => ∃ a p : Nat, vs = [nv a, nv p] ∧ p < 30 ∧ Q (nv (dig a p)) H
def spFits (K : PySem.W.Frag) : Sp := fun vs H Q _ => ∃ (a : Addr) (n : Nat) (t : List Nat), vs = [nv n, .ref a] ∧ SqL K H a (t.map nv) ∧ t.length ≤ 10 ∧ ∀ H', Same H H' → Q (.bl (Kzk1.okTowers n t)) H'
def spWat : Sp := fun vs H Q _ => ∃ n i r : Nat, vs = [nv n, nv i, nv r] ∧ n ≤ 4 ∧ i < n ∧ Q (nv (watchN n i r)) H
theorem same_upd {H : Hp} {p : Addr} {o : HO} (h : H p = none) : Same H (upd H p o) := fun b x e => by
  rw [upd_ne (ne_of_none e h)]
  exact e
section
variable {P : Program} {w : World} {K : PySem.W.Frag} {mg : Str → Option Value} {base : Heap}
theorem ok_pow {f : Addr} {fd : FuncData} {k : Nat} (F : Fun K "power_of_two" "power_of_two" sPow f fd) (mr : mg "range" = none) : FnOk P w K mg base CX0 (k + 1) f fd ["exponent"] spPow := by
  refine F.ok scP (fun vs H Q E h => ?_) (fun cdv A outer s H vs Q E hr h => ?_)
  · obtain ⟨e, rfl, _⟩ := h
    rfl
  · obtain ⟨e, rfl, he, q⟩ := h
    refine ⟨_, pss_cons (ps_set (i := 1) scP.nd rfl (.inl rfl) pe_int)
      (pss_cons (ps_for PassesOwn.never rfl (pi_range1 (by rfl) mr (pa_cons (pv 0) pa_nil)) (pg_name (i := 2) scP.nd rfl (.inl rfl))
        (pss_one (ps_set (i := 1) scP.nd rfl (.inl rfl) (pe_op op_mul (pv 1) pe_int))))
      (pss_one (ps_ret (pv 1)))), ?_⟩
    refine ⟨_, rfl, (e : Int), rfl, by omega, by omega, for_range (lo := 0) (n := e) (fun i σ H' => ∃ y, σ = [some (nv e), some (nv (2 ^ i)), y] ∧ H' = H) ⟨none, rfl, rfl⟩ ?_ ?_⟩
    · rintro i σ H' hi ⟨y, rfl, rfl⟩
      refine ⟨_, rfl, _, _, rfl, rfl, .inr ⟨by decide, by decide⟩, some (.int (0 + i)), ?_, rfl⟩
      have e2 : nv (2 ^ (i + 1)) = .int (((2 ^ i : Nat) : Int) * 2) := by
        unfold nv
        rw [Nat.pow_succ]
        rfl
      rw [e2]
      rfl
    · rintro σ H' ⟨y, rfl, rfl⟩
      exact ⟨_, rfl, q⟩
theorem ok_bit {f fP : Addr} {fd fdP : FuncData} {k : Nat} (F : Fun K "bit_at" "bit_at" sBit f fd) (GP : FnOk P w K mg base CX0 (k + 1) fP fdP ["exponent"] spPow) (kP : PySem.W.keepIn K (.ref fP) = true) (bP : Binds K fdP ["exponent"] []) (gP : mg "power_of_two" = some (.ref fP)) :
    FnOk P w K mg base CX0 (k + 2) f fd ["number", "place"] spBit := by
  refine F.ok scB (fun vs H Q E h => ?_) (fun cdv A outer s H vs Q E hr h => ?_)
  · obtain ⟨a, p, rfl, _⟩ := h
    rfl
  · obtain ⟨a, p, rfl, hp, q⟩ := h
    refine ⟨_, pss_one (ps_ret (pe_op op_mod (pe_op op_fdiv (pv 0) (pe_call GP hr (by rfl) gP kP bP .nil pass0 (pa_cons (pv 1) pa_nil))) pe_int)), ?_⟩
    have h1 : 2 ^ p < 2 ^ 30 := Nat.pow_lt_pow_right (by omega) hp
    have h0 : 0 < 2 ^ p := Nat.pow_pos (by omega)
    refine ⟨_, rfl, _, rfl, p, rfl, by omega, (a : Int), ((2 ^ p : Nat) : Int), rfl, rfl, ⟨by omega, by omega⟩, ((a : Int) / ((2 ^ p : Nat) : Int)), 2, rfl, rfl, (by show (0 : Int) < 2; decide), ?_⟩
    have e : nv (dig a p) = .int ((a : Int) / ((2 ^ p : Nat) : Int) % 2) := rfl
    show Q (.int ((a : Int) / ((2 ^ p : Nat) : Int) % 2)) H
    rw [← e]
    exact q
theorem nv_map (t : List Nat) : (up t).map V.int = t.map nv := by
  unfold up
  rw [List.map_map]
  rfl
theorem get_nv {t : List Nat} {i : Nat} {x : V} (h : (t.map nv)[i]? = some x) : ∃ r, t[i]? = some r ∧ x = nv r := by
  rw [List.getElem?_map] at h
  cases e : t[i]? with
  | none => rw [e] at h; cases h
  | some r => rw [e] at h; exact ⟨r, rfl, (Option.some.inj h).symm⟩
theorem take_more {α β : Type} (g : α → β) {t : List α} {i : Nat} {r : α} (h : t[i]? = some r) : (t.take (i + 1)).map g = (t.take i).map g ++ [g r] := by
  rw [List.take_add_one, h, List.map_append]
  rfl
theorem ok_fits {f fP : Addr} {fd fdP : FuncData} {k : Nat} {tM : Tok} (F : Fun K "fits" "fits" sFits f fd) (GP : FnOk P w K mg base CX0 (k + 1) fP fdP ["exponent"] spPow) (kP : PySem.W.keepIn K (.ref fP) = true) (bP : Binds K fdP ["exponent"] []) (gP : mg "power_of_two" = some (.ref fP))
    (gM : mg "MOST_TOWERS" = some (.int 4 tM)) (ml : mg "len" = none) (ma : mg "all" = none) : FnOk P w K mg base CX0 (k + 2) f fd ["n", "t"] (spFits K) := by
  refine F.ok scF (fun vs H Q E h => ?_) (fun cdv A outer s H vs Q E hr h => ?_)
  · obtain ⟨a, n, t, rfl, _⟩ := h
    rfl
  · obtain ⟨a, n, t, rfl, hS, hl, q⟩ := h
    refine ⟨_, pss_cons (ps_if (PW.pt (pw_or (pt_cmpR op_lt (pv 0) pe_int (nomark _)) (pw_or1 (pt_cmpR op_gt (pv 0) (pe_glob (v := .int 4) (by rfl) gM ⟨_, rfl⟩) (nomark _))))) (pss_one (ps_ret pe_bl)) pss_nil)
      (pss_cons (ps_if (pt_cmpR op_ne (pe_callB call_len_seq (by rfl) ml PySem.boot_len (pa_cons (pv 1) pa_nil)) (pv 0) (nomark _)) (pss_one (ps_ret pe_bl)) pss_nil)
      (pss_cons (ps_set (i := 2) scF.nd rfl (Or.inr rfl) (pe_call GP hr (by rfl) gP kP bP .nil pass0 (pa_cons (pe_call GP hr (by rfl) gP kP bP .nil pass0 (pa_cons (pv 0) pa_nil)) pa_nil)))
      (pss_one (ps_ret (pe_callB (cr_all rfl) (by rfl) ma (by decide +kernel) (pa_cons (pe_lc (own := [("rule", 3)]) (g := gName 3) (tt := tYes) rfl scF.nd (pi_list (pv 1)) (blkOk_by (own := [("rule", 3)]) (N := ["n", "t", "limit", "rule"]) (sc := defScope sFits) (by decide +kernel)) (fun _ _ _ _ _ => pg_name (i := 3) scF.nd rfl (Or.inl rfl)) (fun _ _ _ _ _ => pts_nil) (fun _ _ _ _ _ => pe_cmpR op_lt (pv 3) (pv 2) (nomark _))) pa_nil)))))), ?_⟩
    have fin : ∀ {b : Bool} {H' : Hp}, Same H H' → Kzk1.okTowers n t = b → Q (.bl b) H' := fun s e => e ▸ q _ s
    refine ⟨_, rfl, _, _, rfl, rfl, _, rfl, ite2 (fun c => ?_) (fun c => ?_)⟩
    · have c1 : (n : Int) < 1 := of_decide_eq_true c
      exact fin (Same.refl H) (ok_n (by omega))
    · have c1 : ¬ (n : Int) < 1 := fun z => c (decide_eq_true z)
      refine ⟨_, rfl, _, _, rfl, rfl, _, rfl, ite2 (fun d => ?_) (fun d => ?_)⟩
      · have d1 : (4 : Int) < (n : Int) := of_decide_eq_true d
        exact fin (Same.refl H) (ok_n (by omega))
      · have d1 : ¬ (4 : Int) < (n : Int) := fun z => d (decide_eq_true z)
        refine ⟨.ref a, rfl, a, t.map nv, rfl, .inl hS, _, rfl, rfl, _, rfl, ?_⟩
        by_cases e : t.length = n
        · have hn : n ≤ 4 := by omega
          have h4 : 2 ^ n ≤ 2 ^ 4 := pow_le hn
          refine iteNS (by rw [List.length_map, e]; rfl) ?_
          refine ⟨_, rfl, n, rfl, by omega, 2 ^ n, rfl, by omega, ?_⟩
          refine ⟨.ref a, rfl, a, rfl, ⟨_, hS⟩, fun D hD => lc_list (K := K) (a := a) (xs := t.map nv)
            (fun i H' => Same H H' ∧ H' D = some (.lst ((t.take i).map fun (r : Nat) => V.bl (decide ((r : Int) < ((2 ^ 2 ^ n : Nat) : Int)))))) ⟨same_upd hD, upd_same⟩ (fun i H' _ h => h.1.seq hS) ?_ ?_⟩
          · rintro i x H' hx ⟨sm, hd⟩
            obtain ⟨r, hr1, rfl⟩ := get_nv hx
            refine ⟨rfl, _, rfl, _, rfl, _, _, rfl, rfl, _, hd, ?_, ?_, ?_⟩
            · rw [List.length_map, List.length_take]
              exact Nat.lt_of_le_of_lt (Nat.min_le_right _ _) (Nat.lt_of_le_of_lt hl (by decide))
            · intro b o eb
              rw [upd_ne (ne_of_none eb hD)]
              exact sm b o eb
            · rw [upd_same, take_more _ hr1]
          · rintro H' ⟨sm, hd⟩
            rw [List.length_map, List.take_length] at hd
            refine ⟨D, t.map fun (r : Nat) => decide ((r : Int) < ((2 ^ 2 ^ n : Nat) : Int)), rfl, SqL.of (hd.trans ?_), ?_⟩
            · rw [List.map_map]
              rfl
            · rw [all_range_lt]
              exact fin sm (ok_all (by omega) e)
        · rw [decide_eq_false (fun z => e (by
            rw [List.length_map] at z
            have z2 := V.int.inj z
            omega))]
          refine iteT ?_
          exact fin (Same.refl H) (ok_len e)
theorem ok_wat {f fP fB : Addr} {fd fdP fdB : FuncData} {k : Nat} {t1 t2 : Tok} (F : Fun K "watching" "watching" sWat f fd) (GP : FnOk P w K mg base CX0 (k + 1) fP fdP ["exponent"] spPow) (kP : PySem.W.keepIn K (.ref fP) = true) (bP : Binds K fdP ["exponent"] []) (gP : mg "power_of_two" = some (.ref fP))
    (GB : FnOk P w K mg base CX0 (k + 2) fB fdB ["number", "place"] spBit) (kB : PySem.W.keepIn K (.ref fB) = true) (bB : Binds K fdB ["number", "place"] []) (gB : mg "bit_at" = some (.ref fB))
    (g1 : mg "LIFTED" = some (.int 1 t1)) (g2 : mg "LOWERED" = some (.int 2 t2)) (mr : mg "range" = none) : FnOk P w K mg base CX0 (k + 3) f fd ["n", "i", "rule"] spWat := by
  refine F.ok scW (fun vs H Q E h => ?_) (fun cdv A outer s H vs Q E hr h => ?_)
  · obtain ⟨n, i, r, rfl, _⟩ := h
    rfl
  · obtain ⟨n, i, r, rfl, hn, hi, q⟩ := h
    have hrP : Room (k + 1) _ := hr.mono (by omega)
    refine ⟨_, pss_cons (ps_set (i := 3) scW.nd rfl (.inl rfl) pe_int)
      (pss_cons (ps_set (i := 4) scW.nd rfl (.inl rfl) pe_int)
      (pss_cons (ps_for PassesOwn.never rfl (pi_range1 (by rfl) mr (pa_cons (pe_call GP hrP (by rfl) gP kP bP .nil pass0 (pa_cons (pv 0) pa_nil)) pa_nil)) (pg_name (i := 5) scW.nd rfl (.inl rfl))
        (pss_one (ps_if (pt_cmpR op_eq (pe_call GB hr (by rfl) gB kB bB .nil pass0 (pa_cons (pv 5) (pa_cons (pv 1) pa_nil))) pe_int (nomark _))
          (pss_cons (ps_set (i := 6) scW.nd rfl (.inl rfl) (pe_call GB hr (by rfl) gB kB bB .nil pass0 (pa_cons (pv 2) (pa_cons (pv 5) pa_nil))))
          (pss_cons (ps_set (i := 7) scW.nd rfl (.inl rfl) (pe_call GB hr (by rfl) gB kB bB .nil pass0 (pa_cons (pv 2) (pa_cons (pe_op op_add (pv 5) (pe_call GP hrP (by rfl) gP kP bP .nil pass0 (pa_cons (pv 1) pa_nil))) pa_nil))))
          (pss_cons (ps_if (pt_cmpR op_lt (pv 6) (pv 7) (nomark _)) (pss_one (ps_set (i := 3) scW.nd rfl (.inl rfl) (pe_glob (v := .int 1) (by rfl) g1 ⟨_, rfl⟩))) pss_nil)
          (pss_one (ps_if (pt_cmpR op_gt (pv 6) (pv 7) (nomark _)) (pss_one (ps_set (i := 4) scW.nd rfl (.inl rfl) (pe_glob (v := .int 2) (by rfl) g2 ⟨_, rfl⟩))) pss_nil))))) pss_nil)))
      (pss_one (ps_ret (pe_op op_add (pv 3) (pv 4)))))), ?_⟩
    have h4 : 2 ^ n ≤ 2 ^ 4 := pow_le hn
    have h3 : 2 ^ i ≤ 2 ^ 3 := pow_le (by omega)
    have z0 : -(2 ^ 62) ≤ ((2 ^ n : Nat) : Int) := Int.le_trans (by decide) (Int.natCast_nonneg _)
    have z4 : ((2 ^ n : Nat) : Int) < 2 ^ 62 := Int.lt_of_le_of_lt (Int.ofNat_le.mpr h4) (by decide)
    refine ⟨_, rfl, n, rfl, by omega, ((2 ^ n : Nat) : Int), rfl, z0, z4, for_range (lo := 0) (n := 2 ^ n)
      (fun k σ H' => ∃ y5 y6 y7, σ = [some (nv n), some (nv i), some (nv r), some (nv (liftN i r k)), some (nv (lowN i r k)), y5, y6, y7] ∧ H' = H) ⟨none, none, none, rfl, rfl⟩ ?_ ?_⟩
    · rintro k σ H' hk ⟨y5, y6, y7, rfl, rfl⟩
      have ek : V.int (0 + (k : Int)) = nv k := by
        unfold nv
        rw [Int.zero_add]
      rw [ek]
      refine ⟨_, rfl, _, rfl, k, i, rfl, by omega, rfl, _, rfl, ite2 (fun c => ?_) (fun c => ?_)⟩
      · have c0 : dig k i = 0 := by
          have z := V.int.inj (of_decide_eq_true c)
          omega
        refine ⟨_, rfl, _, rfl, r, k, rfl, by omega, _, rfl, _, rfl, _, rfl, i, rfl, by omega, (k : Int), ((2 ^ i : Nat) : Int), rfl, rfl, r, k + 2 ^ i, rfl, by omega, ?_⟩
        have eL := liftN_succ i r k
        have eD := lowN_succ i r k
        rw [lift_down c0] at eL
        rw [low_down c0] at eD
        have hc : ∀ {a b : Nat}, (decide ((a : Int) < (b : Int)) = true) ↔ a < b := fun {a b} => by
          rw [decide_eq_true_iff]
          omega
        refine ⟨_, rfl, _, rfl, (dig r k : Int), (dig r (k + 2 ^ i) : Int), rfl, rfl, _, rfl, ite2 (fun c1 => ?_) (fun c1 => ?_)⟩
        · rw [if_pos (decide_eq_true (hc.mp c1))] at eL
          refine ⟨_, rfl, _, rfl, (dig r k : Int), (dig r (k + 2 ^ i) : Int), rfl, rfl, _, rfl, ite2 (fun c2 => ?_) (fun c2 => ?_)⟩
          · have l1 := hc.mp c1
            have l2 := hc.mp c2
            omega
          · rw [if_neg (fun z => c2 (hc.mpr (of_decide_eq_true z)))] at eD
            refine ⟨some (nv k), some (nv (dig r k)), some (nv (dig r (k + 2 ^ i))), ?_, rfl⟩
            rw [eL, eD]
            rfl
        · rw [if_neg (fun z => c1 (hc.mpr (of_decide_eq_true z)))] at eL
          refine ⟨_, rfl, _, rfl, (dig r k : Int), (dig r (k + 2 ^ i) : Int), rfl, rfl, _, rfl, ite2 (fun c2 => ?_) (fun c2 => ?_)⟩
          · rw [if_pos (decide_eq_true (hc.mp c2))] at eD
            refine ⟨some (nv k), some (nv (dig r k)), some (nv (dig r (k + 2 ^ i))), ?_, rfl⟩
            rw [eL, eD]
            rfl
          · rw [if_neg (fun z => c2 (hc.mpr (of_decide_eq_true z)))] at eD
            refine ⟨some (nv k), some (nv (dig r k)), some (nv (dig r (k + 2 ^ i))), ?_, rfl⟩
            rw [eL, eD]
            rfl
      · have c0 : dig k i ≠ 0 := fun z => c (decide_eq_true (by rw [z]; rfl))
        refine ⟨some (nv k), y6, y7, ?_, rfl⟩
        rw [liftN_succ, lowN_succ, lift_up c0, low_up c0]
        rfl
    · rintro σ H' ⟨y5, y6, y7, rfl, rfl⟩
      exact ⟨_, rfl, _, rfl, _, _, rfl, rfl, q⟩
end
end TW
/-! ## The defs: watchings_round, what_can_be -/
namespace TW
open PySem PySem.Spec PyProof.Rows L2
open PySem.W (Codec)
abbrev sRnd : Stmt := top 12
abbrev sCan : Stmt := top 13
theorem scR : FnScope ["n", "t", "l", "found", "place", "watcher"] ["n", "t", "l"] (defScope sRnd) := ⟨rfl, rfl, rfl, by decide +kernel, rfl, by decide +kernel, by decide +kernel⟩
theorem scC : FnScope ["found"] ["found"] (defScope sCan) := ⟨rfl, rfl, rfl, by decide +kernel, rfl, by decide +kernel, by decide +kernel⟩
def spRnd (K : PySem.W.Frag) : Sp := fun vs H Q _ => ∃ (a b : Addr) (n : Nat) (t l : List Nat), vs = [nv n, .ref a, .ref b] ∧ SqL K H a (t.map nv) ∧ SqL K H b (l.map nv) ∧ n ≤ 4 ∧ t.length = n ∧ l.length ≤ 10 ∧ (∀ x ∈ l, x < n) ∧
  ∀ (H' : Hp) (p : Addr), Same H H' → H' p = some (.lst ((roundN n t l).map nv)) → Q (.ref p) H'
def spCan (K : PySem.W.Frag) : Sp := fun vs H Q _ => ∃ (a : Addr) (v : List Nat), vs = [.ref a] ∧ SqL K H a (v.map nv) ∧ Q (nv (canN v)) H
theorem ifT {b : Bool} {A B : Prop} (e : b = true) (h : A) : if b = true then A else B := by
  rw [if_pos e]; exact h
theorem ifF {b : Bool} {A B : Prop} (e : b = false) (h : B) : if b = true then A else B := by
  rw [if_neg (by rw [e]; decide)]; exact h
theorem tiny {n : Nat} (h : n ≤ 1000) : n < sizeLine := Nat.lt_of_le_of_lt h (by decide)
theorem nv_all (v : List Nat) : (v.map nv).all flatV = true := by
  rw [List.all_map, List.all_eq_true]
  exact fun _ _ => rfl
theorem nv_eqV (x k : Nat) : eqV (nv x) (nv k) = (k == x) := by
  rw [Bool.eq_iff_iff, beq_iff_eq]
  show ((x : Int) == (k : Int)) = true ↔ _
  rw [beq_iff_eq]
  omega
theorem nv_in (k : Nat) (v : List Nat) : inV (nv k) (v.map nv) = v.contains k := by
  unfold inV
  rw [List.any_map, List.contains_eq_any_beq]
  congr 1
  funext x
  exact nv_eqV x k
theorem count_up (k : Nat) : ∀ v : List Nat, (up v).count (k : Int) = v.count k
  | [] => rfl
  | a :: v => by
    have ih := count_up k v
    show ((a : Int) :: up v).count (k : Int) = _
    rw [List.count_cons, List.count_cons, ih]
    congr 1
    by_cases e : a = k
    · rw [e]; simp
    · rw [beq_eq_false_iff_ne.mpr e, beq_eq_false_iff_ne.mpr (by omega)]
theorem at_nv {t : List Nat} {j : Nat} (hj : j < t.length) : atI (t.map nv) (j : Int) = some (nv (t.getD j 0)) := by
  refine atI_nat (j := j) ?_
  rw [List.getElem?_map, List.getD_eq_getElem?_getD, List.getElem?_eq_getElem hj]
  rfl
/-- the round so far -/
def roundK (n : Nat) (t l : List Nat) (k : Nat) : List Nat := (List.range k).map fun a => watchN n (l.getD a 0) (t.getD (l.getD ((a + 1) % l.length) 0) 0)
theorem roundK_succ (n : Nat) (t l : List Nat) (k : Nat) : roundK n t l (k + 1) = roundK n t l k ++ [watchN n (l.getD k 0) (t.getD (l.getD ((k + 1) % l.length) 0) 0)] := by
  unfold roundK
  rw [List.range_succ, List.map_append]
  rfl
theorem roundK_len (n : Nat) (t l : List Nat) (k : Nat) : (roundK n t l k).length = k := by
  unfold roundK
  rw [List.length_map, List.length_range]
section
variable {P : Program} {w : World} {K : PySem.W.Frag} {mg : Str → Option Value} {base : Heap}
theorem ok_rnd {f fW : Addr} {fd fdW : FuncData} {k : Nat} (F : Fun K "watchings_round" "watchings_round" sRnd f fd)
    (GW : FnOk P w K mg base CX0 (k + 3) fW fdW ["n", "i", "rule"] spWat) (kW : PySem.W.keepIn K (.ref fW) = true) (bW : Binds K fdW ["n", "i", "rule"] []) (gW : mg "watching" = some (.ref fW))
    (mr : mg "range" = none) (ml : mg "len" = none) : FnOk P w K mg base CX0 (k + 4) f fd ["n", "t", "l"] (spRnd K) := by
  refine F.ok scR (fun vs H Q E h => ?_) (fun cdv A outer s H vs Q E hr h => ?_)
  · obtain ⟨a, b, n, t, l, rfl, _⟩ := h
    rfl
  · obtain ⟨a, b, n, t, l, rfl, hS, hL, hn, ht, hl, hlt, q⟩ := h
    refine ⟨_, pss_cons (ps_set (i := 3) scR.nd rfl (.inl rfl) (pe_lst pa_nil))
      (pss_cons (ps_for PassesOwn.never rfl (pi_range1 (by rfl) mr (pa_cons (pe_callB call_len_seq (by rfl) ml PySem.boot_len (pa_cons (pv 2) pa_nil)) pa_nil)) (pg_name (i := 4) scR.nd rfl (.inl rfl))
        (pss_cons (ps_set (i := 5) scR.nd rfl (.inl rfl) (pe_ix ix_list (pv 2) (pe_op op_mod (pe_op op_add (pv 4) pe_int) (pe_callB call_len_seq (by rfl) ml PySem.boot_len (pa_cons (pv 2) pa_nil))) (fun _ _ => rfl)))
        (pss_one (ps_expr (pe_bm PySem.F.plainAttrs_list PySem.F.slot_list_append PySem.F.type_list_append mt_append (pv 3) (pa_cons (pe_call GW hr (by rfl) gW kW bW .nil pass0 (pa_cons (pv 0) (pa_cons (pe_ix ix_list (pv 2) (pv 4) (fun _ _ => rfl)) (pa_cons (pe_ix ix_list (pv 1) (pv 5) (fun _ _ => rfl)) pa_nil)))) pa_nil))))))
      (pss_one (ps_ret (pv 3)))), ?_⟩
    refine ⟨Nat.zero_le _, fun D hD => ?_⟩
    have s1 : Same H (upd H D (.lst [])) := same_upd hD
    have el : (l.map nv).length = l.length := List.length_map ..
    refine ⟨_, rfl, b, l.map nv, rfl, .inl (s1.seq hL), (l.length : Int), by rw [el], by omega, by omega, for_range (lo := 0) (n := l.length)
      (fun k σ H' => ∃ y4 y5, σ = [some (nv n), some (.ref a), some (.ref b), some (.ref D), y4, y5] ∧ Same H H' ∧ H' D = some (.lst ((roundK n t l k).map nv)))
      ⟨none, none, rfl, s1, upd_same⟩ ?_ ?_⟩
    · rintro k σ H2 hk ⟨y4, y5, rfl, sm, hd⟩
      have ek : V.int (0 + (k : Int)) = nv k := by
        unfold nv
        rw [Int.zero_add]
      rw [ek]
      have hm : (k + 1) % l.length < l.length := Nat.mod_lt _ (by omega)
      have em : ((k : Int) + 1) % ((l.map nv).length : Int) = (((k + 1) % l.length : Nat) : Int) := by
        rw [el]
        rfl
      refine ⟨_, rfl, _, rfl, (k : Int), 1, rfl, rfl, _, rfl, b, l.map nv, rfl, .inl (sm.seq hL), (k : Int) + 1, ((l.map nv).length : Int), rfl, rfl, (by rw [el]; omega), b, l.map nv, ((k : Int) + 1) % ((l.map nv).length : Int), nv (l.getD ((k + 1) % l.length) 0), rfl, rfl, sm.seq hL, (by rw [em]; exact at_nv hm), ?_⟩
      have hw : l.getD ((k + 1) % l.length) 0 < t.length := by rw [ht]; exact getD_lt hlt hm
      refine ⟨_, rfl, .inl ⟨rfl, _, SqL.of hd⟩, _, rfl, _, rfl, _, rfl, b, l.map nv, (k : Int), nv (l.getD k 0), rfl, rfl, sm.seq hL, at_nv hk, _, rfl, _, rfl, a, t.map nv, ((l.getD ((k + 1) % l.length) 0 : Nat) : Int), nv (t.getD (l.getD ((k + 1) % l.length) 0) 0), rfl, rfl, sm.seq hS, at_nv hw, n, l.getD k 0, t.getD (l.getD ((k + 1) % l.length) 0) 0, rfl, hn, getD_lt hlt hk, D, _, _, rfl, rfl, hd, ?_, some (nv k), some (nv (l.getD ((k + 1) % l.length) 0)), rfl, ?_, ?_⟩
      · rw [List.length_map, roundK_len]
        exact tiny (by omega)
      · intro c o ec
        rw [upd_ne (ne_of_none ec hD)]
        exact sm c o ec
      · rw [upd_same, roundK_succ, List.map_append]
        rfl
    · rintro σ H2 ⟨y4, y5, rfl, sm, hd⟩
      exact ⟨_, rfl, q H2 D sm hd⟩
theorem ok_can {f : Addr} {fd : FuncData} {k : Nat} {t1 t2 t3 t4 : Tok} (F : Fun K "what_can_be" "what_can_be" sCan f fd)
    (g1 : mg "LIFTED" = some (.int 1 t1)) (g2 : mg "LOWERED" = some (.int 2 t2)) (g3 : mg "CAN_BE_EVEN" = some (.int 1 t3)) (g4 : mg "CAN_BE_ODD" = some (.int 2 t4)) : FnOk P w K mg base CX0 (k + 1) f fd ["found"] (spCan K) := by
  refine F.ok scC (fun vs H Q E h => ?_) (fun cdv A outer s H vs Q E hr h => ?_)
  · obtain ⟨a, v, rfl, _⟩ := h
    rfl
  · obtain ⟨a, v, rfl, hS, q⟩ := h
    refine ⟨_, pss_cons (ps_if (pt_cmpR op_in_seq (pe_op op_add (pe_glob (v := .int 1) (by rfl) g1 ⟨_, rfl⟩) (pe_glob (v := .int 2) (by rfl) g2 ⟨_, rfl⟩)) (pv 0) (by rfl)) (pss_one (ps_ret (pe_op op_add (pe_glob (v := .int 1) (by rfl) g3 ⟨_, rfl⟩) (pe_glob (v := .int 2) (by rfl) g4 ⟨_, rfl⟩)))) pss_nil)
      (pss_cons (ps_if (pt_cmpR op_eq (pe_op op_mod (pe_bm PySem.F.plainAttrs_list PySem.F.slot_list_count PySem.F.type_list_count mt_lcount (pv 0) (pa_cons (pe_glob (v := .int 2) (by rfl) g2 ⟨_, rfl⟩) pa_nil)) pe_int) pe_int (nomark _)) (pss_one (ps_ret (pe_glob (v := .int 1) (by rfl) g3 ⟨_, rfl⟩))) pss_nil)
      (pss_one (ps_ret (pe_glob (v := .int 2) (by rfl) g4 ⟨_, rfl⟩)))), ?_⟩
    have e3 : inV (.int (1 + 2)) (v.map nv) = v.contains 3 := nv_in 3 v
    refine ⟨1, 2, rfl, rfl, _, rfl, a, v.map nv, rfl, .inl hS, rfl, nv_all v, _, rfl, ?_⟩
    have fin : ∀ {i : Int}, nv (canN v) = .int i → Q (.int i) H := fun e => e ▸ q
    cases c3 : v.contains 3 with
    | true =>
      refine ifT (e3.trans c3) ?_
      refine ⟨1, 2, rfl, rfl, fin ?_⟩
      unfold canN
      rw [c3]
      rfl
    | false =>
      refine ifF (e3.trans c3) ?_
      refine ⟨_, rfl, .inl ⟨rfl, _, hS⟩, a, up v, 2, rfl, rfl, (by rw [nv_map]; exact hS), _, 2, rfl, rfl, (by show (0 : Int) < 2; decide), rfl, _, rfl, ?_⟩
      have ec : (((up v).count 2 : Nat) : Int) % 2 = ((v.count 2 % 2 : Nat) : Int) := by
        rw [show (up v).count 2 = v.count 2 from count_up 2 v]
        rfl
      by_cases e : v.count 2 % 2 = 0
      · refine ifT (decide_eq_true (by
          show V.int ((((up v).count 2 : Nat) : Int) % 2) = V.int 0
          rw [ec, e]
          rfl)) (fin ?_)
        unfold canN
        rw [c3, if_neg (by decide), if_pos e]
        rfl
      · refine ifF (decide_eq_false fun z => e ?_) (fin ?_)
        · have z2 := V.int.inj z
          rw [ec] at z2
          omega
        · unfold canN
          rw [c3, if_neg (by decide), if_neg e]
          rfl
end
end TW
/-! ## The defs: one_tower_longer, can_be, shortest_ring -/
namespace TW
open PySem PySem.Spec PyProof.Rows L2
open PySem.W (Codec)
abbrev sLng : Stmt := top 14
abbrev sCB : Stmt := top 15
abbrev sSho : Stmt := top 16
theorem scL : FnScope ["n", "choices", "longer", "towers", "tower"] ["n", "choices"] (defScope sLng) := ⟨rfl, rfl, rfl, by decide +kernel, rfl, by decide +kernel, by decide +kernel⟩
theorem scCB : FnScope ["n", "t", "towers", "wanted", "found"] ["n", "t", "towers", "wanted"] (defScope sCB) := ⟨rfl, rfl, rfl, by decide +kernel, rfl, by decide +kernel, by decide +kernel⟩
theorem scS : FnScope ["n", "t", "wanted", "choices", "towers", "tower"] ["n", "t", "wanted"] (defScope sSho) := ⟨rfl, rfl, rfl, by decide +kernel, rfl, by decide +kernel, by decide +kernel⟩
/-- lists of numbers that stand at the places of a list -/
def Hold (H : Hp) (xs : List V) (L : List (List Nat)) : Prop := xs.length = L.length ∧ ∀ (i : Nat) (l : List Nat), L[i]? = some l → ∃ a : Addr, xs[i]? = some (.ref a) ∧ H a = some (.lst (l.map nv))
def HoldX (D : Addr) (H : Hp) (xs : List V) (L : List (List Nat)) : Prop := xs.length = L.length ∧ ∀ (i : Nat) (l : List Nat), L[i]? = some l → ∃ a : Addr, xs[i]? = some (.ref a) ∧ a ≠ D ∧ H a = some (.lst (l.map nv))
theorem Hold.same {H H' : Hp} {xs : List V} {L : List (List Nat)} (s : Same H H') (h : Hold H xs L) : Hold H' xs L := ⟨h.1, fun i l e => by
  obtain ⟨a, e1, e2⟩ := h.2 i l e
  exact ⟨a, e1, s _ _ e2⟩⟩
theorem Hold.at {H : Hp} {xs : List V} {L : List (List Nat)} (h : Hold H xs L) {i : Nat} {x : V} (hx : xs[i]? = some x) : ∃ a l, L[i]? = some l ∧ x = .ref a ∧ H a = some (.lst (l.map nv)) := by
  obtain ⟨hi, _⟩ := List.getElem?_eq_some_iff.mp hx
  have hi2 : i < L.length := by rw [← h.1]; exact hi
  obtain ⟨a, e1, e2⟩ := h.2 i _ (List.getElem?_eq_getElem hi2)
  rw [hx] at e1
  exact ⟨a, _, List.getElem?_eq_getElem hi2, Option.some.inj e1, e2⟩
theorem HoldX.rows {D : Addr} {H : Hp} {xs : List V} {L : List (List Nat)} (h : HoldX D H xs L) : Hold H xs L := ⟨h.1, fun i l e => by
  obtain ⟨a, e1, _, e2⟩ := h.2 i l e
  exact ⟨a, e1, e2⟩⟩
theorem HoldX.nil {D : Addr} {H : Hp} : HoldX D H [] [] := ⟨rfl, fun i l e => by cases e⟩
theorem HoldX.same {D : Addr} {H H' : Hp} {xs : List V} {L : List (List Nat)} (s : Same H H') (h : HoldX D H xs L) : HoldX D H' xs L := ⟨h.1, fun i l e => by
  obtain ⟨a, e1, e2, e3⟩ := h.2 i l e
  exact ⟨a, e1, e2, s _ _ e3⟩⟩
theorem HoldX.put {D : Addr} {H : Hp} {xs : List V} {L : List (List Nat)} {o : HO} (h : HoldX D H xs L) : HoldX D (upd H D o) xs L := ⟨h.1, fun i l e => by
  obtain ⟨a, e1, e2, e3⟩ := h.2 i l e
  exact ⟨a, e1, e2, by rw [upd_ne e2]; exact e3⟩⟩
theorem HoldX.snoc {D : Addr} {H : Hp} {xs : List V} {L : List (List Nat)} {a : Addr} {l : List Nat} (h : HoldX D H xs L) (ha : a ≠ D) (hl : H a = some (.lst (l.map nv))) : HoldX D H (xs ++ [.ref a]) (L ++ [l]) := by
  refine ⟨by rw [List.length_append, List.length_append, h.1]; rfl, fun i m e => ?_⟩
  rw [List.getElem?_append] at e
  split at e
  · rename_i hi
    obtain ⟨b, e1, e2, e3⟩ := h.2 i m e
    exact ⟨b, by rw [List.getElem?_append_left (by rw [h.1]; exact hi)]; exact e1, e2, e3⟩
  · rename_i hi
    have hz : i - L.length = 0 := by
      have := (List.getElem?_eq_some_iff.mp e).1
      simp at this
      omega
    rw [hz] at e
    cases e
    refine ⟨a, ?_, ha, hl⟩
    rw [List.getElem?_append_right (by rw [h.1]; omega), h.1, hz]
    rfl
theorem same_put {H H' : Hp} {D : Addr} {o : HO} (hD : H D = none) (sm : Same H H') : Same H (upd H' D o) := fun b x e => by
  rw [upd_ne (ne_of_none e hD)]
  exact sm b x e
/-- one tower more, so far -/
def lngK (_n : Nat) (l : List Nat) (k : Nat) : List (List Nat) := ((List.range k).filter fun k => !l.contains (l.headD 0 + 1 + k)).map fun k => l ++ [l.headD 0 + 1 + k]
theorem lngK_end (n : Nat) (l : List Nat) : lngK n l (n - (l.headD 0 + 1)) = longer n l := rfl
theorem lngK_succ (n : Nat) (l : List Nat) (k : Nat) : lngK n l (k + 1) = if l.contains (l.headD 0 + 1 + k) then lngK n l k else lngK n l k ++ [l ++ [l.headD 0 + 1 + k]] := by
  unfold lngK
  rw [List.range_succ, List.filter_append, List.map_append]
  cases e : l.contains (l.headD 0 + 1 + k)
  · rw [if_neg (by decide), List.filter_cons_of_pos (by rw [e]; rfl)]
    rfl
  · rw [if_pos rfl, List.filter_cons_of_neg (by rw [e]; decide)]
    simp
theorem lngK_len (n : Nat) (l : List Nat) (k : Nat) : (lngK n l k).length ≤ k := by
  unfold lngK
  rw [List.length_map]
  exact Nat.le_trans (List.length_filter_le _ _) (by rw [List.length_range]; exact Nat.le_refl _)
theorem flat_take (n : Nat) (L : List (List Nat)) (i : Nat) (hn : n ≤ 4) : ((L.take i).flatMap (longer n)).length ≤ 4 * L.length := by
  have : ∀ M : List (List Nat), (M.flatMap (longer n)).length ≤ 4 * M.length := fun M => by
    induction M with
    | nil => exact Nat.le_refl _
    | cons a M ih =>
      rw [List.flatMap_cons, List.length_append, List.length_cons]
      have := lngK_len n a (n - (a.headD 0 + 1))
      rw [lngK_end] at this
      omega
  have h := this (L.take i)
  rw [List.length_take] at h
  omega
theorem flat_next {n : Nat} {L : List (List Nat)} {i : Nat} {l : List Nat} (h : L[i]? = some l) : (L.take (i + 1)).flatMap (longer n) = (L.take i).flatMap (longer n) ++ longer n l := by
  rw [List.take_add_one, h, List.flatMap_append]
  simp
theorem headD_at {l : List Nat} (h : l ≠ []) : atI (l.map nv) 0 = some (nv (l.headD 0)) := by
  cases l with
  | nil => exact absurd rfl h
  | cons a l => exact atI_nat (j := 0) rfl
def spLng (K : PySem.W.Frag) : Sp := fun vs H Q _ => ∃ (a : Addr) (n : Nat) (L : List (List Nat)) (xs : List V), vs = [nv n, .ref a] ∧ SqL K H a xs ∧ Hold H xs L ∧ n ≤ 4 ∧ L.length ≤ 100 ∧ (∀ l ∈ L, (l ≠ [] ∧ l.length ≤ 4) ∧ ∀ x ∈ l, x < n) ∧
  ∀ (H' : Hp) (p : Addr) (ys : List V), Same H H' → H' p = some (.lst ys) → Hold H' ys (L.flatMap (longer n)) → Q (.ref p) H'
def spCB (K : PySem.W.Frag) : Sp := fun vs H Q _ => ∃ (a b : Addr) (n : Nat) (t l : List Nat) (w : Nat), vs = [nv n, .ref a, .ref b, nv w] ∧ SqL K H a (t.map nv) ∧ SqL K H b (l.map nv) ∧ n ≤ 4 ∧ t.length = n ∧ l.length ≤ 10 ∧ (∀ x ∈ l, x < n) ∧
  ∀ (H' : Hp), Same H H' → Q (.bl (canBe n t l w)) H'
def spSho (K : PySem.W.Frag) : Sp := fun vs H Q _ => ∃ (a : Addr) (n : Nat) (t : List Nat) (w : Nat), vs = [nv n, .ref a, nv w] ∧ SqL K H a (t.map nv) ∧ 1 ≤ n ∧ n ≤ 4 ∧ t.length = n ∧
  ∀ (H' : Hp) (p : Addr), H' p = some (.lst ((tellN ((pre n n).find? fun l => canBe n t l w)).map V.int)) → Q (.ref p) H'
section
variable {P : Program} {w : World} {K : PySem.W.Frag} {mg : Str → Option Value} {base : Heap}
theorem ok_lng {f : Addr} {fd : FuncData} {k : Nat} (F : Fun K "one_tower_longer" "one_tower_longer" sLng f fd) (mr : mg "range" = none) : FnOk P w K mg base CX0 (k + 1) f fd ["n", "choices"] (spLng K) := by
  refine F.ok scL (fun vs H Q E h => ?_) (fun cdv A outer s H vs Q E hr h => ?_)
  · obtain ⟨a, n, L, xs, rfl, _⟩ := h
    rfl
  · obtain ⟨a, n, L, xs, rfl, hS, hR, hn, hL, hf, q⟩ := h
    refine ⟨_, pss_cons (ps_set (i := 2) scL.nd rfl (.inl rfl) (pe_lst pa_nil))
      (pss_cons (ps_for PassesOwn.never rfl (pi_list (pv 1)) (pg_name (i := 3) scL.nd rfl (.inl rfl))
        (pss_one (ps_for PassesOwn.never rfl (pi_range2 (by rfl) mr (pa_cons (pe_op op_add (pe_ix ix_list (pv 3) pe_int (fun _ _ => rfl)) pe_int) (pa_cons (pv 0) pa_nil))) (pg_name (i := 4) scL.nd rfl (.inl rfl))
          (pss_one (ps_if (pt_cmpR op_notIn_seq (pv 4) (pv 3) (by rfl))
            (pss_one (ps_expr (pe_bm PySem.F.plainAttrs_list PySem.F.slot_list_append PySem.F.type_list_append mt_append (pv 2) (pa_cons (pe_op op_cat (pv 3) (pe_lst (pa_cons (pv 4) pa_nil))) pa_nil)))) pss_nil)))))
      (pss_one (ps_ret (pv 2)))), ?_⟩
    refine ⟨Nat.zero_le _, fun D hD => ?_⟩
    have s1 : Same H (upd H D (.lst [])) := same_upd hD
    refine ⟨_, rfl, a, rfl, ⟨_, s1.seq hS⟩, for_list (K := K) (a := a) (xs := xs)
      (fun i σ H' => ∃ y3 y4 ys, σ = [some (nv n), some (.ref a), some (.ref D), y3, y4] ∧ Same H H' ∧ H' D = some (.lst ys) ∧ HoldX D H' ys ((L.take i).flatMap (longer n)))
      ⟨none, none, [], rfl, s1, upd_same, HoldX.nil⟩ (fun i σ H' _ ⟨_, _, _, _, sm, _⟩ => sm.seq hS) ?_ ?_⟩
    · rintro i x σ H' hx ⟨y3, y4, ys, rfl, sm, hd, hX⟩
      obtain ⟨r, l, hi, rfl, hr1⟩ := hR.at hx
      obtain ⟨⟨l0, l4⟩, llt⟩ := hf l (List.mem_of_getElem? hi)
      have rl := sm _ _ hr1
      have hh : l.headD 0 < n := by
        cases l with
        | nil => exact absurd rfl l0
        | cons b l => exact llt b List.mem_cons_self
      have en : ((n : Int) - ((l.headD 0 : Nat) + 1 : Int)).toNat = n - (l.headD 0 + 1) := by omega
      refine ⟨_, rfl, r, _, 0, nv (l.headD 0), rfl, rfl, SqL.of rl, headD_at l0, ((l.headD 0 : Nat) : Int), 1, rfl, rfl, _, rfl, ((l.headD 0 : Nat) : Int) + 1, (n : Int), rfl, ⟨by omega, by omega, by omega, by omega⟩, ?_⟩
      refine for_range (lo := ((l.headD 0 : Nat) : Int) + 1) (n := ((n : Int) - ((l.headD 0 : Nat) + 1 : Int)).toNat)
        (fun k σ H' => ∃ y4 ys, σ = [some (nv n), some (.ref a), some (.ref D), some (.ref r), y4] ∧ Same H H' ∧ H' D = some (.lst ys) ∧ HoldX D H' ys ((L.take i).flatMap (longer n) ++ lngK n l k))
        ⟨y4, ys, rfl, sm, hd, by simpa [lngK] using hX⟩ ?_ ?_
      · rintro k σ H2 hk ⟨y4, ys, rfl, sm2, hd2, hX2⟩
        have ek : V.int (((l.headD 0 : Nat) : Int) + 1 + (k : Int)) = nv (l.headD 0 + 1 + k) := by
          unfold nv
          congr 1
        rw [ek]
        have rl2 := sm2 _ _ hr1
        have es := lngK_succ n l k
        refine ⟨_, rfl, _, rfl, r, _, rfl, .inl (SqL.of rl2), rfl, nv_all l, _, rfl, ?_⟩
        have ei : inV (nv (l.headD 0 + 1 + k)) (l.map nv) = l.contains (l.headD 0 + 1 + k) := nv_in _ l
        have ysl : ys.length ≤ 500 := by
          rw [hX2.1, List.length_append]
          have h1 := flat_take n L i hn
          have h2 := lngK_len n l k
          omega
        cases c : l.contains (l.headD 0 + 1 + k) with
        | true =>
          rw [c, if_pos rfl] at es
          refine ifF (by rw [if_pos rfl, ei, c]; rfl) ⟨some (nv (l.headD 0 + 1 + k)), ys, rfl, sm2, hd2, by rw [es]; exact hX2⟩
        | false =>
          rw [c, if_neg (by decide)] at es
          refine ifT (by rw [if_pos rfl, ei, c]; rfl) ?_
          refine ⟨_, rfl, .inl ⟨rfl, _, SqL.of hd2⟩, _, rfl, _, rfl, (by show 1 ≤ sizeLine; decide), fun p hp => ⟨r, p, l.map nv, [nv (l.headD 0 + 1 + k)], rfl, rfl, same_upd hp _ _ rl2, upd_same, (by rw [List.length_map]; exact Nat.le_of_lt (tiny (by show l.length + 1 ≤ 1000; omega))), fun p2 hp2 => ?_⟩⟩
          have s3 : Same H2 (upd (upd H2 p (.lst [nv (l.headD 0 + 1 + k)])) p2 (.lst (l.map nv ++ [nv (l.headD 0 + 1 + k)]))) := (same_upd hp).trans (same_upd hp2)
          have hne : p2 ≠ D := fun z => by
            rw [z, same_upd hp _ _ hd2] at hp2
            cases hp2
          refine ⟨D, _, _, rfl, rfl, s3 _ _ hd2, tiny (by omega), some (nv (l.headD 0 + 1 + k)), _, rfl, same_put hD (sm2.trans s3), upd_same, ?_⟩
          rw [es, ← List.append_assoc]
          refine HoldX.snoc (hX2.same s3).put hne ?_
          rw [upd_ne hne, upd_same, List.map_append]
          rfl
      · rintro σ H2 ⟨y4, ys, rfl, sm2, hd2, hX2⟩
        rw [en, lngK_end] at hX2
        exact ⟨some (.ref r), y4, ys, rfl, sm2, hd2, by rw [flat_next hi]; exact hX2⟩
    · rintro σ H' ⟨y3, y4, ys, rfl, sm, hd, hX⟩
      rw [hR.1, List.take_length] at hX
      exact ⟨_, rfl, q H' D ys sm hd hX.rows⟩
theorem ok_cb {f fR fC : Addr} {fd fdR fdC : FuncData} {k : Nat} {t1 t2 : Tok} (F : Fun K "can_be" "can_be" sCB f fd)
    (GR : FnOk P w K mg base CX0 (k + 4) fR fdR ["n", "t", "l"] (spRnd K)) (kR : PySem.W.keepIn K (.ref fR) = true) (bR : Binds K fdR ["n", "t", "l"] []) (gR : mg "watchings_round" = some (.ref fR))
    (GC : FnOk P w K mg base CX0 (k + 1) fC fdC ["found"] (spCan K)) (kC : PySem.W.keepIn K (.ref fC) = true) (bC : Binds K fdC ["found"] []) (gC : mg "what_can_be" = some (.ref fC))
    (g1 : mg "CAN_BE_EVEN" = some (.int 1 t1)) (g2 : mg "CAN_BE_ODD" = some (.int 2 t2)) : FnOk P w K mg base CX0 (k + 5) f fd ["n", "t", "towers", "wanted"] (spCB K) := by
  refine F.ok scCB (fun vs H Q E h => ?_) (fun cdv A outer s H vs Q E hr h => ?_)
  · obtain ⟨a, b, n, t, l, w, rfl, _⟩ := h
    rfl
  · obtain ⟨a, b, n, t, l, w, rfl, hS, hL, hn, ht, hl, hlt, q⟩ := h
    have hr1 : Room (k + 1) _ := hr.mono (by omega)
    refine ⟨_, pss_cons (ps_set (i := 4) scCB.nd rfl (.inl rfl) (pe_call GR hr (by rfl) gR kR bR .nil pass0 (pa_cons (pv 0) (pa_cons (pv 1) (pa_cons (pv 2) pa_nil)))))
      (pss_cons (ps_if (pt_cmpR op_in_seq pe_int (pv 4) (by rfl)) (pss_one (ps_ret pe_bl)) pss_nil)
      (pss_one (ps_ret (pe_cmpR op_in_seq (pe_call GC hr1 (by rfl) gC kC bC .nil pass0 (pa_cons (pv 4) pa_nil)) (pe_tup (pa_cons (pv 3) (pa_cons (pe_op op_add (pe_glob (v := .int 1) (by rfl) g1 ⟨_, rfl⟩) (pe_glob (v := .int 2) (by rfl) g2 ⟨_, rfl⟩)) pa_nil))) (by rfl))))), ?_⟩
    have fin : ∀ {b : Bool} {H' : Hp}, Same H H' → canBe n t l w = b → Q (.bl b) H' := fun s e => e ▸ q _ s
    refine ⟨_, rfl, _, rfl, _, rfl, a, b, n, t, l, rfl, hS, hL, hn, ht, hl, hlt, fun H1 p s1 hp => ?_⟩
    refine ⟨_, rfl, p, _, rfl, .inl (SqL.of hp), rfl, nv_all _, _, rfl, ?_⟩
    have e0 : inV (.int 0) ((roundN n t l).map nv) = (roundN n t l).contains 0 := nv_in 0 _
    cases c0 : (roundN n t l).contains 0 with
    | true =>
      refine ifT (e0.trans c0) (fin s1 ?_)
      unfold canBe
      rw [c0]
      rfl
    | false =>
      refine ifF (e0.trans c0) ?_
      refine ⟨_, rfl, p, _, rfl, SqL.of hp, _, rfl, 1, 2, rfl, rfl, (by show 2 ≤ sizeLine; decide), fun z hz => ⟨z, [nv w, nv 3], rfl, .inr (SqT.of upd_same), rfl, rfl, fin (s1.trans (same_upd hz)) ?_⟩⟩
      unfold canBe
      rw [c0, if_neg (by decide), if_neg (by decide)]
      show _ = (eqV (nv w) (nv (canN (roundN n t l))) || (eqV (nv 3) (nv (canN (roundN n t l))) || false))
      rw [nv_eqV, nv_eqV, Bool.or_false, Bool.eq_iff_iff, decide_eq_true_eq, Bool.or_eq_true, beq_iff_eq, beq_iff_eq]
theorem one_succ (i : Nat) : (List.range (i + 1)).map (fun k => [k]) = (List.range i).map (fun k => [k]) ++ [[i]] := by
  rw [List.range_succ, List.map_append]
  rfl
theorem ok_sho {f fB fL : Addr} {fd fdB fdL : FuncData} {k : Nat} {t1 : Tok} (F : Fun K "shortest_ring" "shortest_ring" sSho f fd)
    (GB : FnOk P w K mg base CX0 (k + 5) fB fdB ["n", "t", "towers", "wanted"] (spCB K)) (kB : PySem.W.keepIn K (.ref fB) = true) (bB : Binds K fdB ["n", "t", "towers", "wanted"] []) (gB : mg "can_be" = some (.ref fB))
    (GL : FnOk P w K mg base CX0 (k + 1) fL fdL ["n", "choices"] (spLng K)) (kL : PySem.W.keepIn K (.ref fL) = true) (bL : Binds K fdL ["n", "choices"] []) (gL : mg "one_tower_longer" = some (.ref fL))
    (g1 : mg "NO_SUCH_RING" = some (.int (-33) t1)) (mr : mg "range" = none) (ml : mg "len" = none) : FnOk P w K mg base CX0 (k + 6) f fd ["n", "t", "wanted"] (spSho K) := by
  refine F.ok scS (fun vs H Q E h => ?_) (fun cdv A outer s H vs Q E hr h => ?_)
  · obtain ⟨a, n, t, w, rfl, _⟩ := h
    rfl
  · obtain ⟨a, n, t, w, rfl, hS, hn1, hn, ht, q⟩ := h
    have hr1 : Room (k + 1) _ := hr.mono (by omega)
    refine ⟨_, pss_cons (ps_setLc (i := 3) (own := [("tower", 5)]) (g := gName 5) (tt := tYes) rfl scS.nd rfl rfl (sw_true rfl rfl rfl (by decide +kernel)) (pi_range1 (by rfl) mr (pa_cons (pv 0) pa_nil)) (blkOk_by (own := [("tower", 5)]) (N := ["n", "t", "wanted", "choices", "towers", "tower"]) (sc := defScope sSho) (by decide +kernel)) (fun _ _ _ _ _ => pg_name (i := 5) scS.nd rfl (Or.inl rfl)) (fun _ _ _ _ _ => pts_nil) (fun _ _ _ _ _ => pe_lst (pa_cons (pv 5) pa_nil)))
      (pss_cons (ps_while PassesOwn.never (pt_cmpR op_gt (pe_callB call_len_seq (by rfl) ml PySem.boot_len (pa_cons (pv 3) pa_nil)) pe_int (nomark _))
        (pss_cons (ps_for PassesOwn.never rfl (pi_list (pv 3)) (pg_name (i := 4) scS.nd rfl (.inl rfl))
          (pss_one (ps_if (pt_val (pe_call GB hr (by rfl) gB kB bB .nil pass0 (pa_cons (pv 0) (pa_cons (pv 1) (pa_cons (pv 4) (pa_cons (pv 2) pa_nil))))))
            (pss_one (ps_ret (pe_op op_cat (pe_lst (pa_cons (pe_callB call_len_seq (by rfl) ml PySem.boot_len (pa_cons (pv 4) pa_nil)) pa_nil)) (pv 4)))) pss_nil)))
        (pss_one (ps_set (i := 3) scS.nd rfl (.inl rfl) (pe_call GL hr1 (by rfl) gL kL bL .nil pass0 (pa_cons (pv 0) (pa_cons (pv 3) pa_nil)))))))
      (pss_one (ps_ret (pe_lst (pa_cons (pe_glob (v := .int (-33)) (by rfl) g1 ⟨_, rfl⟩) pa_nil))))), ?_⟩
    have fin : ∀ {l' : List V} {p : Addr} {H' : Hp}, (tellN ((pre n n).find? fun l => canBe n t l w)).map V.int = l' → Q (.ref p) (upd H' p (.lst l')) := fun {l' p H'} e => q _ p (by rw [upd_same, e])
    have hn62 : (n : Int) < 2 ^ 62 := Int.lt_of_le_of_lt (Int.ofNat_le.mpr hn) (by decide)
    refine ⟨_, rfl, (n : Int), rfl, Int.le_trans (by decide) (Int.natCast_nonneg _), hn62, fun D hD => lc_range (lo := 0) (n := n)
      (fun i H' => Same H H' ∧ ∃ ys, H' D = some (.lst ys) ∧ HoldX D H' ys ((List.range i).map fun k => [k])) ⟨same_upd hD, [], upd_same, HoldX.nil⟩ ?_ ?_⟩
    · rintro i H' hi ⟨sm, ys, hd, hX⟩
      have ek : V.int (0 + (i : Int)) = nv i := by
        unfold nv
        rw [Int.zero_add]
      rw [ek]
      refine ⟨rfl, _, rfl, (by show 1 ≤ sizeLine; decide), fun p hp => ⟨ys, same_upd hp _ _ hd, tiny (by rw [hX.1, List.length_map, List.length_range]; omega), same_put hD (sm.trans (same_upd hp)), _, upd_same, ?_⟩⟩
      have hne : p ≠ D := fun z => by
        rw [z, hd] at hp
        cases hp
      rw [one_succ]
      refine HoldX.snoc (hX.same (same_upd hp)).put hne ?_
      rw [upd_ne hne, upd_same]
      rfl
    · rintro H' ⟨sm, ys, hd, hX⟩
      have lev0 : lev n 0 = (List.range n).map fun k => [k] := rfl
      rw [← lev0] at hX
      refine ⟨fun r σ H2 => ∃ (m : Nat) (D2 : Addr) (y4 y5 : Option V) (ys : List V), r = n - m ∧ m ≤ n ∧ σ = [some (nv n), some (.ref a), some (nv w), some (.ref D2), y4, y5] ∧ Same H H2 ∧ H2 D2 = some (.lst ys) ∧ Hold H2 ys (lev n m) ∧ (pre n m).find? (fun l => canBe n t l w) = none,
        ⟨n, 0, D, none, none, ys, rfl, Nat.zero_le _, rfl, sm, hd, hX.rows, rfl⟩, ?_⟩
      rintro r σ H2 ⟨m, D2, y4, y5, ys, rfl, hm, rfl, sm2, hd2, hR, hf⟩
      refine ⟨_, rfl, D2, ys, rfl, .inl (SqL.of hd2), _, _, rfl, rfl, _, rfl, ?_⟩
      by_cases e : m = n
      · subst e
        rw [lev_end hn] at hR
        refine ifF (decide_eq_false (by rw [hR.1]; decide)) ?_
        exact ⟨(by show 1 ≤ sizeLine; decide), fun p _ => fin (by rw [hf]; rfl)⟩
      · have hmn : m < n := by omega
        obtain ⟨⟨v0, v1⟩, v2⟩ := lev_facts hn hmn
        have hpos : 0 < ys.length := by
          rw [hR.1]
          exact List.length_pos_iff.mpr v0
        refine ifT (decide_eq_true (by show (0 : Int) < (ys.length : Int); omega)) ?_
        refine ⟨fun σ H2 => ∃ (D2 : Addr) (y4 y5 : Option V) (ys : List V), σ = [some (nv n), some (.ref a), some (nv w), some (.ref D2), y4, y5] ∧ Same H H2 ∧ H2 D2 = some (.lst ys) ∧ Hold H2 ys (lev n (m + 1)) ∧ (pre n (m + 1)).find? (fun l => canBe n t l w) = none,
          fun σ' H' ⟨D2, y4, y5, ys, z⟩ => ⟨n - (m + 1), by omega, m + 1, D2, y4, y5, ys, rfl, hmn, z⟩, ?_⟩
        refine ⟨_, rfl, D2, rfl, ⟨_, SqL.of hd2⟩, for_list (K := K) (a := D2) (xs := ys)
          (fun i σ H' => ∃ y4, σ = [some (nv n), some (.ref a), some (nv w), some (.ref D2), y4, y5] ∧ Same H2 H' ∧ ((lev n m).take i).find? (fun l => canBe n t l w) = none)
          ⟨y4, rfl, Same.refl H2, rfl⟩ (fun i σ H' _ ⟨_, _, sm3, _⟩ => sm3.seq (SqL.of hd2)) ?_ ?_⟩
        · rintro i x σ H3 hx ⟨y4, rfl, sm3, hfi⟩
          obtain ⟨r, l, hi, rfl, hr2⟩ := hR.at hx
          obtain ⟨⟨l0, l4⟩, llt⟩ := v2 l (List.mem_of_getElem? hi)
          refine ⟨_, rfl, _, rfl, _, rfl, _, rfl, a, r, n, t, l, w, rfl, (sm2.trans sm3).seq hS, sm3.seq (SqL.of hr2), hn, ht, by omega, llt, fun H4 s4 => ⟨_, rfl, ?_⟩⟩
          have rl := s4 _ _ (sm3 _ _ hr2)
          cases c : canBe n t l w with
          | true =>
            refine iteT ?_
            refine ⟨_, rfl, r, l.map nv, rfl, .inl (SqL.of rl), (by show 1 ≤ sizeLine; decide), fun p hp => ⟨_, rfl, p, r, [.int (l.map nv).length], l.map nv, rfl, rfl, upd_same, same_upd hp _ _ rl, (by rw [List.length_map]; exact Nat.le_of_lt (tiny (by show 1 + l.length ≤ 1000; omega))), fun z hz => fin ?_⟩⟩
            rw [found_at (p := fun l => canBe n t l w) hmn hf hfi hi c]
            show V.int (l.length : Int) :: (up l).map V.int = V.int ((l.map nv).length : Int) :: l.map nv
            rw [nv_map, List.length_map]
          | false =>
            refine iteF ?_
            exact ⟨some (.ref r), rfl, sm3.trans s4, none_more hfi hi c⟩
        · rintro σ H3 ⟨y4, rfl, sm3, hfi⟩
          rw [hR.1, List.take_length] at hfi
          refine ⟨_, rfl, _, rfl, D2, n, lev n m, ys, rfl, sm3.seq (SqL.of hd2), hR.same sm3, hn, v1, v2, fun H4 p ys' s4 hp hR' => ?_⟩
          refine ⟨p, y4, y5, ys', rfl, sm2.trans (sm3.trans s4), hp, hR', ?_⟩
          rw [pre_succ, List.find?_append, hf, hfi]
          rfl
end
end TW
/-! ## odd -/
namespace TW
open PySem PySem.Spec PyProof.Rows L2
open PySem.W (Codec)
abbrev sOdd : Stmt := top 17
theorem scO : FnScope ["n", "t"] ["n", "t"] (defScope sOdd) := ⟨rfl, rfl, rfl, by decide +kernel, rfl, by decide +kernel, by decide +kernel⟩
def spOdd (K : PySem.W.Frag) : Sp := fun vs H Q _ => ∃ (a : Addr) (n : Nat) (t : List Nat), vs = [nv n, .ref a] ∧ SqL K H a (t.map nv) ∧ t.length ≤ 10 ∧
  ∀ (H' : Hp) (p : Addr), H' p = some (.lst ((PyKzk2.odd (n : Int) (up t)).map V.int)) → Q (.ref p) H'
section
variable {P : Program} {w : World} {K : PySem.W.Frag} {mg : Str → Option Value} {base : Heap}
theorem ok_odd {f fF fS : Addr} {fd fdF fdS : FuncData} {k : Nat} {t1 t2 : Tok} (F : Fun K "odd" "odd" sOdd f fd)
    (GF : FnOk P w K mg base CX0 (k + 2) fF fdF ["n", "t"] (spFits K)) (kF : PySem.W.keepIn K (.ref fF) = true) (bF : Binds K fdF ["n", "t"] []) (gF : mg "fits" = some (.ref fF))
    (GS : FnOk P w K mg base CX0 (k + 6) fS fdS ["n", "t", "wanted"] (spSho K)) (kS : PySem.W.keepIn K (.ref fS) = true) (bS : Binds K fdS ["n", "t", "wanted"] []) (gS : mg "shortest_ring" = some (.ref fS))
    (g1 : mg "DOES_NOT_FIT" = some (.int (-22) t1)) (g2 : mg "CAN_BE_ODD" = some (.int 2 t2)) : FnOk P w K mg base CX0 (k + 7) f fd ["n", "t"] (spOdd K) := by
  refine F.ok scO (fun vs H Q E h => ?_) (fun cdv A outer s H vs Q E hr h => ?_)
  · obtain ⟨a, n, t, rfl, _⟩ := h
    rfl
  · obtain ⟨a, n, t, rfl, hS, hl, q⟩ := h
    have hrF : Room (k + 2) _ := hr.mono (by omega)
    refine ⟨_, pss_cons (ps_if (pt_not (pt_val (pe_call GF hrF (by rfl) gF kF bF .nil pass0 (pa_cons (pv 0) (pa_cons (pv 1) pa_nil))))) (pss_one (ps_ret (pe_lst (pa_cons (pe_glob (v := .int (-22)) (by rfl) g1 ⟨_, rfl⟩) pa_nil)))) pss_nil)
      (pss_one (ps_ret (pe_call GS hr (by rfl) gS kS bS .nil pass0 (pa_cons (pv 0) (pa_cons (pv 1) (pa_cons (pe_glob (v := .int 2) (by rfl) g2 ⟨_, rfl⟩) pa_nil)))))), ?_⟩
    refine ⟨_, rfl, _, rfl, a, n, t, rfl, hS, hl, fun H1 s1 => ⟨_, rfl, ?_⟩⟩
    cases ok : Kzk1.okTowers n t with
    | false =>
      refine iteT ?_
      exact ⟨(by show 1 ≤ sizeLine; decide), fun p _ => q _ p (by rw [upd_same, odd_22 ok]; rfl)⟩
    | true =>
      refine iteF ?_
      obtain ⟨o1, o2, o3⟩ := ok_iff ok
      exact ⟨_, rfl, _, rfl, a, n, t, 2, rfl, s1.seq hS, o1, o2, o3, fun H' p hp => q H' p (by rw [odd_told ok]; exact hp)⟩
end
end TW
/-! ## The end: what the top has written -/
namespace TW
open PySem PySem.Spec PyProof.Rows L2
open PySem.W (Codec)
theorem all_mk {P : Program} {w : World} {K : PySem.W.Frag} {h : Heap} {mg : Str → Option Value} {fa f0 f1 f2 f3 f4 f5 f6 f7 f8 f9 : Addr} (X : K.In h) (G : h.Ns mainGlobals mg) (hfa : mg "odd" = some (.ref fa))
    {od0 an0 od1 an1 od2 an2 od3 an3 od4 an4 od5 an5 od6 an6 od7 an7 od8 an8 od9 an9 : Option Addr} {sl0 sl1 sl2 sl3 sl4 sl5 sl6 sl7 sl8 sl9 : Array (Option Value)} {oc0 kV0 dc0 pm0 cd0 ct0 oc1 kV1 dc1 pm1 cd1 ct1 oc2 kV2 dc2 pm2 cd2 ct2 oc3 kV3 dc3 pm3 cd3 ct3 oc4 kV4 dc4 pm4 cd4 ct4 oc5 kV5 dc5 pm5 cd5 ct5 oc6 kV6 dc6 pm6 cd6 ct6 oc7 kV7 dc7 pm7 cd7 ct7 oc8 kV8 dc8 pm8 cd8 ct8 oc9 kV9 dc9 pm9 cd9 ct9 : Value}
    {tk0 tk1 tk2 tk3 tk4 tk5 tk6 : Tok}
    (a0 : PySem.W.nsIn K mainGlobals "power_of_two" = some (some (.ref f0))) (l0 : K.lookup f0 = some ⟨oc0, od0, .func (PySem.W.fnOf "power_of_two" "power_of_two" (defArgs sPow) (defBody sPow) (defScope sPow) .none kV0 dc0 pm0 an0 cd0 ct0), sl0⟩) (c0 : PySem.W.codeIn K cd0 "power_of_two" = true) (k0 : PySem.W.keepIn K (.ref f0) = true)
    (a1 : PySem.W.nsIn K mainGlobals "bit_at" = some (some (.ref f1))) (l1 : K.lookup f1 = some ⟨oc1, od1, .func (PySem.W.fnOf "bit_at" "bit_at" (defArgs sBit) (defBody sBit) (defScope sBit) .none kV1 dc1 pm1 an1 cd1 ct1), sl1⟩) (c1 : PySem.W.codeIn K cd1 "bit_at" = true) (k1 : PySem.W.keepIn K (.ref f1) = true)
    (a2 : PySem.W.nsIn K mainGlobals "fits" = some (some (.ref f2))) (l2 : K.lookup f2 = some ⟨oc2, od2, .func (PySem.W.fnOf "fits" "fits" (defArgs sFits) (defBody sFits) (defScope sFits) .none kV2 dc2 pm2 an2 cd2 ct2), sl2⟩) (c2 : PySem.W.codeIn K cd2 "fits" = true) (k2 : PySem.W.keepIn K (.ref f2) = true)
    (a3 : PySem.W.nsIn K mainGlobals "watching" = some (some (.ref f3))) (l3 : K.lookup f3 = some ⟨oc3, od3, .func (PySem.W.fnOf "watching" "watching" (defArgs sWat) (defBody sWat) (defScope sWat) .none kV3 dc3 pm3 an3 cd3 ct3), sl3⟩) (c3 : PySem.W.codeIn K cd3 "watching" = true) (k3 : PySem.W.keepIn K (.ref f3) = true)
    (a4 : PySem.W.nsIn K mainGlobals "watchings_round" = some (some (.ref f4))) (l4 : K.lookup f4 = some ⟨oc4, od4, .func (PySem.W.fnOf "watchings_round" "watchings_round" (defArgs sRnd) (defBody sRnd) (defScope sRnd) .none kV4 dc4 pm4 an4 cd4 ct4), sl4⟩) (c4 : PySem.W.codeIn K cd4 "watchings_round" = true) (k4 : PySem.W.keepIn K (.ref f4) = true)
    (a5 : PySem.W.nsIn K mainGlobals "what_can_be" = some (some (.ref f5))) (l5 : K.lookup f5 = some ⟨oc5, od5, .func (PySem.W.fnOf "what_can_be" "what_can_be" (defArgs sCan) (defBody sCan) (defScope sCan) .none kV5 dc5 pm5 an5 cd5 ct5), sl5⟩) (c5 : PySem.W.codeIn K cd5 "what_can_be" = true) (k5 : PySem.W.keepIn K (.ref f5) = true)
    (a6 : PySem.W.nsIn K mainGlobals "one_tower_longer" = some (some (.ref f6))) (l6 : K.lookup f6 = some ⟨oc6, od6, .func (PySem.W.fnOf "one_tower_longer" "one_tower_longer" (defArgs sLng) (defBody sLng) (defScope sLng) .none kV6 dc6 pm6 an6 cd6 ct6), sl6⟩) (c6 : PySem.W.codeIn K cd6 "one_tower_longer" = true) (k6 : PySem.W.keepIn K (.ref f6) = true)
    (a7 : PySem.W.nsIn K mainGlobals "can_be" = some (some (.ref f7))) (l7 : K.lookup f7 = some ⟨oc7, od7, .func (PySem.W.fnOf "can_be" "can_be" (defArgs sCB) (defBody sCB) (defScope sCB) .none kV7 dc7 pm7 an7 cd7 ct7), sl7⟩) (c7 : PySem.W.codeIn K cd7 "can_be" = true) (k7 : PySem.W.keepIn K (.ref f7) = true)
    (a8 : PySem.W.nsIn K mainGlobals "shortest_ring" = some (some (.ref f8))) (l8 : K.lookup f8 = some ⟨oc8, od8, .func (PySem.W.fnOf "shortest_ring" "shortest_ring" (defArgs sSho) (defBody sSho) (defScope sSho) .none kV8 dc8 pm8 an8 cd8 ct8), sl8⟩) (c8 : PySem.W.codeIn K cd8 "shortest_ring" = true) (k8 : PySem.W.keepIn K (.ref f8) = true)
    (a9 : PySem.W.nsIn K mainGlobals "odd" = some (some (.ref f9))) (l9 : K.lookup f9 = some ⟨oc9, od9, .func (PySem.W.fnOf "odd" "odd" (defArgs sOdd) (defBody sOdd) (defScope sOdd) .none kV9 dc9 pm9 an9 cd9 ct9), sl9⟩) (c9 : PySem.W.codeIn K cd9 "odd" = true) (k9 : PySem.W.keepIn K (.ref f9) = true)
    (gc0 : PySem.W.nsIn K mainGlobals "MOST_TOWERS" = some (some (.int (4) tk0)))
    (gc1 : PySem.W.nsIn K mainGlobals "LIFTED" = some (some (.int (1) tk1)))
    (gc2 : PySem.W.nsIn K mainGlobals "LOWERED" = some (some (.int (2) tk2)))
    (gc3 : PySem.W.nsIn K mainGlobals "DOES_NOT_FIT" = some (some (.int (-22) tk3)))
    (gc4 : PySem.W.nsIn K mainGlobals "CAN_BE_EVEN" = some (some (.int (1) tk4)))
    (gc5 : PySem.W.nsIn K mainGlobals "CAN_BE_ODD" = some (some (.int (2) tk5)))
    (gc6 : PySem.W.nsIn K mainGlobals "NO_SUCH_RING" = some (some (.int (-33) tk6)))
    (z0 : PySem.W.nsIn K mainGlobals "range" = some none)
    (z1 : PySem.W.nsIn K mainGlobals "len" = some none)
    (z2 : PySem.W.nsIn K mainGlobals "all" = some none)
    : ∃ fd : FuncData, (∀ (s : Shared) (us : List Value), us.length = (["n", "t"] : List Str).length → BindsTo s fd ⟨us, []⟩ ((["n", "t"] : List Str).zip us)) ∧ ∀ base : Heap, K.In base → base.Ns mainGlobals mg → FnOk P w K mg base CX0 7 fa fd ["n", "t"] (spOdd K) := by
  have e := hfa.symm.trans (PySem.W.mg_of X G a9)
  cases e
  have F0 := fun_mk (st := sPow) l0 c0 k0
  have b0 := F0.binds (ps := ["exponent"]) fun _ _ _ _ _ _ us hl => match us, hl with | [_], _ => rfl
  have m0 := PySem.W.mg_of X G a0
  have F1 := fun_mk (st := sBit) l1 c1 k1
  have b1 := F1.binds (ps := ["number", "place"]) fun _ _ _ _ _ _ us hl => match us, hl with | [_, _], _ => rfl
  have m1 := PySem.W.mg_of X G a1
  have F2 := fun_mk (st := sFits) l2 c2 k2
  have b2 := F2.binds (ps := ["n", "t"]) fun _ _ _ _ _ _ us hl => match us, hl with | [_, _], _ => rfl
  have m2 := PySem.W.mg_of X G a2
  have F3 := fun_mk (st := sWat) l3 c3 k3
  have b3 := F3.binds (ps := ["n", "i", "rule"]) fun _ _ _ _ _ _ us hl => match us, hl with | [_, _, _], _ => rfl
  have m3 := PySem.W.mg_of X G a3
  have F4 := fun_mk (st := sRnd) l4 c4 k4
  have b4 := F4.binds (ps := ["n", "t", "l"]) fun _ _ _ _ _ _ us hl => match us, hl with | [_, _, _], _ => rfl
  have m4 := PySem.W.mg_of X G a4
  have F5 := fun_mk (st := sCan) l5 c5 k5
  have b5 := F5.binds (ps := ["found"]) fun _ _ _ _ _ _ us hl => match us, hl with | [_], _ => rfl
  have m5 := PySem.W.mg_of X G a5
  have F6 := fun_mk (st := sLng) l6 c6 k6
  have b6 := F6.binds (ps := ["n", "choices"]) fun _ _ _ _ _ _ us hl => match us, hl with | [_, _], _ => rfl
  have m6 := PySem.W.mg_of X G a6
  have F7 := fun_mk (st := sCB) l7 c7 k7
  have b7 := F7.binds (ps := ["n", "t", "towers", "wanted"]) fun _ _ _ _ _ _ us hl => match us, hl with | [_, _, _, _], _ => rfl
  have m7 := PySem.W.mg_of X G a7
  have F8 := fun_mk (st := sSho) l8 c8 k8
  have b8 := F8.binds (ps := ["n", "t", "wanted"]) fun _ _ _ _ _ _ us hl => match us, hl with | [_, _, _], _ => rfl
  have m8 := PySem.W.mg_of X G a8
  have F9 := fun_mk (st := sOdd) l9 c9 k9
  have mc0 := PySem.W.mg_of X G gc0
  have mc1 := PySem.W.mg_of X G gc1
  have mc2 := PySem.W.mg_of X G gc2
  have mc3 := PySem.W.mg_of X G gc3
  have mc4 := PySem.W.mg_of X G gc4
  have mc5 := PySem.W.mg_of X G gc5
  have mc6 := PySem.W.mg_of X G gc6
  have mz0 := PySem.W.mg_none_of X G z0
  have mz1 := PySem.W.mg_none_of X G z1
  have mz2 := PySem.W.mg_none_of X G z2
  refine ⟨PySem.W.fnOf "odd" "odd" (defArgs sOdd) (defBody sOdd) (defScope sOdd) .none kV9 dc9 pm9 an9 cd9 ct9, fun s us hu => match us, hu with | [_, _], _ => .of_eq rfl, fun base _ _ => ?_⟩
  have GP : FnOk P w K mg base CX0 1 _ _ ["exponent"] spPow := ok_pow F0 mz0
  have GB : FnOk P w K mg base CX0 2 _ _ ["number", "place"] spBit := ok_bit (k := 0) F1 GP k0 b0 m0
  have GF : FnOk P w K mg base CX0 2 _ _ ["n", "t"] (spFits K) := ok_fits (k := 0) F2 GP k0 b0 m0 mc0 mz1 mz2
  have GW : FnOk P w K mg base CX0 3 _ _ ["n", "i", "rule"] spWat := ok_wat (k := 0) F3 GP k0 b0 m0 GB k1 b1 m1 mc1 mc2 mz0
  have GR : FnOk P w K mg base CX0 4 _ _ ["n", "t", "l"] (spRnd K) := ok_rnd (k := 0) F4 GW k3 b3 m3 mz0 mz1
  have GC : FnOk P w K mg base CX0 1 _ _ ["found"] (spCan K) := ok_can F5 mc1 mc2 mc4 mc5
  have GL : FnOk P w K mg base CX0 1 _ _ ["n", "choices"] (spLng K) := ok_lng F6 mz0
  have GB2 : FnOk P w K mg base CX0 5 _ _ ["n", "t", "towers", "wanted"] (spCB K) := ok_cb (k := 0) F7 GR k4 b4 m4 GC k5 b5 m5 mc4 mc5
  have GS : FnOk P w K mg base CX0 6 _ _ ["n", "t", "wanted"] (spSho K) := ok_sho (k := 0) F8 GB2 k7 b7 m7 GL k6 b6 m6 mc6 mz0 mz1
  exact ok_odd (k := 0) F9 GF k2 b2 m2 GS k8 b8 m8 mc3 mc5
end TW
open PySem PySem.W PyProof.Rows
set_option maxRecDepth 100000 in
set_option maxHeartbeats 8000000 in
theorem PySem.Challenge.cw_towerwatch_s05_odd_holds : PySem.Challenge.rw_towerwatch_s05_odd.Holds := by
  w_on; k_headS; (case hw => exact ⟨[.int 0, .list []], by decide +kernel, by decide +kernel⟩)
  k_fillS
  refine L2.walk_specK (r := PySem.Challenge.rw_towerwatch_s05_odd) (k := 7) (CX := L2.CX0) (ps := ["n", "t"]) (sp := TW.spOdd) (by decide +kernel) rfl rfl ⟨rfl, by decide, by decide⟩ (fun w h Y => PySem.W.kIn_of Y) ?F ?S (fun _ _ _ _ z => z)
  case F =>
    intro w mg fa h Y KX G hmg
    refine' TW.all_mk KX G hmg ?a0 ?l0 ?c0 ?k0 ?a1 ?l1 ?c1 ?k1 ?a2 ?l2 ?c2 ?k2 ?a3 ?l3 ?c3 ?k3 ?a4 ?l4 ?c4 ?k4 ?a5 ?l5 ?c5 ?k5 ?a6 ?l6 ?c6 ?k6 ?a7 ?l7 ?c7 ?k7 ?a8 ?l8 ?c8 ?k8 ?a9 ?l9 ?c9 ?k9 ?gc0 ?gc1 ?gc2 ?gc3 ?gc4 ?gc5 ?gc6 ?z0 ?z1 ?z2
    (case a0 => k_is)
    (case l0 => k_is)
    (case c0 => k_is)
    (case k0 => k_is)
    (case a1 => k_is)
    (case l1 => k_is)
    (case c1 => k_is)
    (case k1 => k_is)
    (case a2 => k_is)
    (case l2 => k_is)
    (case c2 => k_is)
    (case k2 => k_is)
    (case a3 => k_is)
    (case l3 => k_is)
    (case c3 => k_is)
    (case k3 => k_is)
    (case a4 => k_is)
    (case l4 => k_is)
    (case c4 => k_is)
    (case k4 => k_is)
    (case a5 => k_is)
    (case l5 => k_is)
    (case c5 => k_is)
    (case k5 => k_is)
    (case a6 => k_is)
    (case l6 => k_is)
    (case c6 => k_is)
    (case k6 => k_is)
    (case a7 => k_is)
    (case l7 => k_is)
    (case c7 => k_is)
    (case k7 => k_is)
    (case a8 => k_is)
    (case l8 => k_is)
    (case c8 => k_is)
    (case k8 => k_is)
    (case a9 => k_is)
    (case l9 => k_is)
    (case c9 => k_is)
    (case k9 => k_is)
    (case gc0 => k_is)
    (case gc1 => k_is)
    (case gc2 => k_is)
    (case gc3 => k_is)
    (case gc4 => k_is)
    (case gc5 => k_is)
    (case gc6 => k_is)
    (case z0 => k_is)
    (case z1 => k_is)
    (case z2 => k_is)
  case S =>
    intro K H xs a hO hwi hask hx
    obtain ⟨n, t, u⟩ := a
    cases hx with
    | cons h1 h2 =>
    cases h2 with
    | cons h2 h3 =>
    cases h3
    cases h1
    cases h2 with
    | lst hs ha =>
      have e := L2.ints_dw t _ ha
      subst e
      have q : (Codec.inInt 0 4294967295 n && ((Codec.inLen 0 10 t && t.all (Codec.inInt 0 65535)) && true)) = true := hwi
      simp only [Bool.and_eq_true] at q
      obtain ⟨q1, ⟨q4, q5⟩, _⟩ := q
      obtain ⟨n, rfl⟩ := Int.eq_ofNat_of_zero_le (Codec.inInt_iff.mp q1).1
      obtain ⟨t, rfl⟩ := TW.nats_of fun x hx => (Codec.inInt_iff.mp (List.all_eq_true.mp q5 x hx)).1
      rw [TW.nv_map] at hs
      have hl := (Codec.inNat_iff.mp q4).2
      rw [show (TW.up t).length = t.length from List.length_map ..] at hl
      exact ⟨_, n, t, rfl, hs, hl, fun H' p hp => .lst (L2.SqL.of hp) (L2.dw_ints _)⟩
#print axioms PySem.Challenge.cw_towerwatch_s05_odd_holds
