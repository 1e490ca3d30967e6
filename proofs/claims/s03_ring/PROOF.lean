import PyProof.Rows.All
import Wide.All
import OpenK.AllK
import Wide.FinOn
import Open.SpecLaws
import KE.OsGo
import HandS.Base
import HandS.Call
import HandS.List
import HandS.Comp
import HandS.Ends
import HandS.Spec
import HandS.Words
import HandS.SetFor
import PySem.Challenge.RW_towerwatch_s03_ring
set_option Elab.async false
set_option maxRecDepth 100000
set_option maxHeartbeats 2000000
/-! ## The mathematics: one rule, watched tower by tower -/
namespace TW
/-- what is looked at in a state: the flag of i down, the rule down and up -/
def liftAt (i r s : Nat) : Bool := !Kzk1.bit s i && !Kzk1.bit r s && Kzk1.bit r (s + 2 ^ i)
def lowAt (i r s : Nat) : Bool := !Kzk1.bit s i && Kzk1.bit r s && !Kzk1.bit r (s + 2 ^ i)
def liftN (i r k : Nat) : Nat := if (List.range k).any (liftAt i r) then 1 else 0
def lowN (i r k : Nat) : Nat := if (List.range k).any (lowAt i r) then 2 else 0
def watchN (n i r : Nat) : Nat := liftN i r (2 ^ n) + lowN i r (2 ^ n)
theorem kind_eq (n : Nat) (t : List Nat) (i j : Nat) : Kzk2.kind n t i j = watchN n i (t.getD j 0) := rfl
/-- a place's digit -/
def dig (a p : Nat) : Nat := a / 2 ^ p % 2
theorem dig_lt (a p : Nat) : dig a p < 2 := Nat.mod_lt _ (by omega)
theorem bit_eq (a p : Nat) : Kzk1.bit a p = (dig a p == 1) := rfl
theorem dig_two (a p : Nat) : dig a p = 0 ∨ dig a p = 1 := by
  have := dig_lt a p
  omega
theorem any_succ (k : Nat) (f : Nat → Bool) : (List.range (k + 1)).any f = ((List.range k).any f || f k) := by
  rw [List.range_succ, List.any_append]
  simp
theorem liftN_succ (i r k : Nat) : liftN i r (k + 1) = if liftAt i r k then 1 else liftN i r k := by
  unfold liftN
  rw [any_succ]
  cases (List.range k).any (liftAt i r) <;> cases liftAt i r k <;> rfl
theorem lowN_succ (i r k : Nat) : lowN i r (k + 1) = if lowAt i r k then 2 else lowN i r k := by
  unfold lowN
  rw [any_succ]
  cases (List.range k).any (lowAt i r) <;> cases lowAt i r k <;> rfl
theorem lift_up {i r k : Nat} (h : dig k i ≠ 0) : liftAt i r k = false := by
  unfold liftAt
  rw [bit_eq, (dig_two k i).resolve_left h]
  rfl
theorem low_up {i r k : Nat} (h : dig k i ≠ 0) : lowAt i r k = false := by
  unfold lowAt
  rw [bit_eq, (dig_two k i).resolve_left h]
  rfl
theorem lift_down {i r k : Nat} (h : dig k i = 0) : liftAt i r k = decide (dig r k < dig r (k + 2 ^ i)) := by
  unfold liftAt
  rw [bit_eq, bit_eq, bit_eq, h]
  rcases dig_two r k with e1 | e1 <;> rcases dig_two r (k + 2 ^ i) with e2 | e2 <;> rw [e1, e2] <;> rfl
theorem low_down {i r k : Nat} (h : dig k i = 0) : lowAt i r k = decide (dig r (k + 2 ^ i) < dig r k) := by
  unfold lowAt
  rw [bit_eq, bit_eq, bit_eq, h]
  rcases dig_two r k with e1 | e1 <;> rcases dig_two r (k + 2 ^ i) with e2 | e2 <;> rw [e1, e2] <;> rfl
/-- n and t as they are handed in -/
theorem ok_n {n : Nat} {t : List Nat} (h : n < 1 ∨ 4 < n) : Kzk1.okTowers n t = false := by
  unfold Kzk1.okTowers
  have : (decide (1 ≤ n) && decide (n ≤ 4)) = false := by
    rw [Bool.and_eq_false_iff, decide_eq_false_iff_not, decide_eq_false_iff_not]; omega
  rw [this]; rfl
theorem ok_len {n : Nat} {t : List Nat} (h : t.length ≠ n) : Kzk1.okTowers n t = false := by
  unfold Kzk1.okTowers
  rw [beq_eq_false_iff_ne.mpr h, Bool.and_false]; rfl
theorem ok_all {n : Nat} {t : List Nat} (h : ¬ (n < 1 ∨ 4 < n)) (hl : t.length = n) : Kzk1.okTowers n t = t.all fun r => decide (r < 2 ^ 2 ^ n) := by
  unfold Kzk1.okTowers
  have : (decide (1 ≤ n) && decide (n ≤ 4)) = true := by
    rw [Bool.and_eq_true, decide_eq_true_iff, decide_eq_true_iff]; omega
  rw [this, beq_iff_eq.mpr hl]; rfl
theorem ok_iff {n : Nat} {t : List Nat} (h : Kzk1.okTowers n t = true) : 1 ≤ n ∧ n ≤ 4 ∧ t.length = n := by
  unfold Kzk1.okTowers at h
  simp only [Bool.and_eq_true, beq_iff_eq, decide_eq_true_eq] at h
  exact ⟨h.1.1.1, h.1.1.2, h.1.2⟩
/-- whole numbers from nought -/
def up (l : List Nat) : List Int := l.map fun (x : Nat) => (x : Int)
theorem nats_of : ∀ {l : List Int}, (∀ x ∈ l, 0 ≤ x) → ∃ m : List Nat, l = up m
  | [], _ => ⟨[], rfl⟩
  | a :: r, h => by
    obtain ⟨m, e⟩ := nats_of (l := r) fun x hx => h x (List.mem_cons_of_mem _ hx)
    obtain ⟨k, hk⟩ := Int.eq_ofNat_of_zero_le (h a List.mem_cons_self)
    exact ⟨k :: m, by rw [e, hk]; rfl⟩
theorem natsOf_up (m : List Nat) : Kzk2Neutral.natsOf (up m) = m := by
  unfold Kzk2Neutral.natsOf up
  rw [List.map_map]
  have : (Int.toNat ∘ fun (x : Nat) => (x : Int)) = id := by funext x; rfl
  rw [this, List.map_id]
theorem all_range_lt (l : List Nat) (k : Nat) : (l.map fun (x : Nat) => decide ((x : Int) < (k : Int))).all id = l.all fun r => decide (r < k) := by
  rw [List.all_map]
  congr 1
  funext x
  exact decide_eq_decide.mpr (by omega)
theorem pow_le {a b : Nat} (h : a ≤ b) : 2 ^ a ≤ 2 ^ b := Nat.pow_le_pow_right (by omega) h
end TW
/-! ## What is due of ring, even, odd, layers, case by case -/
namespace TW
theorem ring_due (n : Nat) (t l : List Nat) : PyKzk2.ring (n : Int) (up t) (up l) = (Kzk2.answer (.ring n t l)).value :: Kzk2Neutral.ints (Kzk2.answer (.ring n t l)).nums := by
  have h : Kzk2Neutral.callOf [[2, (n : Int)], up t, up l] = some (Kzk2.Call.ring n (Kzk2Neutral.natsOf (up t)) (Kzk2Neutral.natsOf (up l))) := rfl
  rw [natsOf_up, natsOf_up] at h
  unfold PyKzk2.ring Kzk2Neutral.f
  rw [h]
theorem ring_22 {n : Nat} {t l : List Nat} (h : Kzk1.okTowers n t = false ∨ Kzk2.okRing n l = false) : PyKzk2.ring (n : Int) (up t) (up l) = [-22] := by
  rw [ring_due]
  unfold Kzk2.answer
  dsimp only
  rw [if_pos h]; rfl
theorem ring_6 {n : Nat} {t l : List Nat} (h : Kzk1.okTowers n t = true) (h2 : Kzk2.okRing n l = true) (h3 : (Kzk2.steps (Kzk2.kinds n t) l).contains 0 = true) : PyKzk2.ring (n : Int) (up t) (up l) = [-6] := by
  rw [ring_due]
  unfold Kzk2.answer
  dsimp only
  rw [if_neg (by rw [h, h2]; decide), if_pos h3]; rfl
theorem ring_ok {n : Nat} {t l : List Nat} (h : Kzk1.okTowers n t = true) (h2 : Kzk2.okRing n l = true) (h3 : (Kzk2.steps (Kzk2.kinds n t) l).contains 0 = false) :
    PyKzk2.ring (n : Int) (up t) (up l) = [(((if (Kzk2.parity (Kzk2.steps (Kzk2.kinds n t) l)).1 then 1 else 0) + (if (Kzk2.parity (Kzk2.steps (Kzk2.kinds n t) l)).2 then 2 else 0) : Nat) : Int)] := by
  rw [ring_due]
  unfold Kzk2.answer
  dsimp only
  rw [if_neg (by rw [h, h2]; decide), if_neg (by rw [h3]; decide)]; rfl
theorem even_due (n : Nat) (t : List Nat) : PyKzk2.even (n : Int) (up t) = (Kzk2.answer (.even n t)).value :: Kzk2Neutral.ints (Kzk2.answer (.even n t)).nums := by
  have h : Kzk2Neutral.callOf [[3, (n : Int)], up t] = some (Kzk2.Call.even n (Kzk2Neutral.natsOf (up t))) := rfl
  rw [natsOf_up] at h
  unfold PyKzk2.even Kzk2Neutral.f
  rw [h]
theorem even_22 {n : Nat} {t : List Nat} (h : Kzk1.okTowers n t = false) : PyKzk2.even (n : Int) (up t) = [-22] := by
  rw [even_due]
  unfold Kzk2.answer
  dsimp only
  rw [if_pos h]; rfl
theorem even_none {n : Nat} {t : List Nat} (h : Kzk1.okTowers n t = true) (h2 : Kzk2.even n t = none) : PyKzk2.even (n : Int) (up t) = [-33] := by
  rw [even_due]
  unfold Kzk2.answer
  dsimp only
  rw [if_neg (by rw [h]; decide), h2]; rfl
theorem even_some {n : Nat} {t l : List Nat} (h : Kzk1.okTowers n t = true) (h2 : Kzk2.even n t = some l) : PyKzk2.even (n : Int) (up t) = ((l.length : Nat) : Int) :: up l := by
  rw [even_due]
  unfold Kzk2.answer
  dsimp only
  rw [if_neg (by rw [h]; decide), h2]; rfl
theorem odd_due (n : Nat) (t : List Nat) : PyKzk2.odd (n : Int) (up t) = (Kzk2.answer (.odd n t)).value :: Kzk2Neutral.ints (Kzk2.answer (.odd n t)).nums := by
  have h : Kzk2Neutral.callOf [[4, (n : Int)], up t] = some (Kzk2.Call.odd n (Kzk2Neutral.natsOf (up t))) := rfl
  rw [natsOf_up] at h
  unfold PyKzk2.odd Kzk2Neutral.f
  rw [h]
theorem odd_22 {n : Nat} {t : List Nat} (h : Kzk1.okTowers n t = false) : PyKzk2.odd (n : Int) (up t) = [-22] := by
  rw [odd_due]
  unfold Kzk2.answer
  dsimp only
  rw [if_pos h]; rfl
theorem odd_none {n : Nat} {t : List Nat} (h : Kzk1.okTowers n t = true) (h2 : Kzk2.odd n t = none) : PyKzk2.odd (n : Int) (up t) = [-33] := by
  rw [odd_due]
  unfold Kzk2.answer
  dsimp only
  rw [if_neg (by rw [h]; decide), h2]; rfl
theorem odd_some {n : Nat} {t l : List Nat} (h : Kzk1.okTowers n t = true) (h2 : Kzk2.odd n t = some l) : PyKzk2.odd (n : Int) (up t) = ((l.length : Nat) : Int) :: up l := by
  rw [odd_due]
  unfold Kzk2.answer
  dsimp only
  rw [if_neg (by rw [h]; decide), h2]; rfl
theorem layers_due (n : Nat) (t : List Nat) : PyKzk2.layers (n : Int) (up t) = (Kzk2.answer (.layers n t)).value :: Kzk2Neutral.ints (Kzk2.answer (.layers n t)).nums := by
  have h : Kzk2Neutral.callOf [[5, (n : Int)], up t] = some (Kzk2.Call.layers n (Kzk2Neutral.natsOf (up t))) := rfl
  rw [natsOf_up] at h
  unfold PyKzk2.layers Kzk2Neutral.f
  rw [h]
theorem layers_22 {n : Nat} {t : List Nat} (h : Kzk1.okTowers n t = false) : PyKzk2.layers (n : Int) (up t) = [-22] := by
  rw [layers_due]
  unfold Kzk2.answer
  dsimp only
  rw [if_pos h]; rfl
theorem layers_33 {n : Nat} {t : List Nat} (h : Kzk1.okTowers n t = true) (h2 : Kzk2.hasRing n t = true) : PyKzk2.layers (n : Int) (up t) = [-33] := by
  rw [layers_due]
  unfold Kzk2.answer
  dsimp only
  rw [if_neg (by rw [h]; decide), if_pos h2]; rfl
theorem layers_ok {n : Nat} {t : List Nat} (h : Kzk1.okTowers n t = true) (h2 : Kzk2.hasRing n t = false) : PyKzk2.layers (n : Int) (up t) = ((Kzk2.most (Kzk2.layers n t) + 1 : Nat) : Int) :: up (Kzk2.layers n t) := by
  rw [layers_due]
  unfold Kzk2.answer
  dsimp only
  rw [if_neg (by rw [h]; decide), if_neg (by rw [h2]; decide)]; rfl
/-- how tower j watches tower i, off the whole table -/
theorem at_kinds {n i j : Nat} (t : List Nat) (hi : i < n) (hj : j < n) : Kzk2.at_ (Kzk2.kinds n t) i j = watchN n i (t.getD j 0) := by
  unfold Kzk2.at_ Kzk2.kinds
  rw [List.getD_eq_getElem?_getD, List.getD_eq_getElem?_getD, List.getElem?_map, List.getElem?_range hj]
  show (((List.range n).map fun i => Kzk2.kind n t i j)[i]?).getD 0 = _
  rw [List.getElem?_map, List.getElem?_range hi]
  rfl
end TW
/-! ## A ring's watchings, and what it can be -/
namespace TW
/-- how each is watched by the next, off the rules -/
def roundN (n : Nat) (t l : List Nat) : List Nat := (List.range l.length).map fun a => watchN n (l.getD a 0) (t.getD (l.getD ((a + 1) % l.length) 0) 0)
theorem getD_lt {l : List Nat} {n a : Nat} (h : ∀ x ∈ l, x < n) (ha : a < l.length) : l.getD a 0 < n := by
  rw [List.getD_eq_getElem?_getD, List.getElem?_eq_getElem ha]
  exact h _ (List.getElem_mem ha)
theorem steps_eq {n : Nat} (t : List Nat) {l : List Nat} (h : ∀ x ∈ l, x < n) : Kzk2.steps (Kzk2.kinds n t) l = roundN n t l := by
  unfold Kzk2.steps roundN
  apply List.map_congr_left
  intro a ha
  have ha' := List.mem_range.mp ha
  exact at_kinds t (getD_lt h ha') (getD_lt h (Nat.mod_lt _ (by omega)))
theorem lift_le (i r k : Nat) : liftN i r k ≤ 1 := by
  unfold liftN
  split <;> omega
theorem low_le (i r k : Nat) : lowN i r k = 0 ∨ lowN i r k = 2 := by
  unfold lowN
  split
  · exact .inr rfl
  · exact .inl rfl
theorem watch_le (n i r : Nat) : watchN n i r ≤ 3 := by
  unfold watchN
  have h1 := lift_le i r (2 ^ n)
  have h2 := low_le i r (2 ^ n)
  omega
theorem round_le (n : Nat) (t l : List Nat) : ∀ x ∈ roundN n t l, x ≤ 3 := by
  intro x hx
  obtain ⟨a, _, rfl⟩ := List.mem_map.mp hx
  exact watch_le _ _ _
theorem round_len (n : Nat) (t l : List Nat) : (roundN n t l).length = l.length := by
  unfold roundN
  rw [List.length_map, List.length_range]
/-- what can be: 1 even, 2 odd, 3 both -/
def canN (v : List Nat) : Nat := if v.contains 3 then 3 else if v.count 2 % 2 = 0 then 1 else 2
/-- the parity's step, and the same from any start -/
def pstep (p : Bool × Bool) (w : Nat) : Bool × Bool := ((p.1 && w % 2 == 1) || (p.2 && decide (2 ≤ w)), (p.2 && w % 2 == 1) || (p.1 && decide (2 ≤ w)))
theorem parity_eq (v : List Nat) : Kzk2.parity v = v.foldl pstep (true, false) := rfl
theorem fold_both : ∀ v : List Nat, (∀ x ∈ v, x ≠ 0 ∧ x ≤ 3) → v.foldl pstep (true, true) = (true, true)
  | [], _ => rfl
  | w :: v, h => by
    have ih := fold_both v fun x hx => h x (List.mem_cons_of_mem _ hx)
    have hw := h w List.mem_cons_self
    have : w = 1 ∨ w = 2 ∨ w = 3 := by omega
    rcases this with rfl | rfl | rfl <;> exact ih
theorem fold_one : ∀ (v : List Nat) (b : Bool), (∀ x ∈ v, x ≠ 0 ∧ x ≤ 3) →
    v.foldl pstep (b, !b) = if v.contains 3 then (true, true) else if v.count 2 % 2 = 0 then (b, !b) else (!b, b)
  | [], b, _ => by cases b <;> rfl
  | w :: v, b, h => by
    have hv := fun x hx => h x (List.mem_cons_of_mem _ hx)
    have ih := fun b => fold_one v b hv
    have hw := h w List.mem_cons_self
    have : w = 1 ∨ w = 2 ∨ w = 3 := by omega
    rcases this with rfl | rfl | rfl
    · have e : (1 :: v).foldl pstep (b, !b) = v.foldl pstep (b, !b) := by cases b <;> rfl
      have ec : (1 :: v).contains 3 = v.contains 3 := rfl
      have en : (1 :: v).count 2 = v.count 2 := List.count_cons_of_ne (by decide)
      rw [e, ih, ec, en]
    · have e : (2 :: v).foldl pstep (b, !b) = v.foldl pstep (!b, !!b) := by cases b <;> rfl
      have ec : (2 :: v).contains 3 = v.contains 3 := rfl
      have en : (2 :: v).count 2 = v.count 2 + 1 := List.count_cons_self
      rw [e, ih, ec, en]
      cases v.contains 3
      · show (if v.count 2 % 2 = 0 then (!b, !!b) else (!!b, !b)) = if (v.count 2 + 1) % 2 = 0 then (b, !b) else (!b, b)
        by_cases z : v.count 2 % 2 = 0
        · rw [if_pos z, if_neg (by omega), Bool.not_not]
        · rw [if_neg z, if_pos (by omega), Bool.not_not]
      · rfl
    · have e : (3 :: v).foldl pstep (b, !b) = v.foldl pstep (true, true) := by cases b <;> rfl
      rw [e, fold_both v hv]
      rfl
theorem can_eq {v : List Nat} (h : ∀ x ∈ v, x ≤ 3) (h0 : v.contains 0 = false) :
    Kzk2.parity v = if v.contains 3 then (true, true) else if v.count 2 % 2 = 0 then (true, false) else (false, true) := by
  rw [parity_eq]
  refine fold_one v true fun x hx => ⟨fun e => ?_, h x hx⟩
  subst e
  rw [List.contains_eq_mem, decide_eq_false_iff_not] at h0
  exact h0 hx
theorem can_ring {v : List Nat} (h : ∀ x ∈ v, x ≤ 3) (h0 : v.contains 0 = false) :
    (if (Kzk2.parity v).1 then 1 else 0) + (if (Kzk2.parity v).2 then 2 else 0) = canN v := by
  rw [can_eq h h0]
  unfold canN
  cases v.contains 3
  · show (if (if v.count 2 % 2 = 0 then (true, false) else (false, true)).1 = true then 1 else 0) + (if (if v.count 2 % 2 = 0 then (true, false) else (false, true)).2 = true then 2 else 0) = if v.count 2 % 2 = 0 then 1 else 2
    by_cases z : v.count 2 % 2 = 0
    · rw [if_pos z, if_pos z]; rfl
    · rw [if_neg z, if_neg z]; rfl
  · rfl
/-- different towers, as the program looks -/
def diffN (n : Nat) (l : List Nat) : Bool := !l.isEmpty && l.all fun i => decide (i < n) && decide (l.count i = 1)
theorem nodup_iff (l : List Nat) : ((List.range l.length).all fun a => (List.range l.length).all fun b => a == b || l.getD a 0 != l.getD b 0) = true ↔ l.Nodup := by
  rw [List.nodup_iff_pairwise_ne, List.pairwise_iff_getElem]
  simp only [List.all_eq_true, List.mem_range, Bool.or_eq_true, beq_iff_eq, bne_iff_ne]
  constructor
  · intro h i j hi hj hij
    rcases h i hi j hj with e | e
    · omega
    · rw [List.getD_eq_getElem?_getD, List.getD_eq_getElem?_getD, List.getElem?_eq_getElem hi, List.getElem?_eq_getElem hj] at e
      exact e
  · intro h i hi j hj
    rw [List.getD_eq_getElem?_getD, List.getD_eq_getElem?_getD, List.getElem?_eq_getElem hi, List.getElem?_eq_getElem hj]
    show i = j ∨ l[i] ≠ l[j]
    rcases Nat.lt_trichotomy i j with e | e | e
    · exact .inr (h i j hi hj e)
    · exact .inl e
    · exact .inr fun z => h j i hj hi e z.symm
theorem diff_eq (n : Nat) (l : List Nat) : diffN n l = Kzk2.okRing n l := by
  rw [Bool.eq_iff_iff]
  unfold diffN Kzk2.okRing
  rw [Bool.and_eq_true, Bool.and_eq_true, Bool.and_eq_true, nodup_iff]
  simp only [List.all_eq_true, Bool.and_eq_true, decide_eq_true_eq]
  constructor
  · rintro ⟨h1, h2⟩
    refine ⟨⟨h1, fun x hx => (h2 x hx).1⟩, ?_⟩
    rw [List.nodup_iff_count]
    intro x
    by_cases hx : x ∈ l
    · exact Nat.le_of_eq (h2 x hx).2
    · rw [List.count_eq_zero_of_not_mem hx]; omega
  · rintro ⟨⟨h1, h2⟩, h3⟩
    refine ⟨h1, fun x hx => ⟨h2 x hx, ?_⟩⟩
    have a := List.nodup_iff_count.mp h3 x
    have b := List.count_pos_iff.mpr hx
    omega
theorem okRing_iff {n : Nat} {l : List Nat} (h : Kzk2.okRing n l = true) : ∀ x ∈ l, x < n := by
  unfold Kzk2.okRing at h
  rw [Bool.and_eq_true, Bool.and_eq_true] at h
  intro x hx
  exact of_decide_eq_true (List.all_eq_true.mp h.1.2 x hx)
end TW
/-! ## The defs: power_of_two, bit_at, fits, watching -/
namespace TW
open PySem PySem.Spec PyProof.Rows L2
open PySem.W (Codec)
def top (i : Nat) : Stmt := PySem.Challenge.pw_towerwatch_s03_ring.main.body.getD i (.Pass ⟨0, 0, 0, 0⟩)
abbrev sPow : Stmt := top 8
abbrev sBit : Stmt := top 9
abbrev sFits : Stmt := top 10
abbrev sWat : Stmt := top 11
theorem scP : FnScope ["exponent", "power", "step"] ["exponent"] (defScope sPow) := ⟨rfl, rfl, rfl, by decide +kernel, rfl, by decide +kernel, by decide +kernel⟩
theorem scB : FnScope ["number", "place"] ["number", "place"] (defScope sBit) := ⟨rfl, rfl, rfl, by decide +kernel, rfl, by decide +kernel, by decide +kernel⟩
theorem scF : FnScope ["n", "t", "limit", "rule"] ["n", "t"] (defScope sFits) := ⟨rfl, rfl, rfl, by decide +kernel, rfl, by decide +kernel, by decide +kernel⟩
theorem scW : FnScope ["n", "i", "rule", "lifted", "lowered", "state", "while_down", "while_up"] ["n", "i", "rule"] (defScope sWat) := ⟨rfl, rfl, rfl, by decide +kernel, rfl, by decide +kernel, by decide +kernel⟩
/-- a number, numbers, as the proof sees them -/
def nv (n : Nat) : V := .int (n : Int)
def spPow : Sp := fun vs H Q _ => ∃ e : Nat, vs = [nv e] ∧ e ≤ 1000 ∧ Q (nv (2 ^ e)) H
def spBit : Sp := fun vs H Q _ => ∃ a p : Nat, vs = [nv a, nv p] ∧ p < 30 ∧ Q (nv (dig a p)) H
def spFits (K : PySem.W.Frag) : Sp := fun vs H Q _ => ∃ (a : Addr) (n : Nat) (t : List Nat), vs = [nv n, .ref a] ∧ SqL K H a (t.map nv) ∧ t.length ≤ 10 ∧ ∀ H', Same H H' → Q (.bl (Kzk1.okTowers n t)) H'
def spWat : Sp := fun vs H Q _ => ∃ n i r : Nat, vs = [nv n, nv i, nv r] ∧ n ≤ 4 ∧ i < n ∧ Q (nv (watchN n i r)) H
theorem same_upd {H : Hp} {p : Addr} {o : HO} (h : H p = none) : Same H (upd H p o) := fun b x e => by
  rw [upd_ne (ne_of_none e h)]
  exact e
section
variable {P : Program} {w : World} {K : PySem.W.Frag} {mg : Str → Option Value} {base : Heap}
theorem ok_pow {f : Addr} {fd : FuncData} {k : Nat} (F : Fun K "power_of_two" "power_of_two" sPow f fd) (mr : mg "range" = none) : FnOk P w K mg base CX0 (k + 1) f fd ["exponent"] spPow := by
  refine F.ok scP (fun vs H Q E h => ?_) (fun cdv A outer s H vs Q E hr h => ?_)
  · obtain ⟨e, rfl, _⟩ := h
    rfl
  · obtain ⟨e, rfl, he, q⟩ := h
    refine ⟨_, pss_cons (ps_set (i := 1) scP.nd rfl (.inl rfl) pe_int)
      (pss_cons (ps_for PassesOwn.never rfl (pi_range1 (by rfl) mr (pa_cons (pv 0) pa_nil)) (pg_name (i := 2) scP.nd rfl (.inl rfl))
        (pss_one (ps_set (i := 1) scP.nd rfl (.inl rfl) (pe_op op_mul (pv 1) pe_int))))
      (pss_one (ps_ret (pv 1)))), ?_⟩
    refine ⟨_, rfl, (e : Int), rfl, by omega, by omega, for_range (lo := 0) (n := e) (fun i σ H' => ∃ y, σ = [some (nv e), some (nv (2 ^ i)), y] ∧ H' = H) ⟨none, rfl, rfl⟩ ?_ ?_⟩
    · rintro i σ H' hi ⟨y, rfl, rfl⟩
      refine ⟨_, rfl, _, _, rfl, rfl, .inr ⟨by decide, by decide⟩, some (.int (0 + i)), ?_, rfl⟩
      have e2 : nv (2 ^ (i + 1)) = .int (((2 ^ i : Nat) : Int) * 2) := by
        unfold nv
        rw [Nat.pow_succ]
        rfl
      rw [e2]
      rfl
    · rintro σ H' ⟨y, rfl, rfl⟩
      exact ⟨_, rfl, q⟩
theorem ok_bit {f fP : Addr} {fd fdP : FuncData} {k : Nat} (F : Fun K "bit_at" "bit_at" sBit f fd) (GP : FnOk P w K mg base CX0 (k + 1) fP fdP ["exponent"] spPow) (kP : PySem.W.keepIn K (.ref fP) = true) (bP : Binds K fdP ["exponent"] []) (gP : mg "power_of_two" = some (.ref fP)) :
    FnOk P w K mg base CX0 (k + 2) f fd ["number", "place"] spBit := by
  refine F.ok scB (fun vs H Q E h => ?_) (fun cdv A outer s H vs Q E hr h => ?_)
  · obtain ⟨a, p, rfl, _⟩ := h
    rfl
  · obtain ⟨a, p, rfl, hp, q⟩ := h
    refine ⟨_, pss_one (ps_ret (pe_op op_mod (pe_op op_fdiv (pv 0) (pe_call GP hr (by rfl) gP kP bP .nil pass0 (pa_cons (pv 1) pa_nil))) pe_int)), ?_⟩
    have h1 : 2 ^ p < 2 ^ 30 := Nat.pow_lt_pow_right (by omega) hp
    have h0 : 0 < 2 ^ p := Nat.pow_pos (by omega)
    refine ⟨_, rfl, _, rfl, p, rfl, by omega, (a : Int), ((2 ^ p : Nat) : Int), rfl, rfl, ⟨by omega, by omega⟩, ((a : Int) / ((2 ^ p : Nat) : Int)), 2, rfl, rfl, (by show (0 : Int) < 2; decide), ?_⟩
    have e : nv (dig a p) = .int ((a : Int) / ((2 ^ p : Nat) : Int) % 2) := rfl
    show Q (.int ((a : Int) / ((2 ^ p : Nat) : Int) % 2)) H
    rw [← e]
    exact q
theorem nv_map (t : List Nat) : (up t).map V.int = t.map nv := by
  unfold up
  rw [List.map_map]
  rfl
theorem get_nv {t : List Nat} {i : Nat} {x : V} (h : (t.map nv)[i]? = some x) : ∃ r, t[i]? = some r ∧ x = nv r := by
  rw [List.getElem?_map] at h
  cases e : t[i]? with
  | none => rw [e] at h; cases h
  | some r => rw [e] at h; exact ⟨r, rfl, (Option.some.inj h).symm⟩
theorem take_more {α β : Type} (g : α → β) {t : List α} {i : Nat} {r : α} (h : t[i]? = some r) : (t.take (i + 1)).map g = (t.take i).map g ++ [g r] := by
  rw [List.take_add_one, h, List.map_append]
  rfl
theorem ok_fits {f fP : Addr} {fd fdP : FuncData} {k : Nat} {tM : Tok} (F : Fun K "fits" "fits" sFits f fd) (GP : FnOk P w K mg base CX0 (k + 1) fP fdP ["exponent"] spPow) (kP : PySem.W.keepIn K (.ref fP) = true) (bP : Binds K fdP ["exponent"] []) (gP : mg "power_of_two" = some (.ref fP))
    (gM : mg "MOST_TOWERS" = some (.int 4 tM)) (ml : mg "len" = none) (ma : mg "all" = none) : FnOk P w K mg base CX0 (k + 2) f fd ["n", "t"] (spFits K) := by
  refine F.ok scF (fun vs H Q E h => ?_) (fun cdv A outer s H vs Q E hr h => ?_)
  · obtain ⟨a, n, t, rfl, _⟩ := h
    rfl
  · obtain ⟨a, n, t, rfl, hS, hl, q⟩ := h
    refine ⟨_, pss_cons (ps_if (PW.pt (pw_or (pt_cmpR op_lt (pv 0) pe_int (nomark _)) (pw_or1 (pt_cmpR op_gt (pv 0) (pe_glob (v := .int 4) (by rfl) gM ⟨_, rfl⟩) (nomark _))))) (pss_one (ps_ret pe_bl)) pss_nil)
      (pss_cons (ps_if (pt_cmpR op_ne (pe_callB call_len_seq (by rfl) ml PySem.boot_len (pa_cons (pv 1) pa_nil)) (pv 0) (nomark _)) (pss_one (ps_ret pe_bl)) pss_nil)
      (pss_cons (ps_set (i := 2) scF.nd rfl (Or.inr rfl) (pe_call GP hr (by rfl) gP kP bP .nil pass0 (pa_cons (pe_call GP hr (by rfl) gP kP bP .nil pass0 (pa_cons (pv 0) pa_nil)) pa_nil)))
      (pss_one (ps_ret (pe_callB (cr_all rfl) (by rfl) ma (by decide +kernel) (pa_cons (pe_lc (own := [("rule", 3)]) (g := gName 3) (tt := tYes) rfl scF.nd (pi_list (pv 1)) (blkOk_by (own := [("rule", 3)]) (N := ["n", "t", "limit", "rule"]) (sc := defScope sFits) (by decide +kernel)) (fun _ _ _ _ _ => pg_name (i := 3) scF.nd rfl (Or.inl rfl)) (fun _ _ _ _ _ => pts_nil) (fun _ _ _ _ _ => pe_cmpR op_lt (pv 3) (pv 2) (nomark _))) pa_nil)))))), ?_⟩
    have fin : ∀ {b : Bool} {H' : Hp}, Same H H' → Kzk1.okTowers n t = b → Q (.bl b) H' := fun s e => e ▸ q _ s
    refine ⟨_, rfl, _, _, rfl, rfl, _, rfl, ite2 (fun c => ?_) (fun c => ?_)⟩
    · have c1 : (n : Int) < 1 := of_decide_eq_true c
      exact fin (Same.refl H) (ok_n (by omega))
    · have c1 : ¬ (n : Int) < 1 := fun z => c (decide_eq_true z)
      refine ⟨_, rfl, _, _, rfl, rfl, _, rfl, ite2 (fun d => ?_) (fun d => ?_)⟩
      · have d1 : (4 : Int) < (n : Int) := of_decide_eq_true d
        exact fin (Same.refl H) (ok_n (by omega))
      · have d1 : ¬ (4 : Int) < (n : Int) := fun z => d (decide_eq_true z)
        refine ⟨.ref a, rfl, a, t.map nv, rfl, .inl hS, _, rfl, rfl, _, rfl, ?_⟩
        by_cases e : t.length = n
        · have hn : n ≤ 4 := by omega
          have h4 : 2 ^ n ≤ 2 ^ 4 := pow_le hn
          refine iteNS (by rw [List.length_map, e]; rfl) ?_
          refine ⟨_, rfl, n, rfl, by omega, 2 ^ n, rfl, by omega, ?_⟩
          refine ⟨.ref a, rfl, a, rfl, ⟨_, hS⟩, fun D hD => lc_list (K := K) (a := a) (xs := t.map nv)
            (fun i H' => Same H H' ∧ H' D = some (.lst ((t.take i).map fun (r : Nat) => V.bl (decide ((r : Int) < ((2 ^ 2 ^ n : Nat) : Int)))))) ⟨same_upd hD, upd_same⟩ (fun i H' _ h => h.1.seq hS) ?_ ?_⟩
          · rintro i x H' hx ⟨sm, hd⟩
            obtain ⟨r, hr1, rfl⟩ := get_nv hx
            refine ⟨rfl, _, rfl, _, rfl, _, _, rfl, rfl, _, hd, ?_, ?_, ?_⟩
            · rw [List.length_map, List.length_take]
              exact Nat.lt_of_le_of_lt (Nat.min_le_right _ _) (Nat.lt_of_le_of_lt hl (by decide))
            · intro b o eb
              rw [upd_ne (ne_of_none eb hD)]
              exact sm b o eb
            · rw [upd_same, take_more _ hr1]
          · rintro H' ⟨sm, hd⟩
            rw [List.length_map, List.take_length] at hd
            refine ⟨D, t.map fun (r : Nat) => decide ((r : Int) < ((2 ^ 2 ^ n : Nat) : Int)), rfl, SqL.of (hd.trans ?_), ?_⟩
            · rw [List.map_map]
              rfl
            · rw [all_range_lt]
              exact fin sm (ok_all (by omega) e)
        · rw [decide_eq_false (fun z => e (by
            rw [List.length_map] at z
            have z2 := V.int.inj z
            omega))]
          refine iteT ?_
          exact fin (Same.refl H) (ok_len e)
theorem ok_wat {f fP fB : Addr} {fd fdP fdB : FuncData} {k : Nat} {t1 t2 : Tok} (F : Fun K "watching" "watching" sWat f fd) (GP : FnOk P w K mg base CX0 (k + 1) fP fdP ["exponent"] spPow) (kP : PySem.W.keepIn K (.ref fP) = true) (bP : Binds K fdP ["exponent"] []) (gP : mg "power_of_two" = some (.ref fP))
    (GB : FnOk P w K mg base CX0 (k + 2) fB fdB ["number", "place"] spBit) (kB : PySem.W.keepIn K (.ref fB) = true) (bB : Binds K fdB ["number", "place"] []) (gB : mg "bit_at" = some (.ref fB))
    (g1 : mg "LIFTED" = some (.int 1 t1)) (g2 : mg "LOWERED" = some (.int 2 t2)) (mr : mg "range" = none) : FnOk P w K mg base CX0 (k + 3) f fd ["n", "i", "rule"] spWat := by
  refine F.ok scW (fun vs H Q E h => ?_) (fun cdv A outer s H vs Q E hr h => ?_)
  · obtain ⟨n, i, r, rfl, _⟩ := h
    rfl
  · obtain ⟨n, i, r, rfl, hn, hi, q⟩ := h
    have hrP : Room (k + 1) _ := hr.mono (by omega)
    refine ⟨_, pss_cons (ps_set (i := 3) scW.nd rfl (.inl rfl) pe_int)
      (pss_cons (ps_set (i := 4) scW.nd rfl (.inl rfl) pe_int)
      (pss_cons (ps_for PassesOwn.never rfl (pi_range1 (by rfl) mr (pa_cons (pe_call GP hrP (by rfl) gP kP bP .nil pass0 (pa_cons (pv 0) pa_nil)) pa_nil)) (pg_name (i := 5) scW.nd rfl (.inl rfl))
        (pss_one (ps_if (pt_cmpR op_eq (pe_call GB hr (by rfl) gB kB bB .nil pass0 (pa_cons (pv 5) (pa_cons (pv 1) pa_nil))) pe_int (nomark _))
          (pss_cons (ps_set (i := 6) scW.nd rfl (.inl rfl) (pe_call GB hr (by rfl) gB kB bB .nil pass0 (pa_cons (pv 2) (pa_cons (pv 5) pa_nil))))
          (pss_cons (ps_set (i := 7) scW.nd rfl (.inl rfl) (pe_call GB hr (by rfl) gB kB bB .nil pass0 (pa_cons (pv 2) (pa_cons (pe_op op_add (pv 5) (pe_call GP hrP (by rfl) gP kP bP .nil pass0 (pa_cons (pv 1) pa_nil))) pa_nil))))
          (pss_cons (ps_if (pt_cmpR op_lt (pv 6) (pv 7) (nomark _)) (pss_one (ps_set (i := 3) scW.nd rfl (.inl rfl) (pe_glob (v := .int 1) (by rfl) g1 ⟨_, rfl⟩))) pss_nil)
          (pss_one (ps_if (pt_cmpR op_gt (pv 6) (pv 7) (nomark _)) (pss_one (ps_set (i := 4) scW.nd rfl (.inl rfl) (pe_glob (v := .int 2) (by rfl) g2 ⟨_, rfl⟩))) pss_nil))))) pss_nil)))
      (pss_one (ps_ret (pe_op op_add (pv 3) (pv 4)))))), ?_⟩
    have h4 : 2 ^ n ≤ 2 ^ 4 := pow_le hn
    have h3 : 2 ^ i ≤ 2 ^ 3 := pow_le (by omega)
    have z0 : -(2 ^ 62) ≤ ((2 ^ n : Nat) : Int) := Int.le_trans (by decide) (Int.natCast_nonneg _)
    have z4 : ((2 ^ n : Nat) : Int) < 2 ^ 62 := Int.lt_of_le_of_lt (Int.ofNat_le.mpr h4) (by decide)
    refine ⟨_, rfl, n, rfl, by omega, ((2 ^ n : Nat) : Int), rfl, z0, z4, for_range (lo := 0) (n := 2 ^ n)
      (fun k σ H' => ∃ y5 y6 y7, σ = [some (nv n), some (nv i), some (nv r), some (nv (liftN i r k)), some (nv (lowN i r k)), y5, y6, y7] ∧ H' = H) ⟨none, none, none, rfl, rfl⟩ ?_ ?_⟩
    · rintro k σ H' hk ⟨y5, y6, y7, rfl, rfl⟩
      have ek : V.int (0 + (k : Int)) = nv k := by
        unfold nv
        rw [Int.zero_add]
      rw [ek]
      refine ⟨_, rfl, _, rfl, k, i, rfl, by omega, rfl, _, rfl, ite2 (fun c => ?_) (fun c => ?_)⟩
      · have c0 : dig k i = 0 := by
          have z := V.int.inj (of_decide_eq_true c)
          omega
        refine ⟨_, rfl, _, rfl, r, k, rfl, by omega, _, rfl, _, rfl, _, rfl, i, rfl, by omega, (k : Int), ((2 ^ i : Nat) : Int), rfl, rfl, r, k + 2 ^ i, rfl, by omega, ?_⟩
        have eL := liftN_succ i r k
        have eD := lowN_succ i r k
        rw [lift_down c0] at eL
        rw [low_down c0] at eD
        have hc : ∀ {a b : Nat}, (decide ((a : Int) < (b : Int)) = true) ↔ a < b := fun {a b} => by
          rw [decide_eq_true_iff]
          omega
        refine ⟨_, rfl, _, rfl, (dig r k : Int), (dig r (k + 2 ^ i) : Int), rfl, rfl, _, rfl, ite2 (fun c1 => ?_) (fun c1 => ?_)⟩
        · rw [if_pos (decide_eq_true (hc.mp c1))] at eL
          refine ⟨_, rfl, _, rfl, (dig r k : Int), (dig r (k + 2 ^ i) : Int), rfl, rfl, _, rfl, ite2 (fun c2 => ?_) (fun c2 => ?_)⟩
          · have l1 := hc.mp c1
            have l2 := hc.mp c2
            omega
          · rw [if_neg (fun z => c2 (hc.mpr (of_decide_eq_true z)))] at eD
            refine ⟨some (nv k), some (nv (dig r k)), some (nv (dig r (k + 2 ^ i))), ?_, rfl⟩
            rw [eL, eD]
            rfl
        · rw [if_neg (fun z => c1 (hc.mpr (of_decide_eq_true z)))] at eL
          refine ⟨_, rfl, _, rfl, (dig r k : Int), (dig r (k + 2 ^ i) : Int), rfl, rfl, _, rfl, ite2 (fun c2 => ?_) (fun c2 => ?_)⟩
          · rw [if_pos (decide_eq_true (hc.mp c2))] at eD
            refine ⟨some (nv k), some (nv (dig r k)), some (nv (dig r (k + 2 ^ i))), ?_, rfl⟩
            rw [eL, eD]
            rfl
          · rw [if_neg (fun z => c2 (hc.mpr (of_decide_eq_true z)))] at eD
            refine ⟨some (nv k), some (nv (dig r k)), some (nv (dig r (k + 2 ^ i))), ?_, rfl⟩
            rw [eL, eD]
            rfl
      · have c0 : dig k i ≠ 0 := fun z => c (decide_eq_true (by rw [z]; rfl))
        refine ⟨some (nv k), y6, y7, ?_, rfl⟩
        rw [liftN_succ, lowN_succ, lift_up c0, low_up c0]
        rfl
    · rintro σ H' ⟨y5, y6, y7, rfl, rfl⟩
      exact ⟨_, rfl, _, rfl, _, _, rfl, rfl, q⟩
end
end TW
/-! ## The defs: watchings_round, what_can_be -/
namespace TW
open PySem PySem.Spec PyProof.Rows L2
open PySem.W (Codec)
abbrev sRnd : Stmt := top 13
abbrev sCan : Stmt := top 14
theorem scR : FnScope ["n", "t", "l", "found", "place", "watcher"] ["n", "t", "l"] (defScope sRnd) := ⟨rfl, rfl, rfl, by decide +kernel, rfl, by decide +kernel, by decide +kernel⟩
theorem scC : FnScope ["found"] ["found"] (defScope sCan) := ⟨rfl, rfl, rfl, by decide +kernel, rfl, by decide +kernel, by decide +kernel⟩
def spRnd (K : PySem.W.Frag) : Sp := fun vs H Q _ => ∃ (a b : Addr) (n : Nat) (t l : List Nat), vs = [nv n, .ref a, .ref b] ∧ SqL K H a (t.map nv) ∧ SqL K H b (l.map nv) ∧ n ≤ 4 ∧ t.length = n ∧ l.length ≤ 10 ∧ (∀ x ∈ l, x < n) ∧
  ∀ (H' : Hp) (p : Addr), Same H H' → H' p = some (.lst ((roundN n t l).map nv)) → Q (.ref p) H'
def spCan (K : PySem.W.Frag) : Sp := fun vs H Q _ => ∃ (a : Addr) (v : List Nat), vs = [.ref a] ∧ SqL K H a (v.map nv) ∧ Q (nv (canN v)) H
theorem ifT {b : Bool} {A B : Prop} (e : b = true) (h : A) : if b = true then A else B := by
  rw [if_pos e]; exact h
theorem ifF {b : Bool} {A B : Prop} (e : b = false) (h : B) : if b = true then A else B := by
  rw [if_neg (by rw [e]; decide)]; exact h
theorem tiny {n : Nat} (h : n ≤ 1000) : n < sizeLine := Nat.lt_of_le_of_lt h (by decide)
theorem nv_all (v : List Nat) : (v.map nv).all flatV = true := by
  rw [List.all_map, List.all_eq_true]
  exact fun _ _ => rfl
theorem nv_eqV (x k : Nat) : eqV (nv x) (nv k) = (k == x) := by
  rw [Bool.eq_iff_iff, beq_iff_eq]
  show ((x : Int) == (k : Int)) = true ↔ _
  rw [beq_iff_eq]
  omega
theorem nv_in (k : Nat) (v : List Nat) : inV (nv k) (v.map nv) = v.contains k := by
  unfold inV
  rw [List.any_map, List.contains_eq_any_beq]
  congr 1
  funext x
  exact nv_eqV x k
theorem count_up (k : Nat) : ∀ v : List Nat, (up v).count (k : Int) = v.count k
  | [] => rfl
  | a :: v => by
    have ih := count_up k v
    show ((a : Int) :: up v).count (k : Int) = _
    rw [List.count_cons, List.count_cons, ih]
    congr 1
    by_cases e : a = k
    · rw [e]; simp
    · rw [beq_eq_false_iff_ne.mpr e, beq_eq_false_iff_ne.mpr (by omega)]
theorem at_nv {t : List Nat} {j : Nat} (hj : j < t.length) : atI (t.map nv) (j : Int) = some (nv (t.getD j 0)) := by
  refine atI_nat (j := j) ?_
  rw [List.getElem?_map, List.getD_eq_getElem?_getD, List.getElem?_eq_getElem hj]
  rfl
/-- the round so far -/
def roundK (n : Nat) (t l : List Nat) (k : Nat) : List Nat := (List.range k).map fun a => watchN n (l.getD a 0) (t.getD (l.getD ((a + 1) % l.length) 0) 0)
theorem roundK_succ (n : Nat) (t l : List Nat) (k : Nat) : roundK n t l (k + 1) = roundK n t l k ++ [watchN n (l.getD k 0) (t.getD (l.getD ((k + 1) % l.length) 0) 0)] := by
  unfold roundK
  rw [List.range_succ, List.map_append]
  rfl
theorem roundK_len (n : Nat) (t l : List Nat) (k : Nat) : (roundK n t l k).length = k := by
  unfold roundK
  rw [List.length_map, List.length_range]
section
variable {P : Program} {w : World} {K : PySem.W.Frag} {mg : Str → Option Value} {base : Heap}
theorem ok_rnd {f fW : Addr} {fd fdW : FuncData} {k : Nat} (F : Fun K "watchings_round" "watchings_round" sRnd f fd)
    (GW : FnOk P w K mg base CX0 (k + 3) fW fdW ["n", "i", "rule"] spWat) (kW : PySem.W.keepIn K (.ref fW) = true) (bW : Binds K fdW ["n", "i", "rule"] []) (gW : mg "watching" = some (.ref fW))
    (mr : mg "range" = none) (ml : mg "len" = none) : FnOk P w K mg base CX0 (k + 4) f fd ["n", "t", "l"] (spRnd K) := by
  refine F.ok scR (fun vs H Q E h => ?_) (fun cdv A outer s H vs Q E hr h => ?_)
  · obtain ⟨a, b, n, t, l, rfl, _⟩ := h
    rfl
  · obtain ⟨a, b, n, t, l, rfl, hS, hL, hn, ht, hl, hlt, q⟩ := h
    refine ⟨_, pss_cons (ps_set (i := 3) scR.nd rfl (.inl rfl) (pe_lst pa_nil))
      (pss_cons (ps_for PassesOwn.never rfl (pi_range1 (by rfl) mr (pa_cons (pe_callB call_len_seq (by rfl) ml PySem.boot_len (pa_cons (pv 2) pa_nil)) pa_nil)) (pg_name (i := 4) scR.nd rfl (.inl rfl))
        (pss_cons (ps_set (i := 5) scR.nd rfl (.inl rfl) (pe_ix ix_list (pv 2) (pe_op op_mod (pe_op op_add (pv 4) pe_int) (pe_callB call_len_seq (by rfl) ml PySem.boot_len (pa_cons (pv 2) pa_nil))) (fun _ _ => rfl)))
        (pss_one (ps_expr (pe_bm PySem.F.plainAttrs_list PySem.F.slot_list_append PySem.F.type_list_append mt_append (pv 3) (pa_cons (pe_call GW hr (by rfl) gW kW bW .nil pass0 (pa_cons (pv 0) (pa_cons (pe_ix ix_list (pv 2) (pv 4) (fun _ _ => rfl)) (pa_cons (pe_ix ix_list (pv 1) (pv 5) (fun _ _ => rfl)) pa_nil)))) pa_nil))))))
      (pss_one (ps_ret (pv 3)))), ?_⟩
    refine ⟨Nat.zero_le _, fun D hD => ?_⟩
    have s1 : Same H (upd H D (.lst [])) := same_upd hD
    have el : (l.map nv).length = l.length := List.length_map ..
    refine ⟨_, rfl, b, l.map nv, rfl, .inl (s1.seq hL), (l.length : Int), by rw [el], by omega, by omega, for_range (lo := 0) (n := l.length)
      (fun k σ H' => ∃ y4 y5, σ = [some (nv n), some (.ref a), some (.ref b), some (.ref D), y4, y5] ∧ Same H H' ∧ H' D = some (.lst ((roundK n t l k).map nv)))
      ⟨none, none, rfl, s1, upd_same⟩ ?_ ?_⟩
    · rintro k σ H2 hk ⟨y4, y5, rfl, sm, hd⟩
      have ek : V.int (0 + (k : Int)) = nv k := by
        unfold nv
        rw [Int.zero_add]
      rw [ek]
      have hm : (k + 1) % l.length < l.length := Nat.mod_lt _ (by omega)
      have em : ((k : Int) + 1) % ((l.map nv).length : Int) = (((k + 1) % l.length : Nat) : Int) := by
        rw [el]
        rfl
      refine ⟨_, rfl, _, rfl, (k : Int), 1, rfl, rfl, _, rfl, b, l.map nv, rfl, .inl (sm.seq hL), (k : Int) + 1, ((l.map nv).length : Int), rfl, rfl, (by rw [el]; omega), b, l.map nv, ((k : Int) + 1) % ((l.map nv).length : Int), nv (l.getD ((k + 1) % l.length) 0), rfl, rfl, sm.seq hL, (by rw [em]; exact at_nv hm), ?_⟩
      have hw : l.getD ((k + 1) % l.length) 0 < t.length := by rw [ht]; exact getD_lt hlt hm
      refine ⟨_, rfl, .inl ⟨rfl, _, SqL.of hd⟩, _, rfl, _, rfl, _, rfl, b, l.map nv, (k : Int), nv (l.getD k 0), rfl, rfl, sm.seq hL, at_nv hk, _, rfl, _, rfl, a, t.map nv, ((l.getD ((k + 1) % l.length) 0 : Nat) : Int), nv (t.getD (l.getD ((k + 1) % l.length) 0) 0), rfl, rfl, sm.seq hS, at_nv hw, n, l.getD k 0, t.getD (l.getD ((k + 1) % l.length) 0) 0, rfl, hn, getD_lt hlt hk, D, _, _, rfl, rfl, hd, ?_, some (nv k), some (nv (l.getD ((k + 1) % l.length) 0)), rfl, ?_, ?_⟩
      · rw [List.length_map, roundK_len]
        exact tiny (by omega)
      · intro c o ec
        rw [upd_ne (ne_of_none ec hD)]
        exact sm c o ec
      · rw [upd_same, roundK_succ, List.map_append]
        rfl
    · rintro σ H2 ⟨y4, y5, rfl, sm, hd⟩
      exact ⟨_, rfl, q H2 D sm hd⟩
theorem ok_can {f : Addr} {fd : FuncData} {k : Nat} {t1 t2 t3 t4 : Tok} (F : Fun K "what_can_be" "what_can_be" sCan f fd)
    (g1 : mg "LIFTED" = some (.int 1 t1)) (g2 : mg "LOWERED" = some (.int 2 t2)) (g3 : mg "CAN_BE_EVEN" = some (.int 1 t3)) (g4 : mg "CAN_BE_ODD" = some (.int 2 t4)) : FnOk P w K mg base CX0 (k + 1) f fd ["found"] (spCan K) := by
  refine F.ok scC (fun vs H Q E h => ?_) (fun cdv A outer s H vs Q E hr h => ?_)
  · obtain ⟨a, v, rfl, _⟩ := h
    rfl
  · obtain ⟨a, v, rfl, hS, q⟩ := h
    refine ⟨_, pss_cons (ps_if (pt_cmpR op_in_seq (pe_op op_add (pe_glob (v := .int 1) (by rfl) g1 ⟨_, rfl⟩) (pe_glob (v := .int 2) (by rfl) g2 ⟨_, rfl⟩)) (pv 0) (by rfl)) (pss_one (ps_ret (pe_op op_add (pe_glob (v := .int 1) (by rfl) g3 ⟨_, rfl⟩) (pe_glob (v := .int 2) (by rfl) g4 ⟨_, rfl⟩)))) pss_nil)
      (pss_cons (ps_if (pt_cmpR op_eq (pe_op op_mod (pe_bm PySem.F.plainAttrs_list PySem.F.slot_list_count PySem.F.type_list_count mt_lcount (pv 0) (pa_cons (pe_glob (v := .int 2) (by rfl) g2 ⟨_, rfl⟩) pa_nil)) pe_int) pe_int (nomark _)) (pss_one (ps_ret (pe_glob (v := .int 1) (by rfl) g3 ⟨_, rfl⟩))) pss_nil)
      (pss_one (ps_ret (pe_glob (v := .int 2) (by rfl) g4 ⟨_, rfl⟩)))), ?_⟩
    have e3 : inV (.int (1 + 2)) (v.map nv) = v.contains 3 := nv_in 3 v
    refine ⟨1, 2, rfl, rfl, _, rfl, a, v.map nv, rfl, .inl hS, rfl, nv_all v, _, rfl, ?_⟩
    have fin : ∀ {i : Int}, nv (canN v) = .int i → Q (.int i) H := fun e => e ▸ q
    cases c3 : v.contains 3 with
    | true =>
      refine ifT (e3.trans c3) ?_
      refine ⟨1, 2, rfl, rfl, fin ?_⟩
      unfold canN
      rw [c3]
      rfl
    | false =>
      refine ifF (e3.trans c3) ?_
      refine ⟨_, rfl, .inl ⟨rfl, _, hS⟩, a, up v, 2, rfl, rfl, (by rw [nv_map]; exact hS), _, 2, rfl, rfl, (by show (0 : Int) < 2; decide), rfl, _, rfl, ?_⟩
      have ec : (((up v).count 2 : Nat) : Int) % 2 = ((v.count 2 % 2 : Nat) : Int) := by
        rw [show (up v).count 2 = v.count 2 from count_up 2 v]
        rfl
      by_cases e : v.count 2 % 2 = 0
      · refine ifT (decide_eq_true (by
          show V.int ((((up v).count 2 : Nat) : Int) % 2) = V.int 0
          rw [ec, e]
          rfl)) (fin ?_)
        unfold canN
        rw [c3, if_neg (by decide), if_pos e]
        rfl
      · refine ifF (decide_eq_false fun z => e ?_) (fin ?_)
        · have z2 := V.int.inj z
          rw [ec] at z2
          omega
        · unfold canN
          rw [c3, if_neg (by decide), if_neg e]
          rfl
end
end TW
/-! ## ring -/
namespace TW
open PySem PySem.Spec PyProof.Rows L2
open PySem.W (Codec)
abbrev sDif : Stmt := top 12
abbrev sRing : Stmt := top 15
theorem scD : FnScope ["n", "l", "tower"] ["n", "l"] (defScope sDif) := ⟨rfl, rfl, rfl, by decide +kernel, rfl, by decide +kernel, by decide +kernel⟩
theorem scG : FnScope ["n", "t", "l", "found"] ["n", "t", "l"] (defScope sRing) := ⟨rfl, rfl, rfl, by decide +kernel, rfl, by decide +kernel, by decide +kernel⟩
def spDif (K : PySem.W.Frag) : Sp := fun vs H Q _ => ∃ (a : Addr) (n : Nat) (l : List Nat), vs = [nv n, .ref a] ∧ SqL K H a (l.map nv) ∧ l.length ≤ 10 ∧ ∀ H', Same H H' → Q (.bl (diffN n l)) H'
def spRing (K : PySem.W.Frag) : Sp := fun vs H Q _ => ∃ (a b : Addr) (n : Nat) (t l : List Nat), vs = [nv n, .ref a, .ref b] ∧ SqL K H a (t.map nv) ∧ SqL K H b (l.map nv) ∧ t.length ≤ 10 ∧ l.length ≤ 10 ∧
  ∀ (H' : Hp) (p : Addr), H' p = some (.lst ((PyKzk2.ring (n : Int) (up t) (up l)).map V.int)) → Q (.ref p) H'
/-- one tower is one that there is, and there once -/
def oneN (n : Nat) (l : List Nat) (x : Nat) : Bool := decide (x < n) && decide (l.count x = 1)
theorem diff_nil (n : Nat) : diffN n [] = false := rfl
theorem diff_all {n : Nat} {l : List Nat} (h : l.length ≠ 0) : diffN n l = (l.map (oneN n l)).all id := by
  unfold diffN
  cases l with
  | nil => exact absurd rfl h
  | cons a l => rw [List.all_map]; rfl
section
variable {P : Program} {w : World} {K : PySem.W.Frag} {mg : Str → Option Value} {base : Heap}
theorem ok_dif {f : Addr} {fd : FuncData} {k : Nat} (F : Fun K "are_different_towers" "are_different_towers" sDif f fd) (ml : mg "len" = none) (ma : mg "all" = none) : FnOk P w K mg base CX0 (k + 1) f fd ["n", "l"] (spDif K) := by
  refine F.ok scD (fun vs H Q E h => ?_) (fun cdv A outer s H vs Q E hr h => ?_)
  · obtain ⟨a, n, l, rfl, _⟩ := h
    rfl
  · obtain ⟨a, n, l, rfl, hS, hl, q⟩ := h
    refine ⟨_, pss_cons (ps_if (pt_cmpR op_eq (pe_callB call_len_seq (by rfl) ml PySem.boot_len (pa_cons (pv 1) pa_nil)) pe_int (nomark _)) (pss_one (ps_ret pe_bl)) pss_nil)
      (pss_one (ps_ret (pe_callB (cr_all rfl) (by rfl) ma (by decide +kernel) (pa_cons (pe_lc (own := [("tower", 2)]) (g := gName 2) (tt := tYes) (te := tAndV (tOp (rI0 fun i j => V.bl (decide (i < j))) (tVar 2) (tVar 0)) (tOp rEq (tBM K "list" (rCntI K) (tVar 1) (tCons (tVar 2) tNil)) (tC (.int 1)))) rfl scD.nd (pi_list (pv 1)) (blkOk_by (own := [("tower", 2)]) (N := ["n", "l", "tower"]) (sc := defScope sDif) (by decide +kernel)) (fun _ _ _ _ _ => pg_name (i := 2) scD.nd rfl (Or.inl rfl)) (fun _ _ _ _ _ => pts_nil)
        (fun _ _ _ _ _ => pe_and (pe_cmpR op_lt (pv 2) (pv 0) (nomark _)) (pe_one (pe_cmpR op_eq (pe_bm PySem.F.plainAttrs_list PySem.F.slot_list_count PySem.F.type_list_count mt_lcount (pv 1) (pa_cons (pv 2) pa_nil)) pe_int (nomark _))))) pa_nil)))), ?_⟩
    have fin : ∀ {b : Bool} {H' : Hp}, Same H H' → diffN n l = b → Q (.bl b) H' := fun s e => e ▸ q _ s
    refine ⟨.ref a, rfl, a, l.map nv, rfl, .inl hS, rfl, _, rfl, ?_⟩
    by_cases e : l.length = 0
    · refine ifT (decide_eq_true (by rw [List.length_map, e]; rfl)) ?_
      rw [List.length_eq_zero_iff] at e
      subst e
      exact fin (Same.refl H) rfl
    · refine ifF (decide_eq_false fun z => e ?_) ?_
      · rw [List.length_map] at z
        have z2 := V.int.inj z
        omega
      · refine ⟨.ref a, rfl, a, rfl, ⟨_, hS⟩, fun D hD => lc_list (K := K) (a := a) (xs := l.map nv)
            (fun i H' => Same H H' ∧ H' D = some (.lst ((l.take i).map fun (r : Nat) => V.bl (oneN n l r)))) ⟨same_upd hD, upd_same⟩ (fun i H' _ h => h.1.seq hS) ?_ ?_⟩
        · rintro i x H' hx ⟨sm, hd⟩
          obtain ⟨r, hr1, rfl⟩ := get_nv hx
          have nx : ∀ {b : Bool}, oneN n l r = b → ∃ acc, H' D = some (.lst acc) ∧ acc.length < sizeLine ∧ (Same H (upd H' D (.lst (acc ++ [V.bl b]))) ∧ upd H' D (.lst (acc ++ [V.bl b])) D = some (.lst ((l.take (i + 1)).map fun (r : Nat) => V.bl (oneN n l r)))) := by
            intro b eb
            refine ⟨_, hd, ?_, ?_, ?_⟩
            · rw [List.length_map, List.length_take]
              exact tiny (by omega)
            · intro c o ec
              rw [upd_ne (ne_of_none ec hD)]
              exact sm c o ec
            · rw [upd_same, take_more _ hr1, eb]
          refine ⟨rfl, _, rfl, _, rfl, _, _, rfl, rfl, _, rfl, ?_⟩
          by_cases e1 : r < n
          · refine ifT (decide_eq_true (by show (r : Int) < (n : Int); omega)) ?_
            refine ⟨_, rfl, .inl ⟨rfl, _, sm.seq hS⟩, _, rfl, a, up l, (r : Int), rfl, rfl, (by rw [nv_map]; exact sm.seq hS), rfl, nx ?_⟩
            unfold oneN
            rw [decide_eq_true e1, count_up, Bool.true_and]
            exact decide_eq_decide.mpr ⟨fun z => by rw [z]; rfl, fun z => by have z2 := V.int.inj z; omega⟩
          · refine ifF (decide_eq_false (by show ¬ (r : Int) < (n : Int); omega)) (nx ?_)
            unfold oneN
            rw [decide_eq_false e1]
            rfl
        · rintro H' ⟨sm, hd⟩
          rw [List.length_map, List.take_length] at hd
          refine ⟨D, l.map (oneN n l), rfl, SqL.of (hd.trans ?_), fin sm (diff_all e)⟩
          rw [List.map_map]
          rfl
theorem ok_ring {f fF fD fR fC : Addr} {fd fdF fdD fdR fdC : FuncData} {k : Nat} {t1 t2 : Tok} (F : Fun K "ring" "ring" sRing f fd)
    (GF : FnOk P w K mg base CX0 (k + 2) fF fdF ["n", "t"] (spFits K)) (kF : PySem.W.keepIn K (.ref fF) = true) (bF : Binds K fdF ["n", "t"] []) (gF : mg "fits" = some (.ref fF))
    (GD : FnOk P w K mg base CX0 (k + 1) fD fdD ["n", "l"] (spDif K)) (kD : PySem.W.keepIn K (.ref fD) = true) (bD : Binds K fdD ["n", "l"] []) (gD : mg "are_different_towers" = some (.ref fD))
    (GR : FnOk P w K mg base CX0 (k + 4) fR fdR ["n", "t", "l"] (spRnd K)) (kR : PySem.W.keepIn K (.ref fR) = true) (bR : Binds K fdR ["n", "t", "l"] []) (gR : mg "watchings_round" = some (.ref fR))
    (GC : FnOk P w K mg base CX0 (k + 1) fC fdC ["found"] (spCan K)) (kC : PySem.W.keepIn K (.ref fC) = true) (bC : Binds K fdC ["found"] []) (gC : mg "what_can_be" = some (.ref fC))
    (g1 : mg "DOES_NOT_FIT" = some (.int (-22) t1)) (g2 : mg "NOT_WATCHED" = some (.int (-6) t2)) : FnOk P w K mg base CX0 (k + 5) f fd ["n", "t", "l"] (spRing K) := by
  refine F.ok scG (fun vs H Q E h => ?_) (fun cdv A outer s H vs Q E hr h => ?_)
  · obtain ⟨a, b, n, t, l, rfl, _⟩ := h
    rfl
  · obtain ⟨a, b, n, t, l, rfl, hS, hL, ht, hl, q⟩ := h
    have hrF : Room (k + 2) _ := hr.mono (by omega)
    have hr1 : Room (k + 1) _ := hr.mono (by omega)
    refine ⟨_, pss_cons (ps_if (PW.pt (pw_or (pt_not (pt_val (pe_call GF hrF (by rfl) gF kF bF .nil pass0 (pa_cons (pv 0) (pa_cons (pv 1) pa_nil))))) (pw_or1 (pt_not (pt_val (pe_call GD hr1 (by rfl) gD kD bD .nil pass0 (pa_cons (pv 0) (pa_cons (pv 2) pa_nil)))))))) (pss_one (ps_ret (pe_lst (pa_cons (pe_glob (v := .int (-22)) (by rfl) g1 ⟨_, rfl⟩) pa_nil)))) pss_nil)
      (pss_cons (ps_set (i := 3) scG.nd rfl (.inl rfl) (pe_call GR hr (by rfl) gR kR bR .nil pass0 (pa_cons (pv 0) (pa_cons (pv 1) (pa_cons (pv 2) pa_nil)))))
      (pss_cons (ps_if (pt_cmpR op_in_seq pe_int (pv 3) (by rfl)) (pss_one (ps_ret (pe_lst (pa_cons (pe_glob (v := .int (-6)) (by rfl) g2 ⟨_, rfl⟩) pa_nil)))) pss_nil)
      (pss_one (ps_ret (pe_lst (pa_cons (pe_call GC hr1 (by rfl) gC kC bC .nil pass0 (pa_cons (pv 3) pa_nil)) pa_nil)))))), ?_⟩
    have fin : ∀ {l' : List V} {p : Addr} {H' : Hp}, (PyKzk2.ring (n : Int) (up t) (up l)).map V.int = l' → Q (.ref p) (upd H' p (.lst l')) := fun {l' p H'} e => q _ p (by rw [upd_same, e])
    refine ⟨_, rfl, _, rfl, a, n, t, rfl, hS, ht, fun H1 s1 => ⟨_, rfl, ?_⟩⟩
    cases ok : Kzk1.okTowers n t with
    | false =>
      refine iteT ?_
      exact ⟨(by show 1 ≤ sizeLine; decide), fun p _ => fin (by rw [ring_22 (.inl ok)]; rfl)⟩
    | true =>
      refine iteF ?_
      obtain ⟨o1, o2, o3⟩ := ok_iff ok
      refine ⟨_, rfl, _, rfl, b, n, l, rfl, s1.seq hL, hl, fun H2 s2 => ⟨_, rfl, ?_⟩⟩
      have s3 := s1.trans s2
      cases od : diffN n l with
      | false =>
        refine iteT ?_
        exact ⟨(by show 1 ≤ sizeLine; decide), fun p _ => fin (by rw [ring_22 (.inr ((diff_eq n l).symm.trans od))]; rfl)⟩
      | true =>
        refine iteF ?_
        have or_ : Kzk2.okRing n l = true := (diff_eq n l).symm.trans od
        have lt := okRing_iff or_
        refine ⟨_, rfl, _, rfl, _, rfl, a, b, n, t, l, rfl, s3.seq hS, s3.seq hL, o2, o3, hl, lt, fun H3 p s4 hp => ?_⟩
        refine ⟨_, rfl, p, _, rfl, .inl (SqL.of hp), rfl, nv_all _, _, rfl, ?_⟩
        have e0 : inV (.int 0) ((roundN n t l).map nv) = (roundN n t l).contains 0 := nv_in 0 _
        have es := steps_eq t lt
        cases c0 : (roundN n t l).contains 0 with
        | true =>
          refine ifT (e0.trans c0) ?_
          exact ⟨(by show 1 ≤ sizeLine; decide), fun p _ => fin (by rw [ring_6 ok or_ (by rw [es]; exact c0)]; rfl)⟩
        | false =>
          refine ifF (e0.trans c0) ?_
          refine ⟨_, rfl, p, _, rfl, SqL.of hp, (by show 1 ≤ sizeLine; decide), fun p _ => fin ?_⟩
          rw [ring_ok ok or_ (by rw [es]; exact c0), es, can_ring (round_le n t l) c0]
          rfl
end
end TW
/-! ## The end: what the top has written -/
namespace TW
open PySem PySem.Spec PyProof.Rows L2
open PySem.W (Codec)
theorem all_mk {P : Program} {w : World} {K : PySem.W.Frag} {h : Heap} {mg : Str → Option Value} {fa f0 f1 f2 f3 f4 f5 f6 f7 : Addr} (X : K.In h) (G : h.Ns mainGlobals mg) (hfa : mg "ring" = some (.ref fa))
    {od0 an0 od1 an1 od2 an2 od3 an3 od4 an4 od5 an5 od6 an6 od7 an7 : Option Addr} {sl0 sl1 sl2 sl3 sl4 sl5 sl6 sl7 : Array (Option Value)} {oc0 kV0 dc0 pm0 cd0 ct0 oc1 kV1 dc1 pm1 cd1 ct1 oc2 kV2 dc2 pm2 cd2 ct2 oc3 kV3 dc3 pm3 cd3 ct3 oc4 kV4 dc4 pm4 cd4 ct4 oc5 kV5 dc5 pm5 cd5 ct5 oc6 kV6 dc6 pm6 cd6 ct6 oc7 kV7 dc7 pm7 cd7 ct7 : Value}
    {tk0 tk1 tk2 tk3 tk4 tk5 tk6 : Tok}
    (a0 : PySem.W.nsIn K mainGlobals "power_of_two" = some (some (.ref f0))) (l0 : K.lookup f0 = some ⟨oc0, od0, .func (PySem.W.fnOf "power_of_two" "power_of_two" (defArgs sPow) (defBody sPow) (defScope sPow) .none kV0 dc0 pm0 an0 cd0 ct0), sl0⟩) (c0 : PySem.W.codeIn K cd0 "power_of_two" = true) (k0 : PySem.W.keepIn K (.ref f0) = true)
    (a1 : PySem.W.nsIn K mainGlobals "bit_at" = some (some (.ref f1))) (l1 : K.lookup f1 = some ⟨oc1, od1, .func (PySem.W.fnOf "bit_at" "bit_at" (defArgs sBit) (defBody sBit) (defScope sBit) .none kV1 dc1 pm1 an1 cd1 ct1), sl1⟩) (c1 : PySem.W.codeIn K cd1 "bit_at" = true) (k1 : PySem.W.keepIn K (.ref f1) = true)
    (a2 : PySem.W.nsIn K mainGlobals "fits" = some (some (.ref f2))) (l2 : K.lookup f2 = some ⟨oc2, od2, .func (PySem.W.fnOf "fits" "fits" (defArgs sFits) (defBody sFits) (defScope sFits) .none kV2 dc2 pm2 an2 cd2 ct2), sl2⟩) (c2 : PySem.W.codeIn K cd2 "fits" = true) (k2 : PySem.W.keepIn K (.ref f2) = true)
    (a3 : PySem.W.nsIn K mainGlobals "watching" = some (some (.ref f3))) (l3 : K.lookup f3 = some ⟨oc3, od3, .func (PySem.W.fnOf "watching" "watching" (defArgs sWat) (defBody sWat) (defScope sWat) .none kV3 dc3 pm3 an3 cd3 ct3), sl3⟩) (c3 : PySem.W.codeIn K cd3 "watching" = true) (k3 : PySem.W.keepIn K (.ref f3) = true)
    (a4 : PySem.W.nsIn K mainGlobals "are_different_towers" = some (some (.ref f4))) (l4 : K.lookup f4 = some ⟨oc4, od4, .func (PySem.W.fnOf "are_different_towers" "are_different_towers" (defArgs sDif) (defBody sDif) (defScope sDif) .none kV4 dc4 pm4 an4 cd4 ct4), sl4⟩) (c4 : PySem.W.codeIn K cd4 "are_different_towers" = true) (k4 : PySem.W.keepIn K (.ref f4) = true)
    (a5 : PySem.W.nsIn K mainGlobals "watchings_round" = some (some (.ref f5))) (l5 : K.lookup f5 = some ⟨oc5, od5, .func (PySem.W.fnOf "watchings_round" "watchings_round" (defArgs sRnd) (defBody sRnd) (defScope sRnd) .none kV5 dc5 pm5 an5 cd5 ct5), sl5⟩) (c5 : PySem.W.codeIn K cd5 "watchings_round" = true) (k5 : PySem.W.keepIn K (.ref f5) = true)
    (a6 : PySem.W.nsIn K mainGlobals "what_can_be" = some (some (.ref f6))) (l6 : K.lookup f6 = some ⟨oc6, od6, .func (PySem.W.fnOf "what_can_be" "what_can_be" (defArgs sCan) (defBody sCan) (defScope sCan) .none kV6 dc6 pm6 an6 cd6 ct6), sl6⟩) (c6 : PySem.W.codeIn K cd6 "what_can_be" = true) (k6 : PySem.W.keepIn K (.ref f6) = true)
    (a7 : PySem.W.nsIn K mainGlobals "ring" = some (some (.ref f7))) (l7 : K.lookup f7 = some ⟨oc7, od7, .func (PySem.W.fnOf "ring" "ring" (defArgs sRing) (defBody sRing) (defScope sRing) .none kV7 dc7 pm7 an7 cd7 ct7), sl7⟩) (c7 : PySem.W.codeIn K cd7 "ring" = true) (k7 : PySem.W.keepIn K (.ref f7) = true)
    (gc0 : PySem.W.nsIn K mainGlobals "MOST_TOWERS" = some (some (.int (4) tk0)))
    (gc1 : PySem.W.nsIn K mainGlobals "LIFTED" = some (some (.int (1) tk1)))
    (gc2 : PySem.W.nsIn K mainGlobals "LOWERED" = some (some (.int (2) tk2)))
    (gc3 : PySem.W.nsIn K mainGlobals "DOES_NOT_FIT" = some (some (.int (-22) tk3)))
    (gc4 : PySem.W.nsIn K mainGlobals "NOT_WATCHED" = some (some (.int (-6) tk4)))
    (gc5 : PySem.W.nsIn K mainGlobals "CAN_BE_EVEN" = some (some (.int (1) tk5)))
    (gc6 : PySem.W.nsIn K mainGlobals "CAN_BE_ODD" = some (some (.int (2) tk6)))
    (z0 : PySem.W.nsIn K mainGlobals "range" = some none)
    (z1 : PySem.W.nsIn K mainGlobals "len" = some none)
    (z2 : PySem.W.nsIn K mainGlobals "all" = some none)
    : ∃ fd : FuncData, (∀ (s : Shared) (us : List Value), us.length = (["n", "t", "l"] : List Str).length → BindsTo s fd ⟨us, []⟩ ((["n", "t", "l"] : List Str).zip us)) ∧ ∀ base : Heap, K.In base → base.Ns mainGlobals mg → FnOk P w K mg base CX0 5 fa fd ["n", "t", "l"] (spRing K) := by
  have e := hfa.symm.trans (PySem.W.mg_of X G a7)
  cases e
  have F0 := fun_mk (st := sPow) l0 c0 k0
  have b0 := F0.binds (ps := ["exponent"]) fun _ _ _ _ _ _ us hl => match us, hl with | [_], _ => rfl
  have m0 := PySem.W.mg_of X G a0
  have F1 := fun_mk (st := sBit) l1 c1 k1
  have b1 := F1.binds (ps := ["number", "place"]) fun _ _ _ _ _ _ us hl => match us, hl with | [_, _], _ => rfl
  have m1 := PySem.W.mg_of X G a1
  have F2 := fun_mk (st := sFits) l2 c2 k2
  have b2 := F2.binds (ps := ["n", "t"]) fun _ _ _ _ _ _ us hl => match us, hl with | [_, _], _ => rfl
  have m2 := PySem.W.mg_of X G a2
  have F3 := fun_mk (st := sWat) l3 c3 k3
  have b3 := F3.binds (ps := ["n", "i", "rule"]) fun _ _ _ _ _ _ us hl => match us, hl with | [_, _, _], _ => rfl
  have m3 := PySem.W.mg_of X G a3
  have F4 := fun_mk (st := sDif) l4 c4 k4
  have b4 := F4.binds (ps := ["n", "l"]) fun _ _ _ _ _ _ us hl => match us, hl with | [_, _], _ => rfl
  have m4 := PySem.W.mg_of X G a4
  have F5 := fun_mk (st := sRnd) l5 c5 k5
  have b5 := F5.binds (ps := ["n", "t", "l"]) fun _ _ _ _ _ _ us hl => match us, hl with | [_, _, _], _ => rfl
  have m5 := PySem.W.mg_of X G a5
  have F6 := fun_mk (st := sCan) l6 c6 k6
  have b6 := F6.binds (ps := ["found"]) fun _ _ _ _ _ _ us hl => match us, hl with | [_], _ => rfl
  have m6 := PySem.W.mg_of X G a6
  have F7 := fun_mk (st := sRing) l7 c7 k7
  have mc0 := PySem.W.mg_of X G gc0
  have mc1 := PySem.W.mg_of X G gc1
  have mc2 := PySem.W.mg_of X G gc2
  have mc3 := PySem.W.mg_of X G gc3
  have mc4 := PySem.W.mg_of X G gc4
  have mc5 := PySem.W.mg_of X G gc5
  have mc6 := PySem.W.mg_of X G gc6
  have mz0 := PySem.W.mg_none_of X G z0
  have mz1 := PySem.W.mg_none_of X G z1
  have mz2 := PySem.W.mg_none_of X G z2
  refine ⟨PySem.W.fnOf "ring" "ring" (defArgs sRing) (defBody sRing) (defScope sRing) .none kV7 dc7 pm7 an7 cd7 ct7, fun s us hu => match us, hu with | [_, _, _], _ => .of_eq rfl, fun base _ _ => ?_⟩
  have GP : FnOk P w K mg base CX0 1 _ _ ["exponent"] spPow := ok_pow F0 mz0
  have GB : FnOk P w K mg base CX0 2 _ _ ["number", "place"] spBit := ok_bit (k := 0) F1 GP k0 b0 m0
  have GF : FnOk P w K mg base CX0 2 _ _ ["n", "t"] (spFits K) := ok_fits (k := 0) F2 GP k0 b0 m0 mc0 mz1 mz2
  have GW : FnOk P w K mg base CX0 3 _ _ ["n", "i", "rule"] spWat := ok_wat (k := 0) F3 GP k0 b0 m0 GB k1 b1 m1 mc1 mc2 mz0
  have GD : FnOk P w K mg base CX0 1 _ _ ["n", "l"] (spDif K) := ok_dif F4 mz1 mz2
  have GR : FnOk P w K mg base CX0 4 _ _ ["n", "t", "l"] (spRnd K) := ok_rnd (k := 0) F5 GW k3 b3 m3 mz0 mz1
  have GC : FnOk P w K mg base CX0 1 _ _ ["found"] (spCan K) := ok_can F6 mc1 mc2 mc5 mc6
  exact ok_ring (k := 0) F7 GF k2 b2 m2 GD k4 b4 m4 GR k5 b5 m5 GC k6 b6 m6 mc3 mc4
end TW
open PySem PySem.W PyProof.Rows
set_option maxRecDepth 100000 in
set_option maxHeartbeats 8000000 in
theorem PySem.Challenge.cw_towerwatch_s03_ring_holds : PySem.Challenge.rw_towerwatch_s03_ring.Holds := by
  w_on; k_headS; (case hw => exact ⟨[.int 0, .list [], .list []], by decide +kernel, by decide +kernel⟩)
  k_fillS
  refine L2.walk_specK (r := PySem.Challenge.rw_towerwatch_s03_ring) (k := 5) (CX := L2.CX0) (ps := ["n", "t", "l"]) (sp := TW.spRing) (by decide +kernel) rfl rfl ⟨rfl, by decide, by decide⟩ (fun w h Y => PySem.W.kIn_of Y) ?F ?S (fun _ _ _ _ z => z)
  case F =>
    intro w mg fa h Y KX G hmg
    refine' TW.all_mk KX G hmg ?a0 ?l0 ?c0 ?k0 ?a1 ?l1 ?c1 ?k1 ?a2 ?l2 ?c2 ?k2 ?a3 ?l3 ?c3 ?k3 ?a4 ?l4 ?c4 ?k4 ?a5 ?l5 ?c5 ?k5 ?a6 ?l6 ?c6 ?k6 ?a7 ?l7 ?c7 ?k7 ?gc0 ?gc1 ?gc2 ?gc3 ?gc4 ?gc5 ?gc6 ?z0 ?z1 ?z2
    (case a0 => k_is)
    (case l0 => k_is)
    (case c0 => k_is)
    (case k0 => k_is)
    (case a1 => k_is)
    (case l1 => k_is)
    (case c1 => k_is)
    (case k1 => k_is)
    (case a2 => k_is)
    (case l2 => k_is)
    (case c2 => k_is)
    (case k2 => k_is)
    (case a3 => k_is)
    (case l3 => k_is)
    (case c3 => k_is)
    (case k3 => k_is)
    (case a4 => k_is)
    (case l4 => k_is)
    (case c4 => k_is)
    (case k4 => k_is)
    (case a5 => k_is)
    (case l5 => k_is)
    (case c5 => k_is)
    (case k5 => k_is)
    (case a6 => k_is)
    (case l6 => k_is)
    (case c6 => k_is)
    (case k6 => k_is)
    (case a7 => k_is)
    (case l7 => k_is)
    (case c7 => k_is)
    (case k7 => k_is)
    (case gc0 => k_is)
    (case gc1 => k_is)
    (case gc2 => k_is)
    (case gc3 => k_is)
    (case gc4 => k_is)
    (case gc5 => k_is)
    (case gc6 => k_is)
    (case z0 => k_is)
    (case z1 => k_is)
    (case z2 => k_is)
  case S =>
    intro K H xs a hO hwi hask hx
    obtain ⟨n, t, l, u⟩ := a
    cases hx with
    | cons h1 h2 =>
    cases h2 with
    | cons h2 h3 =>
    cases h3 with
    | cons h3 h4 =>
    cases h4
    cases h1
    cases h2 with
    | lst hs ha =>
    cases h3 with
    | lst hs2 hb =>
      have e := L2.ints_dw t _ ha
      subst e
      have e2 := L2.ints_dw l _ hb
      subst e2
      have q : (Codec.inInt 0 4294967295 n && ((Codec.inLen 0 10 t && t.all (Codec.inInt 0 65535)) && ((Codec.inLen 0 10 l && l.all (Codec.inInt 0 65535)) && true))) = true := hwi
      simp only [Bool.and_eq_true] at q
      obtain ⟨q1, ⟨q4, q5⟩, ⟨q6, q7⟩, _⟩ := q
      obtain ⟨n, rfl⟩ := Int.eq_ofNat_of_zero_le (Codec.inInt_iff.mp q1).1
      obtain ⟨t, rfl⟩ := TW.nats_of fun x hx => (Codec.inInt_iff.mp (List.all_eq_true.mp q5 x hx)).1
      obtain ⟨l, rfl⟩ := TW.nats_of fun x hx => (Codec.inInt_iff.mp (List.all_eq_true.mp q7 x hx)).1
      rw [TW.nv_map] at hs hs2
      have hl := (Codec.inNat_iff.mp q4).2
      rw [show (TW.up t).length = t.length from List.length_map ..] at hl
      have hl2 := (Codec.inNat_iff.mp q6).2
      rw [show (TW.up l).length = l.length from List.length_map ..] at hl2
      exact ⟨_, _, n, t, l, rfl, hs, hs2, hl, hl2, fun H' p hp => .lst (L2.SqL.of hp) (L2.dw_ints _)⟩
#print axioms PySem.Challenge.cw_towerwatch_s03_ring_holds
