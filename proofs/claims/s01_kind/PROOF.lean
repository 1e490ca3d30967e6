import PyProof.Rows.All
import Wide.All
import OpenK.AllK
import Wide.FinOn
import Open.SpecLaws
import KE.OsGo
import HandS.Base
import HandS.Call
import HandS.List
import HandS.Comp
import HandS.Ends
import HandS.Spec
import HandS.Words
import HandS.SetFor
import PySem.Challenge.RW_towerwatch_s01_kind
set_option Elab.async false
set_option maxRecDepth 100000
set_option maxHeartbeats 2000000
/-! ## The mathematics: one rule, watched tower by tower -/
namespace TW
/-- what is looked at in a state: the flag of i down, the rule down and up -/
def liftAt (i r s : Nat) : Bool := !Kzk1.bit s i && !Kzk1.bit r s && Kzk1.bit r (s + 2 ^ i)
def lowAt (i r s : Nat) : Bool := !Kzk1.bit s i && Kzk1.bit r s && !Kzk1.bit r (s + 2 ^ i)
def liftN (i r k : Nat) : Nat := if (List.range k).any (liftAt i r) then 1 else 0
def lowN (i r k : Nat) : Nat := if (List.range k).any (lowAt i r) then 2 else 0
def watchN (n i r : Nat) : Nat := liftN i r (2 ^ n) + lowN i r (2 ^ n)
theorem kind_eq (n : Nat) (t : List Nat) (i j : Nat) : Kzk2.kind n t i j = watchN n i (t.getD j 0) := rfl
/-- a place's digit -/
def dig (a p : Nat) : Nat := a / 2 ^ p % 2
theorem dig_lt (a p : Nat) : dig a p < 2 := Nat.mod_lt _ (by omega)
theorem bit_eq (a p : Nat) : Kzk1.bit a p = (dig a p == 1) := rfl
theorem dig_two (a p : Nat) : dig a p = 0 ∨ dig a p = 1 := by
  have := dig_lt a p
  omega
theorem any_succ (k : Nat) (f : Nat → Bool) : (List.range (k + 1)).any f = ((List.range k).any f || f k) := by
  rw [List.range_succ, List.any_append]
  simp
theorem liftN_succ (i r k : Nat) : liftN i r (k + 1) = if liftAt i r k then 1 else liftN i r k := by
  unfold liftN
  rw [any_succ]
  cases (List.range k).any (liftAt i r) <;> cases liftAt i r k <;> rfl
theorem lowN_succ (i r k : Nat) : lowN i r (k + 1) = if lowAt i r k then 2 else lowN i r k := by
  unfold lowN
  rw [any_succ]
  cases (List.range k).any (lowAt i r) <;> cases lowAt i r k <;> rfl
theorem lift_up {i r k : Nat} (h : dig k i ≠ 0) : liftAt i r k = false := by
  unfold liftAt
  rw [bit_eq, (dig_two k i).resolve_left h]
  rfl
theorem low_up {i r k : Nat} (h : dig k i ≠ 0) : lowAt i r k = false := by
  unfold lowAt
  rw [bit_eq, (dig_two k i).resolve_left h]
  rfl
theorem lift_down {i r k : Nat} (h : dig k i = 0) : liftAt i r k = decide (dig r k < dig r (k + 2 ^ i)) := by
  unfold liftAt
  rw [bit_eq, bit_eq, bit_eq, h]
  rcases dig_two r k with e1 | e1 <;> rcases dig_two r (k + 2 ^ i) with e2 | e2 <;> rw [e1, e2] <;> rfl
theorem low_down {i r k : Nat} (h : dig k i = 0) : lowAt i r k = decide (dig r (k + 2 ^ i) < dig r k) := by
  unfold lowAt
  rw [bit_eq, bit_eq, bit_eq, h]
  rcases dig_two r k with e1 | e1 <;> rcases dig_two r (k + 2 ^ i) with e2 | e2 <;> rw [e1, e2] <;> rfl
/-- n and t as they are handed in -/
theorem ok_n {n : Nat} {t : List Nat} (h : n < 1 ∨ 4 < n) : Kzk1.okTowers n t = false := by
  unfold Kzk1.okTowers
  have : (decide (1 ≤ n) && decide (n ≤ 4)) = false := by
    rw [Bool.and_eq_false_iff, decide_eq_false_iff_not, decide_eq_false_iff_not]; omega
  rw [this]; rfl
theorem ok_len {n : Nat} {t : List Nat} (h : t.length ≠ n) : Kzk1.okTowers n t = false := by
  unfold Kzk1.okTowers
  rw [beq_eq_false_iff_ne.mpr h, Bool.and_false]; rfl
theorem ok_all {n : Nat} {t : List Nat} (h : ¬ (n < 1 ∨ 4 < n)) (hl : t.length = n) : Kzk1.okTowers n t = t.all fun r => decide (r < 2 ^ 2 ^ n) := by
  unfold Kzk1.okTowers
  have : (decide (1 ≤ n) && decide (n ≤ 4)) = true := by
    rw [Bool.and_eq_true, decide_eq_true_iff, decide_eq_true_iff]; omega
  rw [this, beq_iff_eq.mpr hl]; rfl
theorem ok_iff {n : Nat} {t : List Nat} (h : Kzk1.okTowers n t = true) : 1 ≤ n ∧ n ≤ 4 ∧ t.length = n := by
  unfold Kzk1.okTowers at h
  simp only [Bool.and_eq_true, beq_iff_eq, decide_eq_true_eq] at h
  exact ⟨h.1.1.1, h.1.1.2, h.1.2⟩
/-- whole numbers from nought -/
def up (l : List Nat) : List Int := l.map fun (x : Nat) => (x : Int)
theorem nats_of : ∀ {l : List Int}, (∀ x ∈ l, 0 ≤ x) → ∃ m : List Nat, l = up m
  | [], _ => ⟨[], rfl⟩
  | a :: r, h => by
    obtain ⟨m, e⟩ := nats_of (l := r) fun x hx => h x (List.mem_cons_of_mem _ hx)
    obtain ⟨k, hk⟩ := Int.eq_ofNat_of_zero_le (h a List.mem_cons_self)
    exact ⟨k :: m, by rw [e, hk]; rfl⟩
theorem natsOf_up (m : List Nat) : Kzk2Neutral.natsOf (up m) = m := by
  unfold Kzk2Neutral.natsOf up
  rw [List.map_map]
  have : (Int.toNat ∘ fun (x : Nat) => (x : Int)) = id := by funext x; rfl
  rw [this, List.map_id]
theorem all_range_lt (l : List Nat) (k : Nat) : (l.map fun (x : Nat) => decide ((x : Int) < (k : Int))).all id = l.all fun r => decide (r < k) := by
  rw [List.all_map]
  congr 1
  funext x
  exact decide_eq_decide.mpr (by omega)
theorem pow_le {a b : Nat} (h : a ≤ b) : 2 ^ a ≤ 2 ^ b := Nat.pow_le_pow_right (by omega) h
end TW
namespace TW
theorem kind_due (n i j : Nat) (t : List Nat) : PyKzk2.kind (n : Int) (i : Int) (j : Int) (up t) = (Kzk2.answer (.kind n i j t)).value :: Kzk2Neutral.ints (Kzk2.answer (.kind n i j t)).nums := by
  have h : Kzk2Neutral.callOf [[0, (n : Int), (i : Int), (j : Int)], up t] = some (Kzk2.Call.kind n i j (Kzk2Neutral.natsOf (up t))) := rfl
  rw [natsOf_up] at h
  unfold PyKzk2.kind Kzk2Neutral.f
  rw [h]
theorem kind_22 {n i j : Nat} {t : List Nat} (h : Kzk1.okTowers n t = false) : PyKzk2.kind (n : Int) (i : Int) (j : Int) (up t) = [-22] := by
  rw [kind_due]
  unfold Kzk2.answer
  dsimp only
  rw [if_pos h]; rfl
theorem kind_2 {n i j : Nat} {t : List Nat} (h : Kzk1.okTowers n t = true) (h2 : n ≤ i ∨ n ≤ j) : PyKzk2.kind (n : Int) (i : Int) (j : Int) (up t) = [-2] := by
  rw [kind_due]
  unfold Kzk2.answer
  dsimp only
  rw [if_neg (by rw [h]; decide), if_pos h2]; rfl
theorem kind_ok {n i j : Nat} {t : List Nat} (h : Kzk1.okTowers n t = true) (h2 : ¬ (n ≤ i ∨ n ≤ j)) : PyKzk2.kind (n : Int) (i : Int) (j : Int) (up t) = [((watchN n i (t.getD j 0) : Nat) : Int)] := by
  rw [kind_due]
  unfold Kzk2.answer
  dsimp only
  rw [if_neg (by rw [h]; decide), if_neg h2]; rfl
end TW
/-! ## The defs: power_of_two, bit_at, fits, watching -/
namespace TW
open PySem PySem.Spec PyProof.Rows L2
open PySem.W (Codec)
def top (i : Nat) : Stmt := PySem.Challenge.pw_towerwatch_s01_kind.main.body.getD i (.Pass ⟨0, 0, 0, 0⟩)
abbrev sPow : Stmt := top 6
abbrev sBit : Stmt := top 7
abbrev sFits : Stmt := top 8
abbrev sWat : Stmt := top 9
theorem scP : FnScope ["exponent", "power", "step"] ["exponent"] (defScope sPow) := ⟨rfl, rfl, rfl, by decide +kernel, rfl, by decide +kernel, by decide +kernel⟩
theorem scB : FnScope ["number", "place"] ["number", "place"] (defScope sBit) := ⟨rfl, rfl, rfl, by decide +kernel, rfl, by decide +kernel, by decide +kernel⟩
theorem scF : FnScope ["n", "t", "limit", "rule"] ["n", "t"] (defScope sFits) := ⟨rfl, rfl, rfl, by decide +kernel, rfl, by decide +kernel, by decide +kernel⟩
theorem scW : FnScope ["n", "i", "rule", "lifted", "lowered", "state", "while_down", "while_up"] ["n", "i", "rule"] (defScope sWat) := ⟨rfl, rfl, rfl, by decide +kernel, rfl, by decide +kernel, by decide +kernel⟩
/-- a number, numbers, as the proof sees them -/
def nv (n : Nat) : V := .int (n : Int)
def spPow : Sp := fun vs H Q _ => ∃ e : Nat, vs = [nv e] ∧ e ≤ 1000 ∧ Q (nv (2 ^ e)) H
def spBit : Sp := fun vs H Q _ => ∃ a p : Nat, vs = [nv a, nv p] ∧ p < 30 ∧ Q (nv (dig a p)) H
def spFits (K : PySem.W.Frag) : Sp := fun vs H Q _ => ∃ (a : Addr) (n : Nat) (t : List Nat), vs = [nv n, .ref a] ∧ SqL K H a (t.map nv) ∧ t.length ≤ 10 ∧ ∀ H', Same H H' → Q (.bl (Kzk1.okTowers n t)) H'
def spWat : Sp := fun vs H Q _ => ∃ n i r : Nat, vs = [nv n, nv i, nv r] ∧ n ≤ 4 ∧ i < n ∧ Q (nv (watchN n i r)) H
theorem same_upd {H : Hp} {p : Addr} {o : HO} (h : H p = none) : Same H (upd H p o) := fun b x e => by
  rw [upd_ne (ne_of_none e h)]
  exact e
section
variable {P : Program} {w : World} {K : PySem.W.Frag} {mg : Str → Option Value} {base : Heap}
theorem ok_pow {f : Addr} {fd : FuncData} {k : Nat} (F : Fun K "power_of_two" "power_of_two" sPow f fd) (mr : mg "range" = none) : FnOk P w K mg base CX0 (k + 1) f fd ["exponent"] spPow := by
  refine F.ok scP (fun vs H Q E h => ?_) (fun cdv A outer s H vs Q E hr h => ?_)
  · obtain ⟨e, rfl, _⟩ := h
    rfl
  · obtain ⟨e, rfl, he, q⟩ := h
    refine ⟨_, pss_cons (ps_set (i := 1) scP.nd rfl (.inl rfl) pe_int)
      (pss_cons (ps_for PassesOwn.never rfl (pi_range1 (by rfl) mr (pa_cons (pv 0) pa_nil)) (pg_name (i := 2) scP.nd rfl (.inl rfl))
        (pss_one (ps_set (i := 1) scP.nd rfl (.inl rfl) (pe_op op_mul (pv 1) pe_int))))
      (pss_one (ps_ret (pv 1)))), ?_⟩
    refine ⟨_, rfl, (e : Int), rfl, by omega, by omega, for_range (lo := 0) (n := e) (fun i σ H' => ∃ y, σ = [some (nv e), some (nv (2 ^ i)), y] ∧ H' = H) ⟨none, rfl, rfl⟩ ?_ ?_⟩
    · rintro i σ H' hi ⟨y, rfl, rfl⟩
      refine ⟨_, rfl, _, _, rfl, rfl, .inr ⟨by decide, by decide⟩, some (.int (0 + i)), ?_, rfl⟩
      have e2 : nv (2 ^ (i + 1)) = .int (((2 ^ i : Nat) : Int) * 2) := by
        unfold nv
        rw [Nat.pow_succ]
        rfl
      rw [e2]
      rfl
    · rintro σ H' ⟨y, rfl, rfl⟩
      exact ⟨_, rfl, q⟩
theorem ok_bit {f fP : Addr} {fd fdP : FuncData} {k : Nat} (F : Fun K "bit_at" "bit_at" sBit f fd) (GP : FnOk P w K mg base CX0 (k + 1) fP fdP ["exponent"] spPow) (kP : PySem.W.keepIn K (.ref fP) = true) (bP : Binds K fdP ["exponent"] []) (gP : mg "power_of_two" = some (.ref fP)) :
    FnOk P w K mg base CX0 (k + 2) f fd ["number", "place"] spBit := by
  refine F.ok scB (fun vs H Q E h => ?_) (fun cdv A outer s H vs Q E hr h => ?_)
  · obtain ⟨a, p, rfl, _⟩ := h
    rfl
  · obtain ⟨a, p, rfl, hp, q⟩ := h
    refine ⟨_, pss_one (ps_ret (pe_op op_mod (pe_op op_fdiv (pv 0) (pe_call GP hr (by rfl) gP kP bP .nil pass0 (pa_cons (pv 1) pa_nil))) pe_int)), ?_⟩
    have h1 : 2 ^ p < 2 ^ 30 := Nat.pow_lt_pow_right (by omega) hp
    have h0 : 0 < 2 ^ p := Nat.pow_pos (by omega)
    refine ⟨_, rfl, _, rfl, p, rfl, by omega, (a : Int), ((2 ^ p : Nat) : Int), rfl, rfl, ⟨by omega, by omega⟩, ((a : Int) / ((2 ^ p : Nat) : Int)), 2, rfl, rfl, (by show (0 : Int) < 2; decide), ?_⟩
    have e : nv (dig a p) = .int ((a : Int) / ((2 ^ p : Nat) : Int) % 2) := rfl
    show Q (.int ((a : Int) / ((2 ^ p : Nat) : Int) % 2)) H
    rw [← e]
    exact q
theorem nv_map (t : List Nat) : (up t).map V.int = t.map nv := by
  unfold up
  rw [List.map_map]
  rfl
theorem get_nv {t : List Nat} {i : Nat} {x : V} (h : (t.map nv)[i]? = some x) : ∃ r, t[i]? = some r ∧ x = nv r := by
  rw [List.getElem?_map] at h
  cases e : t[i]? with
  | none => rw [e] at h; cases h
  | some r => rw [e] at h; exact ⟨r, rfl, (Option.some.inj h).symm⟩
theorem take_more {α β : Type} (g : α → β) {t : List α} {i : Nat} {r : α} (h : t[i]? = some r) : (t.take (i + 1)).map g = (t.take i).map g ++ [g r] := by
  rw [List.take_add_one, h, List.map_append]
  rfl
theorem ok_fits {f fP : Addr} {fd fdP : FuncData} {k : Nat} {tM : Tok} (F : Fun K "fits" "fits" sFits f fd) (GP : FnOk P w K mg base CX0 (k + 1) fP fdP ["exponent"] spPow) (kP : PySem.W.keepIn K (.ref fP) = true) (bP : Binds K fdP ["exponent"] []) (gP : mg "power_of_two" = some (.ref fP))
    (gM : mg "MOST_TOWERS" = some (.int 4 tM)) (ml : mg "len" = none) (ma : mg "all" = none) : FnOk P w K mg base CX0 (k + 2) f fd ["n", "t"] (spFits K) := by
  refine F.ok scF (fun vs H Q E h => ?_) (fun cdv A outer s H vs Q E hr h => ?_)
  · obtain ⟨a, n, t, rfl, _⟩ := h
    rfl
  · obtain ⟨a, n, t, rfl, hS, hl, q⟩ := h
    refine ⟨_, pss_cons (ps_if (PW.pt (pw_or (pt_cmpR op_lt (pv 0) pe_int (nomark _)) (pw_or1 (pt_cmpR op_gt (pv 0) (pe_glob (v := .int 4) (by rfl) gM ⟨_, rfl⟩) (nomark _))))) (pss_one (ps_ret pe_bl)) pss_nil)
      (pss_cons (ps_if (pt_cmpR op_ne (pe_callB call_len_seq (by rfl) ml PySem.boot_len (pa_cons (pv 1) pa_nil)) (pv 0) (nomark _)) (pss_one (ps_ret pe_bl)) pss_nil)
      (pss_cons (ps_set (i := 2) scF.nd rfl (Or.inr rfl) (pe_call GP hr (by rfl) gP kP bP .nil pass0 (pa_cons (pe_call GP hr (by rfl) gP kP bP .nil pass0 (pa_cons (pv 0) pa_nil)) pa_nil)))
      (pss_one (ps_ret (pe_callB (cr_all rfl) (by rfl) ma (by decide +kernel) (pa_cons (pe_lc (own := [("rule", 3)]) (g := gName 3) (tt := tYes) rfl scF.nd (pi_list (pv 1)) (blkOk_by (own := [("rule", 3)]) (N := ["n", "t", "limit", "rule"]) (sc := defScope sFits) (by decide +kernel)) (fun _ _ _ _ _ => pg_name (i := 3) scF.nd rfl (Or.inl rfl)) (fun _ _ _ _ _ => pts_nil) (fun _ _ _ _ _ => pe_cmpR op_lt (pv 3) (pv 2) (nomark _))) pa_nil)))))), ?_⟩
    have fin : ∀ {b : Bool} {H' : Hp}, Same H H' → Kzk1.okTowers n t = b → Q (.bl b) H' := fun s e => e ▸ q _ s
    refine ⟨_, rfl, _, _, rfl, rfl, _, rfl, ite2 (fun c => ?_) (fun c => ?_)⟩
    · have c1 : (n : Int) < 1 := of_decide_eq_true c
      exact fin (Same.refl H) (ok_n (by omega))
    · have c1 : ¬ (n : Int) < 1 := fun z => c (decide_eq_true z)
      refine ⟨_, rfl, _, _, rfl, rfl, _, rfl, ite2 (fun d => ?_) (fun d => ?_)⟩
      · have d1 : (4 : Int) < (n : Int) := of_decide_eq_true d
        exact fin (Same.refl H) (ok_n (by omega))
      · have d1 : ¬ (4 : Int) < (n : Int) := fun z => d (decide_eq_true z)
        refine ⟨.ref a, rfl, a, t.map nv, rfl, .inl hS, _, rfl, rfl, _, rfl, ?_⟩
        by_cases e : t.length = n
        · have hn : n ≤ 4 := by omega
          have h4 : 2 ^ n ≤ 2 ^ 4 := pow_le hn
          refine iteNS (by rw [List.length_map, e]; rfl) ?_
          refine ⟨_, rfl, n, rfl, by omega, 2 ^ n, rfl, by omega, ?_⟩
          refine ⟨.ref a, rfl, a, rfl, ⟨_, hS⟩, fun D hD => lc_list (K := K) (a := a) (xs := t.map nv)
            (fun i H' => Same H H' ∧ H' D = some (.lst ((t.take i).map fun (r : Nat) => V.bl (decide ((r : Int) < ((2 ^ 2 ^ n : Nat) : Int)))))) ⟨same_upd hD, upd_same⟩ (fun i H' _ h => h.1.seq hS) ?_ ?_⟩
          · rintro i x H' hx ⟨sm, hd⟩
            obtain ⟨r, hr1, rfl⟩ := get_nv hx
            refine ⟨rfl, _, rfl, _, rfl, _, _, rfl, rfl, _, hd, ?_, ?_, ?_⟩
            · rw [List.length_map, List.length_take]
              exact Nat.lt_of_le_of_lt (Nat.min_le_right _ _) (Nat.lt_of_le_of_lt hl (by decide))
            · intro b o eb
              rw [upd_ne (ne_of_none eb hD)]
              exact sm b o eb
            · rw [upd_same, take_more _ hr1]
          · rintro H' ⟨sm, hd⟩
            rw [List.length_map, List.take_length] at hd
            refine ⟨D, t.map fun (r : Nat) => decide ((r : Int) < ((2 ^ 2 ^ n : Nat) : Int)), rfl, SqL.of (hd.trans ?_), ?_⟩
            · rw [List.map_map]
              rfl
            · rw [all_range_lt]
              exact fin sm (ok_all (by omega) e)
        · rw [decide_eq_false (fun z => e (by
            rw [List.length_map] at z
            have z2 := V.int.inj z
            omega))]
          refine iteT ?_
          exact fin (Same.refl H) (ok_len e)
theorem ok_wat {f fP fB : Addr} {fd fdP fdB : FuncData} {k : Nat} {t1 t2 : Tok} (F : Fun K "watching" "watching" sWat f fd) (GP : FnOk P w K mg base CX0 (k + 1) fP fdP ["exponent"] spPow) (kP : PySem.W.keepIn K (.ref fP) = true) (bP : Binds K fdP ["exponent"] []) (gP : mg "power_of_two" = some (.ref fP))
    (GB : FnOk P w K mg base CX0 (k + 2) fB fdB ["number", "place"] spBit) (kB : PySem.W.keepIn K (.ref fB) = true) (bB : Binds K fdB ["number", "place"] []) (gB : mg "bit_at" = some (.ref fB))
    (g1 : mg "LIFTED" = some (.int 1 t1)) (g2 : mg "LOWERED" = some (.int 2 t2)) (mr : mg "range" = none) : FnOk P w K mg base CX0 (k + 3) f fd ["n", "i", "rule"] spWat := by
  refine F.ok scW (fun vs H Q E h => ?_) (fun cdv A outer s H vs Q E hr h => ?_)
  · obtain ⟨n, i, r, rfl, _⟩ := h
    rfl
  · obtain ⟨n, i, r, rfl, hn, hi, q⟩ := h
    have hrP : Room (k + 1) _ := hr.mono (by omega)
    refine ⟨_, pss_cons (ps_set (i := 3) scW.nd rfl (.inl rfl) pe_int)
      (pss_cons (ps_set (i := 4) scW.nd rfl (.inl rfl) pe_int)
      (pss_cons (ps_for PassesOwn.never rfl (pi_range1 (by rfl) mr (pa_cons (pe_call GP hrP (by rfl) gP kP bP .nil pass0 (pa_cons (pv 0) pa_nil)) pa_nil)) (pg_name (i := 5) scW.nd rfl (.inl rfl))
        (pss_one (ps_if (pt_cmpR op_eq (pe_call GB hr (by rfl) gB kB bB .nil pass0 (pa_cons (pv 5) (pa_cons (pv 1) pa_nil))) pe_int (nomark _))
          (pss_cons (ps_set (i := 6) scW.nd rfl (.inl rfl) (pe_call GB hr (by rfl) gB kB bB .nil pass0 (pa_cons (pv 2) (pa_cons (pv 5) pa_nil))))
          (pss_cons (ps_set (i := 7) scW.nd rfl (.inl rfl) (pe_call GB hr (by rfl) gB kB bB .nil pass0 (pa_cons (pv 2) (pa_cons (pe_op op_add (pv 5) (pe_call GP hrP (by rfl) gP kP bP .nil pass0 (pa_cons (pv 1) pa_nil))) pa_nil))))
          (pss_cons (ps_if (pt_cmpR op_lt (pv 6) (pv 7) (nomark _)) (pss_one (ps_set (i := 3) scW.nd rfl (.inl rfl) (pe_glob (v := .int 1) (by rfl) g1 ⟨_, rfl⟩))) pss_nil)
          (pss_one (ps_if (pt_cmpR op_gt (pv 6) (pv 7) (nomark _)) (pss_one (ps_set (i := 4) scW.nd rfl (.inl rfl) (pe_glob (v := .int 2) (by rfl) g2 ⟨_, rfl⟩))) pss_nil))))) pss_nil)))
      (pss_one (ps_ret (pe_op op_add (pv 3) (pv 4)))))), ?_⟩
    have h4 : 2 ^ n ≤ 2 ^ 4 := pow_le hn
    have h3 : 2 ^ i ≤ 2 ^ 3 := pow_le (by omega)
    have z0 : -(2 ^ 62) ≤ ((2 ^ n : Nat) : Int) := Int.le_trans (by decide) (Int.natCast_nonneg _)
    have z4 : ((2 ^ n : Nat) : Int) < 2 ^ 62 := Int.lt_of_le_of_lt (Int.ofNat_le.mpr h4) (by decide)
    refine ⟨_, rfl, n, rfl, by omega, ((2 ^ n : Nat) : Int), rfl, z0, z4, for_range (lo := 0) (n := 2 ^ n)
      (fun k σ H' => ∃ y5 y6 y7, σ = [some (nv n), some (nv i), some (nv r), some (nv (liftN i r k)), some (nv (lowN i r k)), y5, y6, y7] ∧ H' = H) ⟨none, none, none, rfl, rfl⟩ ?_ ?_⟩
    · rintro k σ H' hk ⟨y5, y6, y7, rfl, rfl⟩
      have ek : V.int (0 + (k : Int)) = nv k := by
        unfold nv
        rw [Int.zero_add]
      rw [ek]
      refine ⟨_, rfl, _, rfl, k, i, rfl, by omega, rfl, _, rfl, ite2 (fun c => ?_) (fun c => ?_)⟩
      · have c0 : dig k i = 0 := by
          have z := V.int.inj (of_decide_eq_true c)
          omega
        refine ⟨_, rfl, _, rfl, r, k, rfl, by omega, _, rfl, _, rfl, _, rfl, i, rfl, by omega, (k : Int), ((2 ^ i : Nat) : Int), rfl, rfl, r, k + 2 ^ i, rfl, by omega, ?_⟩
        have eL := liftN_succ i r k
        have eD := lowN_succ i r k
        rw [lift_down c0] at eL
        rw [low_down c0] at eD
        have hc : ∀ {a b : Nat}, (decide ((a : Int) < (b : Int)) = true) ↔ a < b := fun {a b} => by
          rw [decide_eq_true_iff]
          omega
        refine ⟨_, rfl, _, rfl, (dig r k : Int), (dig r (k + 2 ^ i) : Int), rfl, rfl, _, rfl, ite2 (fun c1 => ?_) (fun c1 => ?_)⟩
        · rw [if_pos (decide_eq_true (hc.mp c1))] at eL
          refine ⟨_, rfl, _, rfl, (dig r k : Int), (dig r (k + 2 ^ i) : Int), rfl, rfl, _, rfl, ite2 (fun c2 => ?_) (fun c2 => ?_)⟩
          · have l1 := hc.mp c1
            have l2 := hc.mp c2
            omega
          · rw [if_neg (fun z => c2 (hc.mpr (of_decide_eq_true z)))] at eD
            refine ⟨some (nv k), some (nv (dig r k)), some (nv (dig r (k + 2 ^ i))), ?_, rfl⟩
            rw [eL, eD]
            rfl
        · rw [if_neg (fun z => c1 (hc.mpr (of_decide_eq_true z)))] at eL
          refine ⟨_, rfl, _, rfl, (dig r k : Int), (dig r (k + 2 ^ i) : Int), rfl, rfl, _, rfl, ite2 (fun c2 => ?_) (fun c2 => ?_)⟩
          · rw [if_pos (decide_eq_true (hc.mp c2))] at eD
            refine ⟨some (nv k), some (nv (dig r k)), some (nv (dig r (k + 2 ^ i))), ?_, rfl⟩
            rw [eL, eD]
            rfl
          · rw [if_neg (fun z => c2 (hc.mpr (of_decide_eq_true z)))] at eD
            refine ⟨some (nv k), some (nv (dig r k)), some (nv (dig r (k + 2 ^ i))), ?_, rfl⟩
            rw [eL, eD]
            rfl
      · have c0 : dig k i ≠ 0 := fun z => c (decide_eq_true (by rw [z]; rfl))
        refine ⟨some (nv k), y6, y7, ?_, rfl⟩
        rw [liftN_succ, lowN_succ, lift_up c0, low_up c0]
        rfl
    · rintro σ H' ⟨y5, y6, y7, rfl, rfl⟩
      exact ⟨_, rfl, _, rfl, _, _, rfl, rfl, q⟩
end
end TW
/-! ## kind -/
namespace TW
open PySem PySem.Spec PyProof.Rows L2
open PySem.W (Codec)
abbrev sKind : Stmt := top 10
theorem scK : FnScope ["n", "i", "j", "t"] ["n", "i", "j", "t"] (defScope sKind) := ⟨rfl, rfl, rfl, by decide +kernel, rfl, by decide +kernel, by decide +kernel⟩
def spKind (K : PySem.W.Frag) : Sp := fun vs H Q _ => ∃ (a : Addr) (n i j : Nat) (t : List Nat), vs = [nv n, nv i, nv j, .ref a] ∧ SqL K H a (t.map nv) ∧ t.length ≤ 10 ∧
  ∀ (H' : Hp) (p : Addr), H' p = some (.lst ((PyKzk2.kind (n : Int) (i : Int) (j : Int) (up t)).map V.int)) → Q (.ref p) H'
section
variable {P : Program} {w : World} {K : PySem.W.Frag} {mg : Str → Option Value} {base : Heap}
theorem ok_kind {f fF fW : Addr} {fd fdF fdW : FuncData} {k : Nat} {t1 t2 : Tok} (F : Fun K "kind" "kind" sKind f fd)
    (GF : FnOk P w K mg base CX0 (k + 2) fF fdF ["n", "t"] (spFits K)) (kF : PySem.W.keepIn K (.ref fF) = true) (bF : Binds K fdF ["n", "t"] []) (gF : mg "fits" = some (.ref fF))
    (GW : FnOk P w K mg base CX0 (k + 3) fW fdW ["n", "i", "rule"] spWat) (kW : PySem.W.keepIn K (.ref fW) = true) (bW : Binds K fdW ["n", "i", "rule"] []) (gW : mg "watching" = some (.ref fW))
    (g1 : mg "DOES_NOT_FIT" = some (.int (-22) t1)) (g2 : mg "NO_SUCH_TOWER" = some (.int (-2) t2)) : FnOk P w K mg base CX0 (k + 4) f fd ["n", "i", "j", "t"] (spKind K) := by
  refine F.ok scK (fun vs H Q E h => ?_) (fun cdv A outer s H vs Q E hr h => ?_)
  · obtain ⟨a, n, i, j, t, rfl, _⟩ := h
    rfl
  · obtain ⟨a, n, i, j, t, rfl, hS, hl, q⟩ := h
    have hrF : Room (k + 2) _ := hr.mono (by omega)
    refine ⟨_, pss_cons (ps_if (pt_not (pt_val (pe_call GF hrF (by rfl) gF kF bF .nil pass0 (pa_cons (pv 0) (pa_cons (pv 3) pa_nil))))) (pss_one (ps_ret (pe_lst (pa_cons (pe_glob (v := .int (-22)) (by rfl) g1 ⟨_, rfl⟩) pa_nil)))) pss_nil)
      (pss_cons (ps_if (PW.pt (pw_or (pt_cmpR op_ge (pv 1) (pv 0) (nomark _)) (pw_or1 (pt_cmpR op_ge (pv 2) (pv 0) (nomark _))))) (pss_one (ps_ret (pe_lst (pa_cons (pe_glob (v := .int (-2)) (by rfl) g2 ⟨_, rfl⟩) pa_nil)))) pss_nil)
      (pss_one (ps_ret (pe_lst (pa_cons (pe_call GW hr (by rfl) gW kW bW .nil pass0 (pa_cons (pv 0) (pa_cons (pv 1) (pa_cons (pe_ix ix_list (pv 3) (pv 2) (fun _ _ => rfl)) pa_nil)))) pa_nil))))), ?_⟩
    refine ⟨_, rfl, _, rfl, a, n, t, rfl, hS, hl, fun H1 s1 => ⟨_, rfl, ?_⟩⟩
    have fin : ∀ {l : List V} {p : Addr} {H' : Hp}, (PyKzk2.kind (n : Int) (i : Int) (j : Int) (up t)).map V.int = l → Q (.ref p) (upd H' p (.lst l)) := fun {l p H'} e => q _ p (by rw [upd_same, e])
    cases ok : Kzk1.okTowers n t with
    | false =>
      refine iteT ?_
      exact ⟨(by show 1 ≤ sizeLine; decide), fun p _ => fin (by rw [kind_22 ok]; rfl)⟩
    | true =>
      refine iteF ?_
      obtain ⟨o1, o2, o3⟩ := ok_iff ok
      refine ⟨_, rfl, _, rfl, _, _, rfl, rfl, _, rfl, ite2 (fun c => ?_) (fun c => ?_)⟩
      · have c1 : (n : Int) ≤ (i : Int) := of_decide_eq_true c
        exact ⟨(by show 1 ≤ sizeLine; decide), fun p _ => fin (by rw [kind_2 ok (by omega)]; rfl)⟩
      · have c1 : ¬ (n : Int) ≤ (i : Int) := fun z => c (decide_eq_true z)
        refine ⟨_, rfl, _, rfl, _, _, rfl, rfl, _, rfl, ite2 (fun d => ?_) (fun d => ?_)⟩
        · have d1 : (n : Int) ≤ (j : Int) := of_decide_eq_true d
          exact ⟨(by show 1 ≤ sizeLine; decide), fun p _ => fin (by rw [kind_2 ok (by omega)]; rfl)⟩
        · have d1 : ¬ (n : Int) ≤ (j : Int) := fun z => d (decide_eq_true z)
          have hj : j < t.length := by omega
          have gj : (t.map nv)[j]? = some (nv (t.getD j 0)) := by
            rw [List.getElem?_map, List.getD_eq_getElem?_getD, List.getElem?_eq_getElem hj]
            rfl
          refine ⟨_, rfl, _, rfl, _, rfl, _, rfl, a, t.map nv, (j : Int), nv (t.getD j 0), rfl, rfl, s1.seq hS, atI_nat (j := j) gj, n, i, t.getD j 0, rfl, o2, by omega, (by show 1 ≤ sizeLine; decide), fun p _ => fin ?_⟩
          rw [kind_ok ok (by omega)]
          rfl
end
end TW
/-! ## The end: what the top has written -/
namespace TW
open PySem PySem.Spec PyProof.Rows L2
open PySem.W (Codec)
theorem all_mk {P : Program} {w : World} {K : PySem.W.Frag} {h : Heap} {mg : Str → Option Value} {fa f0 f1 f2 f3 f4 : Addr} (X : K.In h) (G : h.Ns mainGlobals mg) (hfa : mg "kind" = some (.ref fa))
    {od0 an0 od1 an1 od2 an2 od3 an3 od4 an4 : Option Addr} {sl0 sl1 sl2 sl3 sl4 : Array (Option Value)} {oc0 kV0 dc0 pm0 cd0 ct0 oc1 kV1 dc1 pm1 cd1 ct1 oc2 kV2 dc2 pm2 cd2 ct2 oc3 kV3 dc3 pm3 cd3 ct3 oc4 kV4 dc4 pm4 cd4 ct4 : Value}
    {tk0 tk1 tk2 tk3 tk4 : Tok}
    (a0 : PySem.W.nsIn K mainGlobals "power_of_two" = some (some (.ref f0))) (l0 : K.lookup f0 = some ⟨oc0, od0, .func (PySem.W.fnOf "power_of_two" "power_of_two" (defArgs sPow) (defBody sPow) (defScope sPow) .none kV0 dc0 pm0 an0 cd0 ct0), sl0⟩) (c0 : PySem.W.codeIn K cd0 "power_of_two" = true) (k0 : PySem.W.keepIn K (.ref f0) = true)
    (a1 : PySem.W.nsIn K mainGlobals "bit_at" = some (some (.ref f1))) (l1 : K.lookup f1 = some ⟨oc1, od1, .func (PySem.W.fnOf "bit_at" "bit_at" (defArgs sBit) (defBody sBit) (defScope sBit) .none kV1 dc1 pm1 an1 cd1 ct1), sl1⟩) (c1 : PySem.W.codeIn K cd1 "bit_at" = true) (k1 : PySem.W.keepIn K (.ref f1) = true)
    (a2 : PySem.W.nsIn K mainGlobals "fits" = some (some (.ref f2))) (l2 : K.lookup f2 = some ⟨oc2, od2, .func (PySem.W.fnOf "fits" "fits" (defArgs sFits) (defBody sFits) (defScope sFits) .none kV2 dc2 pm2 an2 cd2 ct2), sl2⟩) (c2 : PySem.W.codeIn K cd2 "fits" = true) (k2 : PySem.W.keepIn K (.ref f2) = true)
    (a3 : PySem.W.nsIn K mainGlobals "watching" = some (some (.ref f3))) (l3 : K.lookup f3 = some ⟨oc3, od3, .func (PySem.W.fnOf "watching" "watching" (defArgs sWat) (defBody sWat) (defScope sWat) .none kV3 dc3 pm3 an3 cd3 ct3), sl3⟩) (c3 : PySem.W.codeIn K cd3 "watching" = true) (k3 : PySem.W.keepIn K (.ref f3) = true)
    (a4 : PySem.W.nsIn K mainGlobals "kind" = some (some (.ref f4))) (l4 : K.lookup f4 = some ⟨oc4, od4, .func (PySem.W.fnOf "kind" "kind" (defArgs sKind) (defBody sKind) (defScope sKind) .none kV4 dc4 pm4 an4 cd4 ct4), sl4⟩) (c4 : PySem.W.codeIn K cd4 "kind" = true) (k4 : PySem.W.keepIn K (.ref f4) = true)
    (gc0 : PySem.W.nsIn K mainGlobals "MOST_TOWERS" = some (some (.int (4) tk0)))
    (gc1 : PySem.W.nsIn K mainGlobals "LIFTED" = some (some (.int (1) tk1)))
    (gc2 : PySem.W.nsIn K mainGlobals "LOWERED" = some (some (.int (2) tk2)))
    (gc3 : PySem.W.nsIn K mainGlobals "DOES_NOT_FIT" = some (some (.int (-22) tk3)))
    (gc4 : PySem.W.nsIn K mainGlobals "NO_SUCH_TOWER" = some (some (.int (-2) tk4)))
    (z0 : PySem.W.nsIn K mainGlobals "range" = some none)
    (z1 : PySem.W.nsIn K mainGlobals "len" = some none)
    (z2 : PySem.W.nsIn K mainGlobals "all" = some none)
    : ∃ fd : FuncData, (∀ (s : Shared) (us : List Value), us.length = (["n", "i", "j", "t"] : List Str).length → BindsTo s fd ⟨us, []⟩ ((["n", "i", "j", "t"] : List Str).zip us)) ∧ ∀ base : Heap, K.In base → base.Ns mainGlobals mg → FnOk P w K mg base CX0 4 fa fd ["n", "i", "j", "t"] (spKind K) := by
  have e := hfa.symm.trans (PySem.W.mg_of X G a4)
  cases e
  have F0 := fun_mk (st := sPow) l0 c0 k0
  have b0 := F0.binds (ps := ["exponent"]) fun _ _ _ _ _ _ us hl => match us, hl with | [_], _ => rfl
  have m0 := PySem.W.mg_of X G a0
  have F1 := fun_mk (st := sBit) l1 c1 k1
  have b1 := F1.binds (ps := ["number", "place"]) fun _ _ _ _ _ _ us hl => match us, hl with | [_, _], _ => rfl
  have m1 := PySem.W.mg_of X G a1
  have F2 := fun_mk (st := sFits) l2 c2 k2
  have b2 := F2.binds (ps := ["n", "t"]) fun _ _ _ _ _ _ us hl => match us, hl with | [_, _], _ => rfl
  have m2 := PySem.W.mg_of X G a2
  have F3 := fun_mk (st := sWat) l3 c3 k3
  have b3 := F3.binds (ps := ["n", "i", "rule"]) fun _ _ _ _ _ _ us hl => match us, hl with | [_, _, _], _ => rfl
  have m3 := PySem.W.mg_of X G a3
  have F4 := fun_mk (st := sKind) l4 c4 k4
  have mc0 := PySem.W.mg_of X G gc0
  have mc1 := PySem.W.mg_of X G gc1
  have mc2 := PySem.W.mg_of X G gc2
  have mc3 := PySem.W.mg_of X G gc3
  have mc4 := PySem.W.mg_of X G gc4
  have mz0 := PySem.W.mg_none_of X G z0
  have mz1 := PySem.W.mg_none_of X G z1
  have mz2 := PySem.W.mg_none_of X G z2
  refine ⟨PySem.W.fnOf "kind" "kind" (defArgs sKind) (defBody sKind) (defScope sKind) .none kV4 dc4 pm4 an4 cd4 ct4, fun s us hu => match us, hu with | [_, _, _, _], _ => .of_eq rfl, fun base _ _ => ?_⟩
  have GP : FnOk P w K mg base CX0 1 _ _ ["exponent"] spPow := ok_pow F0 mz0
  have GB : FnOk P w K mg base CX0 2 _ _ ["number", "place"] spBit := ok_bit (k := 0) F1 GP k0 b0 m0
  have GF : FnOk P w K mg base CX0 2 _ _ ["n", "t"] (spFits K) := ok_fits (k := 0) F2 GP k0 b0 m0 mc0 mz1 mz2
  have GW : FnOk P w K mg base CX0 3 _ _ ["n", "i", "rule"] spWat := ok_wat (k := 0) F3 GP k0 b0 m0 GB k1 b1 m1 mc1 mc2 mz0
  exact ok_kind (k := 0) F4 GF k2 b2 m2 GW k3 b3 m3 mc3 mc4
end TW
open PySem PySem.W PyProof.Rows
set_option maxRecDepth 100000 in
set_option maxHeartbeats 8000000 in
theorem PySem.Challenge.cw_towerwatch_s01_kind_holds : PySem.Challenge.rw_towerwatch_s01_kind.Holds := by
  w_on; k_headS; (case hw => exact ⟨[.int 0, .int 0, .int 0, .list []], by decide +kernel, by decide +kernel⟩)
  k_fillS
  refine L2.walk_specK (r := PySem.Challenge.rw_towerwatch_s01_kind) (k := 4) (CX := L2.CX0) (ps := ["n", "i", "j", "t"]) (sp := TW.spKind) (by decide +kernel) rfl rfl ⟨rfl, by decide, by decide⟩ (fun w h Y => PySem.W.kIn_of Y) ?F ?S (fun _ _ _ _ z => z)
  case F =>
    intro w mg fa h Y KX G hmg
    refine' TW.all_mk KX G hmg ?a0 ?l0 ?c0 ?k0 ?a1 ?l1 ?c1 ?k1 ?a2 ?l2 ?c2 ?k2 ?a3 ?l3 ?c3 ?k3 ?a4 ?l4 ?c4 ?k4 ?gc0 ?gc1 ?gc2 ?gc3 ?gc4 ?z0 ?z1 ?z2
    (case a0 => k_is)
    (case l0 => k_is)
    (case c0 => k_is)
    (case k0 => k_is)
    (case a1 => k_is)
    (case l1 => k_is)
    (case c1 => k_is)
    (case k1 => k_is)
    (case a2 => k_is)
    (case l2 => k_is)
    (case c2 => k_is)
    (case k2 => k_is)
    (case a3 => k_is)
    (case l3 => k_is)
    (case c3 => k_is)
    (case k3 => k_is)
    (case a4 => k_is)
    (case l4 => k_is)
    (case c4 => k_is)
    (case k4 => k_is)
    (case gc0 => k_is)
    (case gc1 => k_is)
    (case gc2 => k_is)
    (case gc3 => k_is)
    (case gc4 => k_is)
    (case z0 => k_is)
    (case z1 => k_is)
    (case z2 => k_is)
  case S =>
    intro K H xs a hO hwi hask hx
    obtain ⟨n, i, j, t, u⟩ := a
    cases hx with
    | cons h1 h2 =>
    cases h2 with
    | cons h2 h3 =>
    cases h3 with
    | cons h3 h4 =>
    cases h4 with
    | cons h4 h5 =>
    cases h5
    cases h1
    cases h2
    cases h3
    cases h4 with
    | lst hs ha =>
      have e := L2.ints_dw t _ ha
      subst e
      have q : (Codec.inInt 0 4294967295 n && (Codec.inInt 0 4294967295 i && (Codec.inInt 0 4294967295 j && ((Codec.inLen 0 10 t && t.all (Codec.inInt 0 65535)) && true)))) = true := hwi
      simp only [Bool.and_eq_true] at q
      obtain ⟨q1, q2, q3, ⟨q4, q5⟩, _⟩ := q
      obtain ⟨n, rfl⟩ := Int.eq_ofNat_of_zero_le (Codec.inInt_iff.mp q1).1
      obtain ⟨i, rfl⟩ := Int.eq_ofNat_of_zero_le (Codec.inInt_iff.mp q2).1
      obtain ⟨j, rfl⟩ := Int.eq_ofNat_of_zero_le (Codec.inInt_iff.mp q3).1
      obtain ⟨t, rfl⟩ := TW.nats_of fun x hx => (Codec.inInt_iff.mp (List.all_eq_true.mp q5 x hx)).1
      rw [TW.nv_map] at hs
      have hl := (Codec.inNat_iff.mp q4).2
      rw [show (TW.up t).length = t.length from List.length_map ..] at hl
      exact ⟨_, n, i, j, t, rfl, hs, hl, fun H' p hp => .lst (L2.SqL.of hp) (L2.dw_ints _)⟩
#print axioms PySem.Challenge.cw_towerwatch_s01_kind_holds
